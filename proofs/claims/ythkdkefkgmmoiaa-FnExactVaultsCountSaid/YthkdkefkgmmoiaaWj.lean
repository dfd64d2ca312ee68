/- The model's VaultsPut and VaultsSet. -/
import Derived.Test.YthkdkefkgmmoiaaWf
import Derived.Test.YthkdkefkgmmoiaaWi
namespace Go.Proofs.Ythkdkefkgmmoiaa
open Go.RowKit

def RowKD (d : Nat) (r : List KepR × Bool) (w : World) (e : Ending) (w' : World) : Prop :=
  ∃ A cap, e = .returned (.tuple #[.slice A r.1.length cap, .bool r.2]) ∧ Made (Cod.kept (Cod.val d)) w w' (.slice A r.1.length cap) r.1
theorem made_row {d M : Nat} {w w' : World} {v : Value} {xs : List KepR} (h : OwnRow (Cod.kept (Cod.val d)) 97 M M w' v xs) (hM : w.heap.size ≤ M) (hb : Below w.heap.size w w') : Made (Cod.kept (Cod.val d)) w w' v xs :=
  ⟨(h.sl (Nat.le_refl _)).mono fun b hb => ⟨Nat.le_trans hM hb.1, hb.2⟩, hb⟩
theorem made_row2 {d M base : Nat} {w w' : World} {v : Value} {xs : List KepR} (h : OwnRow (Cod.kept (Cod.val d)) 97 base M w' v xs) (hM : w.heap.size ≤ M) (hbs : M ≤ base) (hb : Below w.heap.size w w') : Made (Cod.kept (Cod.val d)) w w' v xs :=
  ⟨(h.sl hbs).mono fun b hb => ⟨Nat.le_trans hM hb.1, hb.2⟩, hb⟩
theorem Cod.Sl.none_len5 {α : Type} {c : Cod α} {F : Nat → Prop} {w : World} {A : Option Addr} {cap : Nat} (hc : cap ≤ maxLen) : c.Sl F w (.slice A 0 cap) ([] : List α) := ⟨A, cap, rfl, Nat.zero_le _, hc, fun h => absurd h (by simp)⟩
theorem made_lit {d : Nat} {w w2 : World} (hb : Below w.heap.size w w2) : Made (Cod.kept (Cod.val d)) w (w2.alloc (.cells #[] 97)) (.slice (some ⟨w2.heap.size, 0, none⟩) 0 0) ([] : List KepR) :=
  ⟨Cod.Sl.none_len5 (Nat.zero_le _), hb.alloc hb.size _⟩
/-- Where a record can be put. -/
def canPut (ks : Ks) (d : Nat) (xs : List KepR) (o : Int) (v : Val) : Bool := vOk ks d xs && (inB o 0 3 && (keptB ks d v && decide (findK o v.ty xs 0 < 0)))
def putR (ks : Ks) (d : Nat) (xs : List KepR) (o : Int) (v : Val) : List KepR × Bool := if canPut ks d xs o v = true then (putK o v xs, true) else ([], false)
theorem putR_no {ks : Ks} {d : Nat} {xs : List KepR} {o : Int} {v : Val} (h : canPut ks d xs o v = false) : putR ks d xs o v = ([], false) := by unfold putR; rw [h]; rfl
def setK (xs : List KepR) (j : Nat) (v : Val) : List KepR := xs.set j ⟨(xs.getD j zeroK).o, v⟩
def setR (ks : Ks) (d : Nat) (xs : List KepR) (o : Int) (v : Val) : List KepR × Bool := match idxK ks d xs o v.ty with | some j => if keptB ks d v = true then (setK xs j v, true) else ([], false) | none => ([], false)
theorem vOk_ables {ks : Ks} {d : Nat} {xs : List KepR} (h : vOk ks d xs = true) : AblesIn ks ∧ xs.length ≤ 36 := by
  unfold vOk at h
  simp only [Bool.and_eq_true] at h
  exact ⟨ables_in h.1, okList_len h.2⟩

end Go.Proofs.Ythkdkefkgmmoiaa
