/- The model's VaultsGet. -/
import Derived.Test.YthkdkefkgmmoiaaWf
namespace Go.Proofs.Ythkdkefkgmmoiaa
open Go.RowKit

def idxK (ks : Ks) (d : Nat) (xs : List KepR) (o : Int) (t : ByteArray) : Option Nat := if vOk ks d xs = true then (if 0 ≤ findK o t xs 0 then some (findK o t xs 0).toNat else none) else none
theorem idxK_no {ks : Ks} {d : Nat} {xs : List KepR} {o : Int} {t : ByteArray} (h : vOk ks d xs = false) : idxK ks d xs o t = none := by unfold idxK; rw [h]; rfl
theorem idxK_neg {ks : Ks} {d : Nat} {xs : List KepR} {o : Int} {t : ByteArray} (h : findK o t xs 0 < 0) : idxK ks d xs o t = none := by unfold idxK; rw [if_neg (show ¬ 0 ≤ findK o t xs 0 by omega)]; split <;> rfl
theorem idxK_yes {ks : Ks} {d : Nat} {xs : List KepR} {o : Int} {t : ByteArray} (h : vOk ks d xs = true) (h0 : ¬ findK o t xs 0 < 0) : ∃ j, idxK ks d xs o t = some j ∧ findK o t xs 0 = (j : Int) ∧ j < xs.length := by
  rcases findK_at (o := o) (t := t) xs 0 with h1 | ⟨j, hj, h2, -⟩
  · omega
  · refine ⟨j, ?_, by omega, hj⟩
    unfold idxK
    rw [if_pos h, if_pos (by omega), h2]
    simp
theorem idxK_some {ks : Ks} {d : Nat} {xs : List KepR} {o : Int} {t : ByteArray} {j : Nat} (h : idxK ks d xs o t = some j) : vOk ks d xs = true ∧ findK o t xs 0 = (j : Int) ∧ j < xs.length := by
  cases hv : vOk ks d xs with
  | false => rw [idxK_no hv] at h; cases h
  | true =>
    by_cases h0 : findK o t xs 0 < 0
    · rw [idxK_neg h0] at h; cases h
    · obtain ⟨j', h1, h2, h3⟩ := idxK_yes hv h0
      rw [h1] at h
      cases h
      exact ⟨rfl, h2, h3⟩
def zeroV5 : Val := .mk ⟨#[]⟩ 0 [] []
def getR (ks : Ks) (d : Nat) (xs : List KepR) (o : Int) (t : ByteArray) : Val × Bool := match idxK ks d xs o t with | some j => ((xs.getD j zeroK).v, true) | none => (zeroV5, false)
def GetD (d : Nat) (r : Val × Bool) (w : World) (e : Ending) (w' : World) : Prop :=
  ∃ A cA B cB, e = .returned (.tuple #[.agg #[.string r.1.ty, .int .i64 r.1.n, .slice A r.1.parts.length cA, .slice B r.1.path.length cB], .bool r.2]) ∧ MadeV (Cod.val d) w w' (.slice A r.1.parts.length cA) (.slice B r.1.path.length cB) r.1
theorem zero_made {d : Nat} {w w' : World} (h : Below w.heap.size w w') : MadeV (Cod.val d) w w' (.slice none 0 0) (.slice none 0 0) zeroV5 := ⟨⟨(by show (0 : Nat) ≤ maxLen; unfold maxLen; omega), (by show I64 0; unfold I64; omega), Cod.Sl.nil_, Cod.Sl.nil_⟩, h⟩
theorem set4_below {w w' : World} {B g : Nat} (hb : Below B w w') (hg : B ≤ g) (a b c d : Value) : Below B w ((((w'.setCell ⟨g, 0, none⟩ a).setCell ⟨g, 1, none⟩ b).setCell ⟨g, 2, none⟩ c).setCell ⟨g, 3, none⟩ d) := (((hb.setCell hg _).setCell hg _).setCell hg _).setCell hg _
theorem set4_blk {w : World} {g : Nat} {t : TypeId} {a0 b0 c0 d0 : Value} (h : Blk w g t #[a0, b0, c0, d0]) (a b c d : Value) : Blk ((((w.setCell ⟨g, 0, none⟩ a).setCell ⟨g, 1, none⟩ b).setCell ⟨g, 2, none⟩ c).setCell ⟨g, 3, none⟩ d) g t #[a, b, c, d] := (((h.set_ 0 _).set_ 1 _).set_ 2 _).set_ 3 _
theorem set4_heap {w : World} {g : Nat} (a b c d : Value) {i : Nat} (h : i ≠ g) : ((((w.setCell ⟨g, 0, none⟩ a).setCell ⟨g, 1, none⟩ b).setCell ⟨g, 2, none⟩ c).setCell ⟨g, 3, none⟩ d).heap[i]? = w.heap[i]? := by
  rw [Below.heap_setCell _ _ _ _ h, Below.heap_setCell _ _ _ _ h, Below.heap_setCell _ _ _ _ h, Below.heap_setCell _ _ _ _ h]
theorem set4_size {w : World} {g : Nat} (a b c d : Value) : ((((w.setCell ⟨g, 0, none⟩ a).setCell ⟨g, 1, none⟩ b).setCell ⟨g, 2, none⟩ c).setCell ⟨g, 3, none⟩ d).heap.size = w.heap.size := by simp [World.setCell]

end Go.Proofs.Ythkdkefkgmmoiaa
