/- The model's vaults: whether they are ones, and where a record is. -/
import Derived.Test.YtemlpiokdoeeeaaDoorWc
namespace Go.Proofs.YtemlpiokdoeeeaaDoor
open Go.RowKit

def vOk (ks : Ks) (d : Nat) (xs : List KepR) : Bool := kindsOk ks && okList ks d xs

set_option maxRecDepth 100000 in
set_option maxHeartbeats 1000000 in
theorem specVaultsOk_any {ks : Ks} (d : Nat) (F : Nat → Prop) (kv v : Value) (xs : List KepR) (w : World) (hks : Cod.recs.Sl F w kv ks) (h : (Cod.kept (Cod.val d)).Sl F w v xs) (hF : ∀ b, F b → b < w.heap.size) :
    Calls Tryd.prog 14 #[kv, v] w fun e w' => e = .returned (.bool (vOk ks d xs)) ∧ Below w.heap.size w w' := by
  have HS := Lib.hid hks
  have HV := Lib.hid h
  have HF := Lib.hid hF
  have HK := Lib.hid (specKindsOk_any F kv ks w hks hF)
  obtain ⟨Ak, ck, rfl, _⟩ := hks
  obtain ⟨A, cap, rfl, _⟩ := h
  clear hF
  cases hk : kindsOk ks with
  | false =>
    rw [hk] at HK
    have HR := Lib.hid (show vOk ks d xs = false by unfold vOk; rw [hk]; rfl)
    clear hk
    go_enter Tryd.func14, Tryd.ntmps14
    go_wp2_with fail
    go_at_call 27
    with_reducible refine HK.out.mono ?_
    rintro e w1 ⟨rfl, hb⟩
    have HB := Lib.hid hb
    clear hb
    go_wp2
    go_ret
    exact ⟨ret_bool HR.out.symm, HB.out⟩
  | true =>
    rw [hk] at HK
    have HR := Lib.hid (show vOk ks d xs = okList ks d xs by unfold vOk; rw [hk]; rfl)
    have Hab := Lib.hid (ables_in hk)
    clear hk
    go_enter Tryd.func14, Tryd.ntmps14
    go_wp2_with fail
    go_at_call 27
    with_reducible refine HK.out.mono ?_
    rintro e w1 ⟨rfl, hb⟩
    have HL := Lib.hid (l9Ok_any d F _ _ xs w1 (HS.out.keep (below_keeps hb HF.out)) (HV.out.keep (below_keeps hb HF.out)) (below_goF HF.out hb) Hab.out)
    have HB := Lib.hid hb
    clear hb HK
    go_wp2_with fail
    go_at_call 28
    with_reducible refine HL.out.mono ?_
    rintro e w2 ⟨rfl, hb2⟩
    have HB2 := Lib.hid (HB.out.trans (hb2.mono HB.out.size))
    clear hb2
    go_wp2
    go_ret
    exact ⟨ret_bool HR.out.symm, HB2.out⟩

def isK2 (o : Int) (t : ByteArray) (x : KepR) : Bool := (x.o == o) && (x.v.ty.toList == t.toList)
def findK (o : Int) (t : ByteArray) : List KepR → Nat → Int
  | [], _ => -1
  | x :: r, i => if isK2 o t x = true then (i : Int) else findK o t r (i + 1)
theorem findK_at {o : Int} {t : ByteArray} : ∀ (xs : List KepR) (i : Nat), findK o t xs i = -1 ∨ ∃ j, ∃ h : j < xs.length, findK o t xs i = ((i + j : Nat) : Int) ∧ isK2 o t xs[j] = true
  | [], _ => .inl rfl
  | x :: r, i => by
    unfold findK
    by_cases hx : isK2 o t x = true
    · rw [if_pos hx]
      exact .inr ⟨0, by simp, by simp, hx⟩
    · rw [if_neg hx]
      rcases findK_at r (i + 1) with h | ⟨j, h1, h2, h3⟩
      · exact .inl h
      · exact .inr ⟨j + 1, by simp; omega, by rw [h2]; omega, h3⟩

end Go.Proofs.YtemlpiokdoeeeaaDoor
