/- The program's types: what is exported, but for TypeHolds. -/
import Derived.Test.YtbjnjdhkillbiaaImd
namespace Go.Proofs.Ytbjnjdhkillbiaa
open Go.RowKit

/-- What tableOf hands back. -/
def TableOf (F : Nat → Prop) (ks : Ks) (W : World) (e : Ending) (w' : World) : Prop :=
  Below W.heap.size W w' ∧
  ((kindsOk ks = false ∧ e = .returned (.tuple #[.map none, .bool false])) ∨
   (kindsOk ks = true ∧ ∃ b l, e = .returned (.tuple #[.map (some b), .bool true]) ∧ MapIs (RecF F W) w' b l ∧ Tab ks ks.length 0 l ∧ W.heap.size ≤ b))

theorem Calls.parts {P : Program} {f : FuncId} {args : Array Value} {w : World} {R S : Ending → World → Prop} (h : Calls P f args w R) (hs : ∀ e w', R e w' → S e w') : Calls P f args w S := h.mono hs

theorem kindsOk_neg {ks : Ks} (h : kindsBad ks = (-1, -1)) : kindsOk ks = true := by unfold kindsOk; rw [h]; rfl
theorem kindsOk_pos {ks : Ks} (h : 0 ≤ (kindsBad ks).1) : kindsOk ks = false := by unfold kindsOk; rw [decide_eq_false_iff_not]; omega

set_option maxHeartbeats 400000 in
theorem tableOf_any (F : Nat → Prop) (v : Value) (ks : Ks) (w : World) (h : Cod.recs.Sl F w v ks) (hF : ∀ b, F b → b < w.heap.size) :
    Calls Try.prog 28 #[v] w (TableOf F ks w) := by
  go_enter Try.func28, Try.ntmps28
  go_wp2_with fail
  refine (readKinds_any F v ks _ h hF).mono ?_
  rintro e w1 ⟨hb, ⟨hk, rfl⟩ | ⟨hk, b, l, rfl, hm, ht, hw⟩⟩
  · have b1 : ((kindsBad ks).1 == -1) = false := by rw [beq_eq_false_iff_ne]; omega
    have HK := Lib.hid (kindsOk_pos hk)
    clear hk
    go_wp2
    go_ret2
    exact ⟨hb, .inl ⟨HK.out, rfl⟩⟩
  · have HM := Lib.hid hm
    have HT := Lib.hid ht
    have HK := Lib.hid (kindsOk_neg hk)
    clear hm ht hk
    go_wp2
    go_ret2
    exact ⟨hb, .inr ⟨HK.out, b, l, rfl, HM.out, HT.out, hw⟩⟩

/-- What the whole table says of a type is what the model says. -/
theorem field_all {ks : Ks} {t : ByteArray} : fieldB ks ks.length 0 t = plainB ks t := by
  unfold fieldB plainB
  cases hk : kindOf t with
  | none => simp
  | some mk =>
    obtain ⟨m, k⟩ := mk
    have hb : baseB t = false := by
      cases hb : baseB t with
      | false => rfl
      | true => rw [kindOf_base hb] at hk; cases hk
    simp only
    rw [hb, Bool.false_or]
    cases hh : hasB ks m k with
    | false => rfl
    | true =>
      obtain ⟨hm, _⟩ := has_at hh
      rw [decide_eq_true hm]; rfl

theorem ableL_eq {ks : Ks} {l : List (ByteArray × Rec)} (h : Tab ks ks.length 0 l) (hok : kindsOk ks = true) (t : ByteArray) : ableL l t = typeAble ks t := by
  have hah : Ahead ks ks.length 0 := fun a b hh _ => rec_able (ok_rec hok hh)
  unfold ableL typeAble typeOkB
  rw [plainL_eq h, field_all, hok, Bool.true_and]
  cases hp : plainB ks (ofT t) with
  | false => simp
  | true =>
    have hf : fieldB ks ks.length 0 (ofT t) = true := by rw [field_all]; exact hp
    obtain ⟨h0, _⟩ := able_field hf hah
    simp only [if_true]
    rw [if_neg (by omega)]
    cases hr : refB t with
    | true =>
      unfold ableT
      rw [hr]
      cases amp t <;> rfl
    | false =>
      have ho : ofT t = t := by unfold ofT; rw [hr]; rfl
      rw [ho]; rfl

theorem typeAble_iff {ks : Ks} {t : ByteArray} : (typeAble ks t != -1) = typeOkB ks t := by
  unfold typeAble
  cases ht : typeOkB ks t with
  | false => rfl
  | true =>
    have hok : kindsOk ks = true := by unfold typeOkB at ht; simp only [Bool.and_eq_true] at ht; exact ht.1
    have hah : Ahead ks ks.length 0 := fun a b hh _ => rec_able (ok_rec hok hh)
    have h0 : 0 ≤ ableT ks t := by
      cases hr : refB t with
      | true =>
        unfold ableT
        rw [hr]
        cases amp t <;> simp
      | false =>
        have ho : ofT t = t := by unfold ofT; rw [hr]; rfl
        unfold typeOkB at ht
        rw [ho, hok, Bool.true_and, ← field_all] at ht
        exact (able_field ht hah).1
    simp only [if_true]
    rw [bne_iff_ne]
    omega

end Go.Proofs.Ytbjnjdhkillbiaa
