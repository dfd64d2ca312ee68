/- The program's types: what is exported, but for TypeHolds. -/
import Derived.Test.YtjmdhjnfekpklaaImd
namespace Go.Proofs.Ytjmdhjnfekpklaa
open Go.RowKit

/-- What tableOf hands back. -/
def TableOf (F : Nat → Prop) (ks : Ks) (W : World) (e : Ending) (w' : World) : Prop :=
  Below W.heap.size W w' ∧
  ((kindsOk ks = false ∧ e = .returned (.tuple #[.map none, .bool false])) ∨
   (kindsOk ks = true ∧ ∃ b l, e = .returned (.tuple #[.map (some b), .bool true]) ∧ MapIs (RecF F W) w' b l ∧ Tab ks ks.length 0 l ∧ W.heap.size ≤ b))

theorem Calls.parts {P : Program} {f : FuncId} {args : Array Value} {w : World} {R S : Ending → World → Prop} (h : Calls P f args w R) (hs : ∀ e w', R e w' → S e w') : Calls P f args w S := h.mono hs

theorem kindsOk_neg {ks : Ks} (h : kindsBad ks = (-1, -1)) : kindsOk ks = true := by unfold kindsOk; rw [h]; rfl
theorem kindsOk_pos {ks : Ks} (h : 0 ≤ (kindsBad ks).1) : kindsOk ks = false := by unfold kindsOk; rw [decide_eq_false_iff_not]; omega

set_option maxHeartbeats 400000 in
theorem implKindsBad_any (F : Nat → Prop) (v : Value) (ks : Ks) (w : World) (h : Cod.recs.Sl F w v ks) (hF : ∀ b, F b → b < w.heap.size) :
    Calls Try.prog 26 #[v] w fun e w' => e = .returned (.tuple #[.int .i64 (kindsBad ks).1, .int .i64 (kindsBad ks).2]) ∧ Below w.heap.size w w' := by
  go_enter Try.func26, Try.ntmps26
  go_wp2_with fail
  refine (readKinds_any F v ks _ h hF).mono ?_
  rintro e w1 ⟨hb, ⟨_, rfl⟩ | ⟨hk, b, l, rfl, _⟩⟩
  · go_wp2
    go_ret2
    exact ⟨rfl, hb⟩
  · go_wp2
    go_ret2
    exact ⟨ret_2 (by rw [hk]) (by rw [hk]), hb⟩

set_option maxHeartbeats 400000 in
theorem tableOf_any (F : Nat → Prop) (v : Value) (ks : Ks) (w : World) (h : Cod.recs.Sl F w v ks) (hF : ∀ b, F b → b < w.heap.size) :
    Calls Try.prog 56 #[v] w (TableOf F ks w) := by
  go_enter Try.func56, Try.ntmps56
  go_wp2_with fail
  refine (readKinds_any F v ks _ h hF).mono ?_
  rintro e w1 ⟨hb, ⟨hk, rfl⟩ | ⟨hk, b, l, rfl, hm, ht, hw⟩⟩
  · have b1 : ((kindsBad ks).1 == -1) = false := by rw [beq_eq_false_iff_ne]; omega
    have HK := Lib.hid (kindsOk_pos hk)
    clear hk
    go_wp2
    go_ret2
    exact ⟨hb, .inl ⟨HK.out, rfl⟩⟩
  · have HM := Lib.hid hm
    have HT := Lib.hid ht
    have HK := Lib.hid (kindsOk_neg hk)
    clear hm ht hk
    go_wp2
    go_ret2
    exact ⟨hb, .inr ⟨HK.out, b, l, rfl, HM.out, HT.out, hw⟩⟩

set_option maxHeartbeats 400000 in
theorem implKindsOk_any (F : Nat → Prop) (v : Value) (ks : Ks) (w : World) (h : Cod.recs.Sl F w v ks) (hF : ∀ b, F b → b < w.heap.size) :
    Calls Try.prog 23 #[v] w fun e w' => e = .returned (.bool (kindsOk ks)) ∧ Below w.heap.size w w' := by
  go_enter Try.func23, Try.ntmps23
  go_wp2_with fail
  refine (tableOf_any F v ks _ h hF).mono ?_
  rintro e w1 ⟨hb, ⟨hk, rfl⟩ | ⟨hk, b, l, rfl, hm, ht, hw⟩⟩
  · have HK := Lib.hid hk
    clear hk
    go_wp2
    go_ret
    exact ⟨ret_bool HK.out.symm, hb⟩
  · have HK := Lib.hid hk
    clear hk hm ht
    go_wp2
    go_ret
    exact ⟨ret_bool HK.out.symm, hb⟩

/-- What the whole table says of a type is what the model says. -/
theorem field_all {ks : Ks} {t : ByteArray} : fieldB ks ks.length 0 t = plainB ks t := by
  unfold fieldB plainB
  cases hk : kindOf t with
  | none => simp
  | some mk =>
    obtain ⟨m, k⟩ := mk
    have hb : baseB t = false := by
      cases hb : baseB t with
      | false => rfl
      | true => rw [kindOf_base hb] at hk; cases hk
    simp only
    rw [hb, Bool.false_or]
    cases hh : hasB ks m k with
    | false => rfl
    | true =>
      obtain ⟨hm, _⟩ := has_at hh
      rw [decide_eq_true hm]; rfl

theorem ableL_eq {ks : Ks} {l : List (ByteArray × Rec)} (h : Tab ks ks.length 0 l) (hok : kindsOk ks = true) (t : ByteArray) : ableL l t = typeAble ks t := by
  have hah : Ahead ks ks.length 0 := fun a b hh _ => rec_able (ok_rec hok hh)
  unfold ableL typeAble typeOkB
  rw [plainL_eq h, field_all, hok, Bool.true_and]
  cases hp : plainB ks (ofT t) with
  | false => simp
  | true =>
    have hf : fieldB ks ks.length 0 (ofT t) = true := by rw [field_all]; exact hp
    obtain ⟨h0, _⟩ := able_field hf hah
    simp only [if_true]
    rw [if_neg (by omega)]
    cases hr : refB t with
    | true =>
      unfold ableT
      rw [hr]
      cases amp t <;> rfl
    | false =>
      have ho : ofT t = t := by unfold ofT; rw [hr]; rfl
      rw [ho]; rfl

set_option maxHeartbeats 400000 in
theorem implTypeAble_any (F : Nat → Prop) (v : Value) (ks : Ks) (t : ByteArray) (w : World) (h : Cod.recs.Sl F w v ks) (hF : ∀ b, F b → b < w.heap.size) (hs : t.size ≤ maxLen) :
    Calls Try.prog 16 #[v, .string t] w fun e w' => e = .returned (.int .i64 (typeAble ks t)) ∧ Below w.heap.size w w' := by
  go_enter Try.func16, Try.ntmps16
  go_wp2_with fail
  refine (tableOf_any F v ks _ h hF).mono ?_
  rintro e w1 ⟨hb, ⟨hk, rfl⟩ | ⟨hk, b, l, rfl, hm, ht, hw⟩⟩
  · have HP : Hid (typeAble ks t = -1) := by show _ = _; unfold typeAble typeOkB; rw [hk]; rfl
    clear hk
    go_wp2
    go_ret
    exact ⟨ret_int HP.out.symm, hb⟩
  · have HP := Lib.hid (ableL_eq ht hk t)
    clear hk ht
    go_wp2_with (go_at_call 57; refine (able_any l b t _ hm.recV hs).mono ?_; rintro e w2 ⟨rfl, hb2⟩)
    go_ret
    exact ⟨ret_int HP.out, hb.trans (hb2.mono hb.size)⟩

theorem typeAble_iff {ks : Ks} {t : ByteArray} : (typeAble ks t != -1) = typeOkB ks t := by
  unfold typeAble
  cases ht : typeOkB ks t with
  | false => rfl
  | true =>
    have hok : kindsOk ks = true := by unfold typeOkB at ht; simp only [Bool.and_eq_true] at ht; exact ht.1
    have hah : Ahead ks ks.length 0 := fun a b hh _ => rec_able (ok_rec hok hh)
    have h0 : 0 ≤ ableT ks t := by
      cases hr : refB t with
      | true =>
        unfold ableT
        rw [hr]
        cases amp t <;> simp
      | false =>
        have ho : ofT t = t := by unfold ofT; rw [hr]; rfl
        unfold typeOkB at ht
        rw [ho, hok, Bool.true_and, ← field_all] at ht
        exact (able_field ht hah).1
    simp only [if_true]
    rw [bne_iff_ne]
    omega

set_option maxHeartbeats 400000 in
theorem implTypeOk_any (F : Nat → Prop) (v : Value) (ks : Ks) (t : ByteArray) (w : World) (h : Cod.recs.Sl F w v ks) (hF : ∀ b, F b → b < w.heap.size) (hs : t.size ≤ maxLen) :
    Calls Try.prog 14 #[v, .string t] w fun e w' => e = .returned (.bool (typeOkB ks t)) ∧ Below w.heap.size w w' := by
  have HI := Lib.hid (@typeAble_iff ks t)
  go_enter Try.func14, Try.ntmps14
  go_wp2_with (go_at_call 16; refine (implTypeAble_any F v ks t _ h hF hs).mono ?_; rintro e w2 ⟨rfl, hb2⟩)
  go_ret
  exact ⟨ret_bool HI.out, hb2⟩

set_option maxHeartbeats 400000 in
theorem implTypePlain_any (F : Nat → Prop) (v : Value) (ks : Ks) (t : ByteArray) (w : World) (h : Cod.recs.Sl F w v ks) (hF : ∀ b, F b → b < w.heap.size) (hs : t.size ≤ maxLen) :
    Calls Try.prog 18 #[v, .string t] w fun e w' => e = .returned (.tuple #[.string (plainT ks t), .bool (typeOkB ks t)]) ∧ Below w.heap.size w w' := by
  have HS := Lib.hid h
  obtain ⟨A, cap, rfl, _⟩ := h
  have hp : plainT ks t = if typeOkB ks t then ofT t else ByteArray.empty := rfl
  cases ht : typeOkB ks t
  all_goals
    rw [ht] at hp
    have HP := Lib.hid hp
    clear hp
    go_enter Try.func18, Try.ntmps18
    go_wp2_with (first
      | (go_at_call 14; refine (implTypeOk_any F _ ks t _ HS.out hF hs).mono ?_; rintro e w1 ⟨rfl, hb1⟩)
      | (go_at_call 58; refine (splitSign_any t w1 hs).mono ?_; rintro e w' ⟨rfl, n, rfl⟩))
    go_ret2
    exact ⟨by rw [HP.out]; rfl, by first | exact below_drewN hb1 _ | exact hb1⟩
end Go.Proofs.Ytjmdhjnfekpklaa
