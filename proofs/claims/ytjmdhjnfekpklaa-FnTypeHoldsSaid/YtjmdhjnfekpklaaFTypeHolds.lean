/- Whatever the code, the law of TypeHolds answers true: of what is drawn the program's TypeHolds is the model's, and what holds something that cannot be copied or dropped cannot be that either. -/
import Derived.Test.YtjmdhjnfekpklaaFa
import Derived.Test.YtjmdhjnfekpklaaImf
namespace Go.Proofs.Ytjmdhjnfekpklaa
open Go.ChangeShapes Go.WideShapes Go.ChangeAt Go.RowKit Go.Deep

set_option maxHeartbeats 400000 in
theorem hlCan_any (able one : Int) (w : World) (h1 : 1 ≤ one) (h2 : able ≤ 1000000) :
    Calls Try.prog 31 #[.int .i64 able, .int .i64 one] w fun e w' => e = .returned (.bool (hlCanB able one)) ∧ w = w' := by
  by_cases h0 : 0 ≤ able
  · have hd : 0 ≤ able / one := Int.ediv_nonneg h0 (by omega)
    have hd2 : able / one ≤ 1000000 := Int.le_trans (Int.ediv_le_self _ h0) h2
    have HR : Hid (hlCanB able one = canB able one) := by show _ = _; unfold hlCanB; rw [decide_eq_true h0, Bool.true_and]
    go_enter Try.func31, Try.ntmps31
    go_wp2
    go_ret
    exact ⟨ret_bool (by rw [HR.out]; rfl), rfl⟩
  · have HR : Hid (hlCanB able one = false) := by show _ = _; unfold hlCanB; rw [decide_eq_false h0, Bool.false_and]
    go_enter Try.func31, Try.ntmps31
    go_wp2
    go_ret
    exact ⟨ret_bool HR.out.symm, rfl⟩

set_option maxRecDepth 100000 in
set_option maxHeartbeats 4000000 in
theorem fnTypeHolds (F : Nat → Prop) (v : Value) (xs : List Nat) (w : World) (h : Cod.u8.Sl F w v xs) (hF : ∀ b, F b → b < w.heap.size) :
    Calls Try.prog 8 #[v] w fun e w' => e = .returned (.bool true) ∧ Below w.heap.size w w' := by
  have HS := Lib.hid h
  obtain ⟨A, cap, rfl, hlc, hcm, _⟩ := h
  unfold maxLen at hcm
  by_cases hl : 1048576 < xs.length
  · go_enter Try.func8, Try.ntmps8
    go_wp2
    go_ret
    exact ⟨rfl, Below.refl _ _⟩
  · go_enter Try.func8, Try.ntmps8
    go_wp2_with fail
    refine (drawTypeHolds_any F _ xs w HS.out hF).mono ?_
    rintro e w1 ⟨ad, cap, ks, t, inn, rfl, ht, hi, hM⟩
    have ht' : t.size ≤ maxLen := by unfold maxLen; omega
    have hi' : inn.size ≤ maxLen := by unfold maxLen; omega
    have HM := Lib.hid hM
    clear hM
    go_wp2_with fail
    refine (implTypeHolds_any (Fresh w w1) _ ks t inn w1 HM.out.1 (fun b hb => hb.2)).mono ?_
    rintro e w2 ⟨rfl, hb2⟩
    have HM2 := Lib.hid (HM.out.on hb2)
    clear hb2
    go_wp2_with fail
    refine (specTypeHolds_any (Fresh w w2) _ ks t inn w2 HM2.out.1 (fun b hb => hb.2) ht' hi').mono ?_
    rintro e w3 ⟨rfl, hb3⟩
    have HM3 := Lib.hid (HM2.out.on hb3)
    clear hb3
    go_wp2_with fail
    refine (implTypeAble_any (Fresh w w3) _ ks t w3 HM3.out.1 (fun b hb => hb.2) ht').mono ?_
    rintro e w4 ⟨rfl, hb4⟩
    have HM4 := Lib.hid (HM3.out.on hb4)
    clear hb4
    go_wp2_with fail
    refine (implTypeAble_any (Fresh w w4) _ ks inn w4 HM4.out.1 (fun b hb => hb.2) hi').mono ?_
    rintro e w5 ⟨rfl, hb5⟩
    have HM5 := Lib.hid (HM4.out.on hb5)
    have ra := (able_range ks t).2
    have rb := (able_range ks inn).2
    clear hb5
    cases hx : typeHolds ks t inn with
    | false =>
      go_wp2
      go_ret
      exact ⟨rfl, HM5.out.2⟩
    | true =>
      obtain ⟨p1, p2⟩ := typeHolds_can hx
      clear hx
      rcases p1 with p1 | p1 <;> rcases p2 with p2 | p2
      all_goals
        go_wp2_with (go_at_call 31; refine (hlCan_any _ _ _ (by omega) (by omega)).mono ?_; rintro e w' ⟨rfl, rfl⟩)
        all_goals
          go_ret
          exact ⟨rfl, HM5.out.2⟩

set_option maxRecDepth 100000 in
theorem liftFnTypeHolds (os : Os) (started : os.Started) (H : Type) (enc : TypeId × Value → H) :
    ReturnsInHanded {} Try.checked os 8 .any (Rows.fnTypeHoldsSpec.pre6 enc Try.prog Try.f8 Rows.fnTypeHoldsRow.domain false) (Rows.fnTypeHoldsSpec.post enc Try.prog Try.f8 false true false false) := by
  refine returnsInHanded_of_change (C := Try.checked) own_ started (by kernel_rfl) Try.func8
    (ChangeSpec.witness6 (enc := enc) (C := Try.checked) false ⟨#[], #[.slice none 0 0], []⟩ 8 (by kernel_rfl) (by kernel_rfl) (by kernel_rfl) (by kernel_rfl)) ?_
  intro W base args ds gs before hval0 hW _ _
  have hval : ∀ (j : Nat) t v, Try.f8.params[j]? = some t → args[j]? = some v → Value.okWide Try.prog W .any base t v := hval0
  have hW' := hW
  obtain ⟨p, q, hA0, hV, rfl, _, _⟩ := hW
  have hA : DataW.TrodAll enc Try.prog W 0 (fun _ => true) true Try.f8.params.toList args.toList ds p := hA0
  rw [Try.params8] at hA hval
  obtain ⟨v0, d0, rfl, rfl, h0⟩ := trodAll_one hA
  obtain ⟨rfl, rfl⟩ := trodVars_none hV
  obtain ⟨xs, hxs⟩ := open_code (hval 0 22 v0 rfl rfl) h0
  clear hA0 hval0
  simp only [List.append_nil] at hW'
  have hlt : ∀ x ∈ p, x.block < W.heap.size := fun x hx => by simpa using hW'.lt x (by simp [hx])
  refine (fnTypeHolds (Old W) v0 xs W hxs (fun b hb => hb)).mono fun e W' ⟨he, hn⟩ => ?_
  subst he
  refine ⟨_, rfl, _, _, _, [], p, [], hW', ?_, ?_, rfl, hn.frame _, fun h => by cases h⟩
  · exact trodAll_mk1 (shut_bool Try.underlying4 true)
  · exact trodAll_mk1 (Below.trod laidOut_ (by kernel_rfl) (of_decide_eq_true (by kernel_rfl)) h0 hn hlt)

theorem FnTypeHolds_holds : Rows.FnTypeHoldsSaid :=
  OpenClaim.holds_of_wide 8 Try.f8 rfl rfl rfl rfl rfl rfl rfl ⟨rfl, rfl, rfl, rfl, rfl⟩ rfl rfl rfl rfl rfl (by kernel_rfl) Try.func8 (by kernel_rfl)
    (of_decide_eq_true (by kernel_rfl)) (by unfold Func.isWrapper; first | (rw [if_pos (by decide +kernel)]; kernel_rfl) | (rw [if_neg (by decide +kernel)]; exact ⟨rfl, rfl⟩))
    (fun os started H enc _ => liftFnTypeHolds os started H enc)
end Go.Proofs.Ytjmdhjnfekpklaa
