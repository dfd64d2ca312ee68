/- Whatever the code, the law of TypePlain answers true: of what is drawn the program's TypePlain is the model's, and a plain type is its own one, and has references. -/
import Derived.Test.YtjmdhjnfekpklaaFb
namespace Go.Proofs.Ytjmdhjnfekpklaa
open Go.ChangeShapes Go.WideShapes Go.ChangeAt Go.RowKit Go.Deep

set_option maxRecDepth 100000 in
set_option maxHeartbeats 2000000 in
theorem fnTypePlain (F : Nat → Prop) (v : Value) (xs : List Nat) (w : World) (h : Cod.u8.Sl F w v xs) (hF : ∀ b, F b → b < w.heap.size) :
    Calls Try.prog 4 #[v] w fun e w' => e = .returned (.bool true) ∧ Below w.heap.size w w' := by
  have HS := Lib.hid h
  obtain ⟨A, cap, rfl, hlc, hcm, _⟩ := h
  unfold maxLen at hcm
  by_cases hl : 1048576 < xs.length
  · go_enter Try.func4, Try.ntmps4
    go_wp2
    go_ret
    exact ⟨rfl, Below.refl _ _⟩
  · go_enter Try.func4, Try.ntmps4
    go_wp2_with fail
    refine (drawTypePlain_any F _ xs w HS.out hF).mono ?_
    rintro e w1 ⟨ad, cap, ks, t, rfl, ht, hM⟩
    have ht' : t.size ≤ maxLen := by unfold maxLen; omega
    have HM1 := Lib.hid hM
    clear hM
    go_wp2_with fail
    refine (implTypePlain_any (Fresh w w1) _ ks t w1 HM1.out.1 (fun b hb => hb.2) ht').mono ?_
    rintro e w2 ⟨rfl, hb2⟩
    have HM2 := Lib.hid (HM1.out.on hb2)
    clear hb2
    go_wp2_with fail
    refine (specTypePlain_any (Fresh w w2) _ ks t w2 HM2.out.1 (fun b hb => hb.2) ht').mono ?_
    rintro e w3 ⟨rfl, hb3⟩
    have HM3 := Lib.hid (HM2.out.on hb3)
    clear hb3
    have hpl : (plainT ks t).size ≤ 50 := by
      unfold plainT
      split
      · exact Nat.le_trans (size_ofT t) ht
      · decide
    have hpl' : (plainT ks t).size ≤ maxLen := by unfold maxLen; omega
    cases hk : typeOkB ks t with
    | false =>
      have HA := Lib.hid hk
      clear hk
      go_wp2_with fail
      refine (implTypePlain_any (Fresh w w3) _ ks (plainT ks t) w3 HM3.out.1 (fun b hb => hb.2) hpl').mono ?_
      rintro e w4 ⟨rfl, hb4⟩
      have HM4 := Lib.hid (HM3.out.on hb4)
      clear hb4
      go_wp2
      go_ret
      exact ⟨rfl, HM4.out.2⟩
    | true =>
      obtain ⟨o1, o2, o3, o4⟩ := ok_plain hk
      have O1 := Lib.hid o1
      have O2 := Lib.hid o2
      have O3 := Lib.hid o3
      have O4 := Lib.hid (o4 38 (.inl rfl)).1
      have O5 := Lib.hid (o4 33 (.inr rfl)).1
      have hof : (ofT t).size ≤ 50 := by rw [← o1]; exact hpl
      have hof' : (ofT t).size ≤ maxLen := by unfold maxLen; omega
      have hs1 : (⟨#[38]⟩ ++ ofT t : ByteArray).size ≤ maxLen := by rw [ByteArray.size_append]; unfold maxLen; show 1 + _ ≤ _; omega
      have hs2 : (⟨#[33]⟩ ++ ofT t : ByteArray).size ≤ maxLen := by rw [ByteArray.size_append]; unfold maxLen; show 1 + _ ≤ _; omega
      clear o1 o2 o3 o4 hk
      go_wp2_with fail
      rw [O1.out]
      refine (implTypePlain_any (Fresh w w3) _ ks (ofT t) w3 HM3.out.1 (fun b hb => hb.2) hof').mono ?_
      rintro e w4 ⟨rfl, hb4⟩
      rw [O3.out, O2.out]
      have HM4 := Lib.hid (HM3.out.on hb4)
      clear hb4
      go_wp2_with fail
      refine (implTypeOk_any (Fresh w w4) _ ks _ w4 HM4.out.1 (fun b hb => hb.2) hs1).mono ?_
      rintro e w5 ⟨rfl, hb5⟩
      rw [O4.out]
      have HM5 := Lib.hid (HM4.out.on hb5)
      clear hb5
      go_wp2_with fail
      refine (implTypeOk_any (Fresh w w5) _ ks _ w5 HM5.out.1 (fun b hb => hb.2) hs2).mono ?_
      rintro e w6 ⟨rfl, hb6⟩
      rw [O5.out]
      have HM6 := Lib.hid (HM5.out.on hb6)
      clear hb6
      go_wp2
      go_ret
      exact ⟨rfl, HM6.out.2⟩

set_option maxRecDepth 100000 in
theorem liftFnTypePlain (os : Os) (started : os.Started) (H : Type) (enc : TypeId × Value → H) :
    ReturnsInHanded {} Try.checked os 4 .any (Rows.fnTypePlainSpec.pre6 enc Try.prog Try.f4 Rows.fnTypePlainRow.domain false) (Rows.fnTypePlainSpec.post enc Try.prog Try.f4 false true false false) := by
  refine returnsInHanded_of_change (C := Try.checked) own_ started (by kernel_rfl) Try.func4
    (ChangeSpec.witness6 (enc := enc) (C := Try.checked) false ⟨#[], #[.slice none 0 0], []⟩ 8 (by kernel_rfl) (by kernel_rfl) (by kernel_rfl) (by kernel_rfl)) ?_
  intro W base args ds gs before hval0 hW _ _
  have hval : ∀ (j : Nat) t v, Try.f4.params[j]? = some t → args[j]? = some v → Value.okWide Try.prog W .any base t v := hval0
  have hW' := hW
  obtain ⟨p, q, hA0, hV, rfl, _, _⟩ := hW
  have hA : DataW.TrodAll enc Try.prog W 0 (fun _ => true) true Try.f4.params.toList args.toList ds p := hA0
  rw [Try.params4] at hA hval
  obtain ⟨v0, d0, rfl, rfl, h0⟩ := trodAll_one hA
  obtain ⟨rfl, rfl⟩ := trodVars_none hV
  obtain ⟨xs, hxs⟩ := open_code (hval 0 22 v0 rfl rfl) h0
  clear hA0 hval0
  simp only [List.append_nil] at hW'
  have hlt : ∀ x ∈ p, x.block < W.heap.size := fun x hx => by simpa using hW'.lt x (by simp [hx])
  refine (fnTypePlain (Old W) v0 xs W hxs (fun b hb => hb)).mono fun e W' ⟨he, hn⟩ => ?_
  subst he
  refine ⟨_, rfl, _, _, _, [], p, [], hW', ?_, ?_, rfl, hn.frame _, fun h => by cases h⟩
  · exact trodAll_mk1 (shut_bool Try.underlying4 true)
  · exact trodAll_mk1 (Below.trod laidOut_ (by kernel_rfl) (of_decide_eq_true (by kernel_rfl)) h0 hn hlt)

theorem FnTypePlain_holds : Rows.FnTypePlainSaid :=
  OpenClaim.holds_of_wide 4 Try.f4 rfl rfl rfl rfl rfl rfl rfl ⟨rfl, rfl, rfl, rfl, rfl⟩ rfl rfl rfl rfl rfl (by kernel_rfl) Try.func4 (by kernel_rfl)
    (of_decide_eq_true (by kernel_rfl)) (by unfold Func.isWrapper; first | (rw [if_pos (by decide +kernel)]; kernel_rfl) | (rw [if_neg (by decide +kernel)]; exact ⟨rfl, rfl⟩))
    (fun os started H enc _ => liftFnTypePlain os started H enc)
end Go.Proofs.Ytjmdhjnfekpklaa
