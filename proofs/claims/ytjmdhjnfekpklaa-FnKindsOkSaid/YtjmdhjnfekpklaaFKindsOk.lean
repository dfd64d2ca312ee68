/- Whatever the code, the law of KindsOk answers true: what is drawn are kinds of which the program's KindsOk is the model's, and if they are ones, so are those without the last module. -/
import Derived.Test.YtjmdhjnfekpklaaFa
import Derived.Test.YtjmdhjnfekpklaaImf
namespace Go.Proofs.Ytjmdhjnfekpklaa
open Go.ChangeShapes Go.WideShapes Go.ChangeAt Go.RowKit Go.Deep

set_option maxRecDepth 100000 in
set_option maxHeartbeats 2000000 in
theorem fnKindsOk (F : Nat → Prop) (v : Value) (xs : List Nat) (w : World) (h : Cod.u8.Sl F w v xs) (hF : ∀ b, F b → b < w.heap.size) :
    Calls Try.prog 6 #[v] w fun e w' => e = .returned (.bool true) ∧ Below w.heap.size w w' := by
  have HS := Lib.hid h
  obtain ⟨A, cap, rfl, hlc, hcm, _⟩ := h
  unfold maxLen at hcm
  by_cases hl : 1048576 < xs.length
  · go_enter Try.func6, Try.ntmps6
    go_wp2
    go_ret
    exact ⟨rfl, Below.refl _ _⟩
  · go_enter Try.func6, Try.ntmps6
    go_wp2_with fail
    refine (drawKindsOk_any F _ xs w HS.out hF).mono ?_
    rintro e w1 ⟨ad, cap, ks, rfl, hM⟩
    have HM := Lib.hid hM
    clear hM
    go_wp2_with fail
    refine (implKindsOk_any (Fresh w w1) _ ks w1 HM.out.1 (fun b hb => hb.2)).mono ?_
    rintro e w2 ⟨rfl, hb2⟩
    have HM2 := Lib.hid (HM.out.on hb2)
    clear hb2
    go_wp2_with fail
    refine (specKindsOk_any (Fresh w w2) _ ks w2 HM2.out.1 (fun b hb => hb.2)).mono ?_
    rintro e w3 ⟨rfl, hb3⟩
    have HM3 := Lib.hid (HM2.out.on hb3)
    clear hb3
    cases hk : kindsOk ks with
    | false =>
      go_wp2
      go_ret
      exact ⟨rfl, HM3.out.2⟩
    | true =>
      have HK := Lib.hid hk
      obtain ⟨_, _, hv, hc1, hc2, _⟩ := HM3.out.1
      simp only [Value.slice.injEq] at hv
      obtain ⟨rfl, _, rfl⟩ := hv
      unfold maxLen at hc2
      by_cases h0 : ks.length = 0
      · have b0 : ((ks.length : Int) == 0) = true := by rw [beq_iff_eq]; omega
        clear h0 hk
        go_wp2
        go_ret
        exact ⟨rfl, HM3.out.2⟩
      · have b0 : ((ks.length : Int) == 0) = false := by rw [beq_eq_false_iff_ne]; omega
        have HT := Lib.hid (HM3.out.1.take (n := ks.length - 1) (by omega))
        have HL := Lib.hid (show (ks.take (ks.length - 1)).length = ks.length - 1 by rw [List.length_take]; omega)
        have HK2 := Lib.hid (kindsOk_take (ks.length - 1) hk)
        have hp : 0 < ks.length := by omega
        have i0 : (0 : Int) ≤ (ks.length : Int) - 1 := by omega
        have i1 : (ks.length : Int) - 1 ≤ cap := by omega
        have i2 : ((ks.length : Int) - 1).toNat = ks.length - 1 := by omega
        clear h0 hk
        go_wp2_with fail
        refine (implKindsOk_any (Fresh w w3) _ (ks.take (ks.length - 1)) w3 HT.out (fun b hb => hb.2)).mono ?_
        rintro e w4 ⟨rfl, hb4⟩
        rw [HK2.out]
        go_wp2
        go_ret
        exact ⟨rfl, HM3.out.2.trans (hb4.mono HM3.out.2.size)⟩

set_option maxRecDepth 100000 in
theorem liftFnKindsOk (os : Os) (started : os.Started) (H : Type) (enc : TypeId × Value → H) :
    ReturnsInHanded {} Try.checked os 6 .any (Rows.fnKindsOkSpec.pre6 enc Try.prog Try.f6 Rows.fnKindsOkRow.domain false) (Rows.fnKindsOkSpec.post enc Try.prog Try.f6 false true false false) := by
  refine returnsInHanded_of_change (C := Try.checked) own_ started (by kernel_rfl) Try.func6
    (ChangeSpec.witness6 (enc := enc) (C := Try.checked) false ⟨#[], #[.slice none 0 0], []⟩ 8 (by kernel_rfl) (by kernel_rfl) (by kernel_rfl) (by kernel_rfl)) ?_
  intro W base args ds gs before hval0 hW _ _
  have hval : ∀ (j : Nat) t v, Try.f6.params[j]? = some t → args[j]? = some v → Value.okWide Try.prog W .any base t v := hval0
  have hW' := hW
  obtain ⟨p, q, hA0, hV, rfl, _, _⟩ := hW
  have hA : DataW.TrodAll enc Try.prog W 0 (fun _ => true) true Try.f6.params.toList args.toList ds p := hA0
  rw [Try.params6] at hA hval
  obtain ⟨v0, d0, rfl, rfl, h0⟩ := trodAll_one hA
  obtain ⟨rfl, rfl⟩ := trodVars_none hV
  obtain ⟨xs, hxs⟩ := open_code (hval 0 22 v0 rfl rfl) h0
  clear hA0 hval0
  simp only [List.append_nil] at hW'
  have hlt : ∀ x ∈ p, x.block < W.heap.size := fun x hx => by simpa using hW'.lt x (by simp [hx])
  refine (fnKindsOk (Old W) v0 xs W hxs (fun b hb => hb)).mono fun e W' ⟨he, hn⟩ => ?_
  subst he
  refine ⟨_, rfl, _, _, _, [], p, [], hW', ?_, ?_, rfl, hn.frame _, fun h => by cases h⟩
  · exact trodAll_mk1 (shut_bool Try.underlying4 true)
  · exact trodAll_mk1 (Below.trod laidOut_ (by kernel_rfl) (of_decide_eq_true (by kernel_rfl)) h0 hn hlt)

theorem FnKindsOk_holds : Rows.FnKindsOkSaid :=
  OpenClaim.holds_of_wide 6 Try.f6 rfl rfl rfl rfl rfl rfl rfl ⟨rfl, rfl, rfl, rfl, rfl⟩ rfl rfl rfl rfl rfl (by kernel_rfl) Try.func6 (by kernel_rfl)
    (of_decide_eq_true (by kernel_rfl)) (by unfold Func.isWrapper; first | (rw [if_pos (by decide +kernel)]; kernel_rfl) | (rw [if_neg (by decide +kernel)]; exact ⟨rfl, rfl⟩))
    (fun os started H enc _ => liftFnKindsOk os started H enc)
end Go.Proofs.Ytjmdhjnfekpklaa
