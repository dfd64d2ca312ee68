/- Whatever the arguments, the exact law of TypeAble answers true: the program's TypeAble is the model's, and leaves its arguments alone. -/
import Derived.Test.YtibmibpkmaehfaaImf
import Derived.Test.YtibmibpkmaehfaaSz
import Derived.Test.YtibmibpkmaehfaaTo
import Derived.Test.YtibmibpkmaehfaaEq
import Derived.Test.YtibmibpkmaehfaaLift
import Derived.Test.YtibmibpkmaehfaaSzk
namespace Go.Proofs.Ytibmibpkmaehfaa
open Go.ChangeShapes Go.WideShapes Go.ChangeAt Go.RowKit Go.Deep
open Go.ChangeMaps (open_string shut_string)

set_option maxRecDepth 100000 in
set_option maxHeartbeats 2000000 in
theorem lawTypeAble (F : Nat → Prop) (v : Value) (ks : Ks) (t : ByteArray) (w : World) (h : Cod.recs.Sl F w v ks) (hF : ∀ b, F b → b < w.heap.size) (ht : t.size ≤ maxLen) :
    Calls Try.prog 13 #[v, .string t] w fun e w' => e = .returned (.bool true) ∧ Below w.heap.size w w' := by
  have mt := ht
  unfold maxLen at mt
  by_cases zt : 1048576 < t.size
  · go_enter Try.func13, Try.ntmps13
    go_wp2
    go_ret
    exact ⟨rfl, Below.refl _ _⟩
  · have _ := trivial
    by_cases hz : szS (szS szRec) ks 1048576 < 0
    · go_enter Try.func13, Try.ntmps13
      go_wp2_with (go_at_call 34; refine (szRecordSS_any F v ks _ _ h hF (by omega) (by omega)).mono ?_; rintro e w1 ⟨rfl, hb1⟩)
      go_ret
      exact ⟨rfl, hb1⟩
    · obtain ⟨hn, hm⟩ := sz_kinds (ks := ks) (by omega)
      have Hm := Lib.hid hm
      clear hm
      go_enter Try.func13, Try.ntmps13
      go_wp2_with fail
      refine (szRecordSS_any F v ks _ _ h hF (by omega) (by omega)).mono ?_
      rintro e w1 ⟨rfl, hb1⟩
      have h1 := h.keep (below_keeps hb1 hF)
      have hF1 : ∀ b, F b → b < w1.heap.size := fun b hb => Nat.lt_of_lt_of_le (hF b hb) hb1.size
      go_wp2_with fail
      refine (toRecordSS_any F v ks w1 h1 hF1 hn Hm.out).mono ?_
      rintro e w2 ⟨A2, c2, rfl, hM2⟩
      have hb2 := hb1.trans (hM2.2.mono hb1.size)
      go_wp2_with fail
      refine (specTypeAble_any (Fresh w1 w2) _ ks t w2 hM2.1 (fun b hb => hb.2) ht).mono ?_
      rintro e w3 ⟨rfl, hb3⟩
      have hb3' := hb2.trans (hb3.mono hb2.size)
      have h3 := h.keep (below_keeps hb3' hF)
      have hF3 : ∀ b, F b → b < w3.heap.size := fun b hb => Nat.lt_of_lt_of_le (hF b hb) hb3'.size
      go_wp2_with fail
      refine (toRecordSS_any F v ks w3 h3 hF3 hn Hm.out).mono ?_
      rintro e w4 ⟨A4, c4, rfl, hM4⟩
      have hb4 := hb3'.trans (hM4.2.mono hb3'.size)
      go_wp2_with fail
      refine (implTypeAble_any (Fresh w3 w4) _ ks t w4 hM4.1 (fun b hb => hb.2) ht).mono ?_
      rintro e w5 ⟨rfl, hb5⟩
      have hb5' := hb4.trans (hb5.mono hb4.size)
      have h5 := h.keep (below_keeps hb5' hF)
      have hF5 : ∀ b, F b → b < w5.heap.size := fun b hb => Nat.lt_of_lt_of_le (hF b hb) hb5'.size
      go_wp2_with fail
      refine (toRecordSS_any F v ks w5 h5 hF5 hn Hm.out).mono ?_
      rintro e w6 ⟨A6, c6, rfl, hM6⟩
      have hb6 := hb5'.trans (hM6.2.mono hb5'.size)
      go_wp2_with fail
      have q1 : Cod.recs.Sl (Old w6) w6 (.slice A4 ks.length c4) ks := ((hM4.1.keep (below_keeps hb5 fun b hb => hb.2)).keep (below_keeps hM6.2 fun b hb => Nat.lt_of_lt_of_le hb.2 hb5.size)).mono fun b hb => Nat.lt_of_lt_of_le hb.2 (Nat.le_trans hb5.size hM6.2.size)
      have q2 : Cod.recs.Sl (Old w6) w6 (.slice A6 ks.length c6) ks := hM6.1.mono fun b hb => hb.2
      refine (eqRecordSS_any (Old w6) _ _ ks w6 q1 q2 fun b hb => hb).mono ?_
      rintro e w7 ⟨rfl, hb7⟩
      go_wp2
      go_ret
      exact ⟨rfl, hb6.trans (hb7.mono hb6.size)⟩

set_option maxRecDepth 100000 in
theorem liftTypeAble (os : Os) (started : os.Started) (H : Type) (enc : TypeId × Value → H) :
    ReturnsInHanded {} Try.checked os 13 .any (Rows.fnExactTypeAbleSpec.pre6 enc Try.prog Try.f13 Rows.fnExactTypeAbleRow.domain false) (Rows.fnExactTypeAbleSpec.post enc Try.prog Try.f13 false true false false) := by
  refine returnsInHanded_of_change (C := Try.checked) own_ started (by kernel_rfl) Try.func13
    (ChangeSpec.witness6 (enc := enc) (C := Try.checked) false ⟨#[], #[.slice none 0 0, .string ByteArray.empty], []⟩ 8 (by kernel_rfl) (by kernel_rfl) (by kernel_rfl) (by kernel_rfl)) ?_
  intro W base args ds gs before hval0 hW _ _
  have hval : ∀ (j : Nat) t v, Try.f13.params[j]? = some t → args[j]? = some v → Value.okWide Try.prog W .any base t v := hval0
  have hW' := hW
  obtain ⟨p, q, hA0, hV, rfl, _, _⟩ := hW
  have hA : DataW.TrodAll enc Try.prog W 0 (fun _ => true) true Try.f13.params.toList args.toList ds p := hA0
  rw [Try.params13] at hA hval
  obtain ⟨v0, v1, d0, d1, p0, p1, rfl, rfl, rfl, h0, h1⟩ := trodAll_two hA
  obtain ⟨rfl, rfl⟩ := trodVars_none hV
  obtain ⟨t, rfl, rfl, rfl, wt⟩ := open_string Try.underlying9 (hval 1 9 v1 rfl rfl) h1
  obtain ⟨ks, hks⟩ := open_kinds (hval 0 39 v0 rfl rfl) h0
  clear hA0 hval0
  simp only [List.append_nil] at hW'
  have hlt : ∀ x ∈ p0, x.block < W.heap.size := fun x hx => by simpa using hW'.lt x (by simp [hx])
  refine (lawTypeAble (Old W) v0 ks t W hks (fun b hb => hb) wt).mono fun e W' ⟨he, hn⟩ => ?_
  subst he
  refine ⟨_, rfl, _, _, _, [], p0 ++ [], [], hW', ?_, ?_, rfl, hn.frame _, fun h => by cases h⟩
  · exact trodAll_mk1 (shut_bool Try.underlying4 true)
  · exact trodAll_mk2 (Below.trod laidOut_ (by kernel_rfl) (of_decide_eq_true (by kernel_rfl)) h0 hn hlt) (shut_string Try.underlying9 wt)

theorem TypeAble_holds : Rows.FnExactTypeAbleSaid :=
  OpenClaim.holds_of_wide 13 Try.f13 rfl rfl rfl rfl rfl rfl rfl ⟨rfl, rfl, rfl, rfl, rfl⟩ rfl rfl rfl rfl rfl (by kernel_rfl) Try.func13 (by kernel_rfl)
    (of_decide_eq_true (by kernel_rfl)) (by unfold Func.isWrapper; first | (rw [if_pos (by decide +kernel)]; kernel_rfl) | (rw [if_neg (by decide +kernel)]; exact ⟨rfl, rfl⟩))
    (fun os started H enc _ => liftTypeAble os started H enc)
end Go.Proofs.Ytibmibpkmaehfaa
