/- Whatever the code, the law of KindsBad answers true: of what is drawn the program's KindsBad is the model's, and it is -1 and -1 just if the kinds are ones. -/
import Derived.Test.YtelhjdccfomafaaFkc
import Derived.Test.YtelhjdccfomafaaImf
namespace Go.Proofs.Ytelhjdccfomafaa
open Go.ChangeShapes Go.WideShapes Go.ChangeAt Go.RowKit Go.Deep

theorem badOut_range {ks : Ks} : ∀ (n m : Nat), badOut ks n m = (-1, -1) ∨ 0 ≤ (badOut ks n m).1
  | 0, _ => .inl rfl
  | n + 1, m => by
    unfold badOut
    split
    · exact .inr (Int.natCast_nonneg m)
    · split
      · exact .inr (Int.natCast_nonneg m)
      · exact badOut_range n (m + 1)
theorem bad_range (ks : Ks) : (kindsBad ks = (-1, -1) ∧ kindsOk ks = true) ∨ (0 ≤ (kindsBad ks).1 ∧ kindsOk ks = false) := by
  have h : kindsBad ks = (-1, -1) ∨ 0 ≤ (kindsBad ks).1 := by
    unfold kindsBad
    split
    · exact .inr (by decide)
    · exact badOut_range _ _
  rcases h with h | h
  · exact .inl ⟨h, by unfold kindsOk; rw [h]; rfl⟩
  · exact .inr ⟨h, by unfold kindsOk; rw [decide_eq_false_iff_not]; omega⟩

set_option maxRecDepth 100000 in
set_option maxHeartbeats 2000000 in
theorem fnKindsBad (F : Nat → Prop) (v : Value) (xs : List Nat) (w : World) (h : Cod.u8.Sl F w v xs) (hF : ∀ b, F b → b < w.heap.size) :
    Calls Try.prog 3 #[v] w fun e w' => e = .returned (.bool true) ∧ Below w.heap.size w w' := by
  have HS := Lib.hid h
  obtain ⟨A, cap, rfl, hlc, hcm, _⟩ := h
  unfold maxLen at hcm
  by_cases hl : 1048576 < xs.length
  · go_enter Try.func3, Try.ntmps3
    go_wp2
    go_ret
    exact ⟨rfl, Below.refl _ _⟩
  · go_enter Try.func3, Try.ntmps3
    go_wp2_with fail
    refine (drawKindsBad_any F _ xs w HS.out hF).mono ?_
    rintro e w1 ⟨ad, cap, ks, rfl, hM⟩
    have HM := Lib.hid hM
    clear hM
    have HR := Lib.hid (bad_range ks)
    have HC1 := Lib.hid (implKindsBad_any (Fresh w w1) (.slice (some ⟨ad, 0, none⟩) ks.length cap) ks w1 HM.out.1 (fun b hb => hb.2))
    have HC2 := Lib.hid (fun (w2 : World) (hb2 : Below w1.heap.size w1 w2) => specKindsBad_any (Fresh w w2) (.slice (some ⟨ad, 0, none⟩) ks.length cap) ks w2 (HM.out.on hb2).1 (fun b hb => hb.2))
    have HC3 := Lib.hid (fun (w2 : World) (hb2 : Below w1.heap.size w1 w2) => implKindsOk_any (Fresh w w2) (.slice (some ⟨ad, 0, none⟩) ks.length cap) ks w2 (HM.out.on hb2).1 (fun b hb => hb.2))
    generalize kindsBad ks = r at *
    generalize kindsOk ks = ok at *
    obtain ⟨r1, r2⟩ := r
    go_wp2_with fail
    refine HC1.out.mono ?_
    rintro e w2 ⟨rfl, hb2⟩
    go_wp2_with fail
    refine (HC2.out w2 hb2).mono ?_
    rintro e w3 ⟨rfl, hb3⟩
    have hb13 := hb2.trans (hb3.mono hb2.size)
    have HE3 := Lib.hid hb13
    have HC := Lib.hid (HC3.out w3 hb13)
    clear hb2 hb3 hb13 HC1 HC2 HC3
    rcases HR.out with ⟨h1, rfl⟩ | ⟨h1, rfl⟩
    · obtain ⟨rfl, rfl⟩ : r1 = -1 ∧ r2 = -1 := by simpa using h1
      clear h1 HR
      go_wp2_with fail
      refine HC.out.mono ?_
      rintro e w4 ⟨rfl, hb4⟩
      have HE4 := Lib.hid ((HM.out.on (HE3.out.trans (hb4.mono HE3.out.size))).2)
      clear hb4
      go_wp2
      go_ret
      exact ⟨rfl, HE4.out⟩
    · have h1' : 0 ≤ r1 := h1
      have b0 : (r1 == -1) = false := by rw [beq_eq_false_iff_ne]; omega
      have b1 : decide (0 ≤ r1) = true := by rw [decide_eq_true_eq]; exact h1'
      clear h1 HR
      go_wp2_with fail
      refine HC.out.mono ?_
      rintro e w4 ⟨rfl, hb4⟩
      have HE4 := Lib.hid ((HM.out.on (HE3.out.trans (hb4.mono HE3.out.size))).2)
      clear hb4
      go_wp2
      go_ret
      exact ⟨rfl, HE4.out⟩

set_option maxRecDepth 100000 in
theorem liftFnKindsBad (os : Os) (started : os.Started) (H : Type) (enc : TypeId × Value → H) :
    ReturnsInHanded {} Try.checked os 3 .any (Rows.fnKindsBadSpec.pre6 enc Try.prog Try.f3 Rows.fnKindsBadRow.domain false) (Rows.fnKindsBadSpec.post enc Try.prog Try.f3 false true false false) := by
  refine returnsInHanded_of_change (C := Try.checked) own_ started (by kernel_rfl) Try.func3
    (ChangeSpec.witness6 (enc := enc) (C := Try.checked) false ⟨#[], #[.slice none 0 0], []⟩ 8 (by kernel_rfl) (by kernel_rfl) (by kernel_rfl) (by kernel_rfl)) ?_
  intro W base args ds gs before hval0 hW _ _
  have hval : ∀ (j : Nat) t v, Try.f3.params[j]? = some t → args[j]? = some v → Value.okWide Try.prog W .any base t v := hval0
  have hW' := hW
  obtain ⟨p, q, hA0, hV, rfl, _, _⟩ := hW
  have hA : DataW.TrodAll enc Try.prog W 0 (fun _ => true) true Try.f3.params.toList args.toList ds p := hA0
  rw [Try.params3] at hA hval
  obtain ⟨v0, d0, rfl, rfl, h0⟩ := trodAll_one hA
  obtain ⟨rfl, rfl⟩ := trodVars_none hV
  obtain ⟨xs, hxs⟩ := open_code (hval 0 22 v0 rfl rfl) h0
  clear hA0 hval0
  simp only [List.append_nil] at hW'
  have hlt : ∀ x ∈ p, x.block < W.heap.size := fun x hx => by simpa using hW'.lt x (by simp [hx])
  refine (fnKindsBad (Old W) v0 xs W hxs (fun b hb => hb)).mono fun e W' ⟨he, hn⟩ => ?_
  subst he
  refine ⟨_, rfl, _, _, _, [], p, [], hW', ?_, ?_, rfl, hn.frame _, fun h => by cases h⟩
  · exact trodAll_mk1 (shut_bool Try.underlying4 true)
  · exact trodAll_mk1 (Below.trod laidOut_ (by kernel_rfl) (of_decide_eq_true (by kernel_rfl)) h0 hn hlt)

theorem FnKindsBad_holds : Rows.FnKindsBadSaid :=
  OpenClaim.holds_of_wide 3 Try.f3 rfl rfl rfl rfl rfl rfl rfl ⟨rfl, rfl, rfl, rfl, rfl⟩ rfl rfl rfl rfl rfl (by kernel_rfl) Try.func3 (by kernel_rfl)
    (of_decide_eq_true (by kernel_rfl)) (by unfold Func.isWrapper; first | (rw [if_pos (by decide +kernel)]; kernel_rfl) | (rw [if_neg (by decide +kernel)]; exact ⟨rfl, rfl⟩))
    (fun os started H enc _ => liftFnKindsBad os started H enc)
end Go.Proofs.Ytelhjdccfomafaa
