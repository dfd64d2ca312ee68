/- Whatever the code, the law of ValueCount answers true: of what is drawn the program's ValueCount is the model's, and that of the parts, and 1 for the value itself if it is of the kind. -/
import Derived.Test.YtelhjdccfomafaaFvValueCount
namespace Go.Proofs.Ytelhjdccfomafaa
open Go.ChangeShapes Go.WideShapes Go.ChangeAt Go.RowKit Go.Deep

set_option maxRecDepth 100000 in
set_option maxHeartbeats 4000000 in
theorem fnValueCount (F : Nat → Prop) (v : Value) (xs : List Nat) (w : World) (h : Cod.u8.Sl F w v xs) (hF : ∀ b, F b → b < w.heap.size) :
    Calls Try.prog 4 #[v] w fun e w' => e = .returned (.bool true) ∧ Below w.heap.size w w' := by
  have HS := Lib.hid h
  obtain ⟨A, cap, rfl, hlc, hcm, _⟩ := h
  unfold maxLen at hcm
  by_cases hl : 1048576 < xs.length
  · go_enter Try.func4, Try.ntmps4
    go_wp2
    go_ret
    exact ⟨rfl, Below.refl _ _⟩
  · go_enter Try.func4, Try.ntmps4
    go_wp2_with fail
    refine (drawValueCount_any F _ xs w HS.out hF).mono ?_
    rintro e w1 ⟨ad, cap, ks, v, A, c, B, c', kd, rfl, hkd, hK, hV, hm, hlen⟩
    have HK := Lib.hid hK
    have Hm := Lib.hid hm
    have HE1 := Lib.hid hK.2
    obtain ⟨wA, hwA⟩ : ∃ wA, wA = w1.alloc (.cells #[.string v.ty, .int .i64 v.n, .slice A v.parts.length c, .slice B v.path.length c'] 32) := ⟨_, rfl⟩
    have hbA : Below w1.heap.size w1 wA := by rw [hwA]; exact (Below.refl _ _).alloc (Nat.le_refl _) _
    have HBA := Lib.hid (show Blk wA w1.heap.size 32 #[.string v.ty, .int .i64 v.n, .slice A v.parts.length c, .slice B v.path.length c'] by rw [hwA]; exact Blk.new _ _ _)
    have HKA := Lib.hid (hK.on hbA)
    have HVA := Lib.hid (MadeV.drawn hV hbA)
    have hlA : w1.heap.size < wA.heap.size := by rw [hwA]; simp
    have HwA := Lib.hid hwA
    clear hK hV hm hbA hwA
    have Hmk := Lib.hid (show sizeOf' (isK kd) (cntV kd 9) v ≤ 2000000 from Int.le_trans (cntV_le kd 10 v) Hm.out)
    go_upto_region 4 with fail
    rw [← HwA.out]
    obtain ⟨x0, x1, x2, x3⟩ := HBA.out.c2
    go_wp2_with fail
    refine (implValueCount_any (d := 9) (Fresh w wA) _ A B _ _ c c' v kd wA HKA.out.1 HVA.out (fun b hb => hb.2) Hmk.out).mono ?_
    rintro e w2 ⟨rfl, hb2⟩
    have HK2 := Lib.hid (HKA.out.on hb2)
    have HV2 := Lib.hid (MadeV.drawn HVA.out hb2)
    have HB2 := Lib.hid (HBA.out.below hb2 hlA)
    have hl2 := Nat.lt_of_lt_of_le hlA hb2.size
    clear hb2 x0 x1 x2 x3
    obtain ⟨x0, x1, x2, x3⟩ := HB2.out.c2
    go_wp2_with fail
    refine (specValueCount_any (d := 9) (Fresh w w2) _ A B _ _ c c' v kd w2 HK2.out.1 HV2.out (fun b hb => hb.2) Hmk.out).mono ?_
    rintro e w3 ⟨rfl, hb3⟩
    have HK3 := Lib.hid (HK2.out.on hb3)
    have HV3 := Lib.hid (MadeV.drawn HV2.out hb3)
    have HB3 := Lib.hid (HB2.out.below hb3 hl2)
    have hl3 := Nat.lt_of_lt_of_le hl2 hb3.size
    clear hb3 x0 x1 x2 x3
    obtain ⟨x0, x1, x2, x3⟩ := HB3.out.c2
    cases hk : (valOk ks 9 v && kindB ks kd) with
    | false =>
      have hN : cntVal ks 9 v kd = -1 := by unfold cntVal; rw [hk]; rfl
      rw [hN]
      clear hN hk
      have HE4 := Lib.hid HK3.out.2
      go_wp2
      go_ret
      exact ⟨rfl, HE4.out⟩
    | true =>
      obtain ⟨hvo, hkb⟩ : valOk ks 9 v = true ∧ kindB ks kd = true := by simpa using hk
      have hN : cntVal ks 9 v kd = sizeOf' (isK kd) (cntV kd 9) v := by unfold cntVal; rw [hk]; rfl
      have hpart := valOk_part (d := 8) hvo
      have hpsz := size_part (d := 8) Hm.out
      obtain ⟨q, hq⟩ : ∃ q, q = cntVal ks 9 v kd := ⟨_, rfl⟩
      have hq2 : isK kd v + sumL (cntV kd 9) (v.parts.drop 0) = q := by rw [hq, hN]; rfl
      have hp0 := sumL_pos (cntV_pos kd 9) (v.parts.drop 0)
      have hk01 := isK_01 kd v
      have hm2 := Hmk.out
      rw [← hN, ← hq] at hm2
      rw [← hq]
      have t0 : ¬ q < 0 := by omega
      have t1 : decide (q < 0) = false := by rw [decide_eq_false_iff_not]; exact t0
      have HQ := Lib.hid hq2
      have HP := Lib.hid (show ∀ x ∈ v.parts, cntVal ks 8 x kd = cntV kd 9 x ∧ sizeOf' (isK kd) (cntV kd 8) x ≤ 2000000 from fun x hx => ⟨by unfold cntVal; rw [hpart x hx, hkb]; rfl, Int.le_trans (cntV_le kd 9 x) (hpsz x hx)⟩)
      have hcc : v.parts.length ≤ c ∧ c ≤ maxLen := by obtain ⟨_, _, h1, h2, h3, _⟩ := HV3.out.parts; simp only [Value.slice.injEq] at h1; omega
      unfold maxLen at hcc
      obtain ⟨hcc1, hcc2⟩ := hcc
      clear hq hq2 hp0 hN hpart hpsz hk hvo hkb
      cases tt : (v.ty.toList == kd.toList)
      · have HI := Lib.hid (show isK kd v = 0 by unfold isK; rw [tt]; rfl)
        rw [HI.out] at HQ
        go_wp2
        go_loopw [8, 9] (fun s i wr => ∃ (j : Nat) (n : Int), j ≤ v.parts.length ∧ i = .int .i64 j ∧ s = .int .i64 n ∧ 0 ≤ n ∧ n ≤ 2000000 ∧ Hid (n + sumL (cntV kd 9) (v.parts.drop j) = q) ∧ Hid (Below w3.heap.size w3 wr)) (fun _ i _ => v.parts.length - (intOf i).toNat)
        case atStart => exact ⟨0, _, Nat.zero_le _, rfl, rfl, by omega, by omega, HQ, Lib.hid (Below.refl _ _)⟩
        case round =>
          obtain ⟨j, n, hj, rfl, rfl, hn0, hn1, HH1, HBe⟩ := hrel
          have HKr := Lib.hid (HK3.out.on HBe.out)
          have HVr := Lib.hid (MadeV.drawn HV3.out HBe.out)
          obtain ⟨x0, x1, x2, x3⟩ := (HB3.out.below HBe.out hl3).c2
          by_cases hlt : j < v.parts.length
          · obtain ⟨bp2, of2, cp2, A2, cA2, B2, cB2, hv, hFp, _, _, hp0, hp1, hp2, hp3, hV⟩ := HVr.out.parts.val_at (IsVal.of (Cod.val 8)) hlt
            obtain ⟨rfl, rfl⟩ : A = some ⟨bp2, of2, none⟩ ∧ c = cp2 := by simpa using hv
            obtain ⟨hs1, hs2⟩ := HP.out _ (List.getElem_mem hlt)
            have hst := sumL_step hlt HH1.out
            have hps := sumL_pos (cntV_pos kd 9) (v.parts.drop (j + 1))
            have hs0 := cntV_pos kd 9 v.parts[j]
            obtain ⟨y, hy⟩ : ∃ y, y = cntVal ks 8 v.parts[j] kd := ⟨_, rfl⟩
            rw [← hs1, ← hy] at hst hs0
            have hny : n + y ≤ 2000000 := by omega
            have Hst := Lib.hid hst
            have HVp := Lib.hid hV
            have HC := Lib.hid (implValueCount_any (ks := ks) (d := 8) (Fresh w wr) (.slice (some ⟨ad, 0, none⟩) ks.length cap) A2 B2 _ _ cA2 cB2 v.parts[j] kd wr HKr.out.1 HVp.out (fun b hb => hb.2) hs2)
            have Hy := Lib.hid hy
            clear hv hV hFp hst hps hs1 hs2 hy
            have i0 : (0 : Int) ≤ j := by omega
            have i1 : (j : Int) < v.parts.length := by omega
            go_wp2_with fail
            refine HC.out.mono ?_
            rintro e' w4 ⟨rfl, hb4⟩
            rw [← Hy.out]
            have HBn := Lib.hid (HBe.out.trans (hb4.mono HBe.out.size))
            clear hb4
            go_wp2
            go_roundw
            case rel => exact ⟨j + 1, _, by omega, by go_num, rfl, by omega, by omega, Hst, HBn⟩
            case measure => simp [intOf]; omega
          · have hnq := sumL_end (by omega) HH1.out
            subst hnq
            clear HH1 HQ
            have HEr := Lib.hid (HKr.out.2)
            go_wp2
            go_ret
            exact ⟨by simp, HEr.out⟩
      · have HI := Lib.hid (show isK kd v = 1 by unfold isK; rw [tt]; rfl)
        rw [HI.out] at HQ
        go_wp2
        go_loopw [8, 9] (fun s i wr => ∃ (j : Nat) (n : Int), j ≤ v.parts.length ∧ i = .int .i64 j ∧ s = .int .i64 n ∧ 0 ≤ n ∧ n ≤ 2000000 ∧ Hid (n + sumL (cntV kd 9) (v.parts.drop j) = q) ∧ Hid (Below w3.heap.size w3 wr)) (fun _ i _ => v.parts.length - (intOf i).toNat)
        case atStart => exact ⟨0, _, Nat.zero_le _, rfl, rfl, by omega, by omega, HQ, Lib.hid (Below.refl _ _)⟩
        case round =>
          obtain ⟨j, n, hj, rfl, rfl, hn0, hn1, HH1, HBe⟩ := hrel
          have HKr := Lib.hid (HK3.out.on HBe.out)
          have HVr := Lib.hid (MadeV.drawn HV3.out HBe.out)
          obtain ⟨x0, x1, x2, x3⟩ := (HB3.out.below HBe.out hl3).c2
          by_cases hlt : j < v.parts.length
          · obtain ⟨bp2, of2, cp2, A2, cA2, B2, cB2, hv, hFp, _, _, hp0, hp1, hp2, hp3, hV⟩ := HVr.out.parts.val_at (IsVal.of (Cod.val 8)) hlt
            obtain ⟨rfl, rfl⟩ : A = some ⟨bp2, of2, none⟩ ∧ c = cp2 := by simpa using hv
            obtain ⟨hs1, hs2⟩ := HP.out _ (List.getElem_mem hlt)
            have hst := sumL_step hlt HH1.out
            have hps := sumL_pos (cntV_pos kd 9) (v.parts.drop (j + 1))
            have hs0 := cntV_pos kd 9 v.parts[j]
            obtain ⟨y, hy⟩ : ∃ y, y = cntVal ks 8 v.parts[j] kd := ⟨_, rfl⟩
            rw [← hs1, ← hy] at hst hs0
            have hny : n + y ≤ 2000000 := by omega
            have Hst := Lib.hid hst
            have HVp := Lib.hid hV
            have HC := Lib.hid (implValueCount_any (ks := ks) (d := 8) (Fresh w wr) (.slice (some ⟨ad, 0, none⟩) ks.length cap) A2 B2 _ _ cA2 cB2 v.parts[j] kd wr HKr.out.1 HVp.out (fun b hb => hb.2) hs2)
            have Hy := Lib.hid hy
            clear hv hV hFp hst hps hs1 hs2 hy
            have i0 : (0 : Int) ≤ j := by omega
            have i1 : (j : Int) < v.parts.length := by omega
            go_wp2_with fail
            refine HC.out.mono ?_
            rintro e' w4 ⟨rfl, hb4⟩
            rw [← Hy.out]
            have HBn := Lib.hid (HBe.out.trans (hb4.mono HBe.out.size))
            clear hb4
            go_wp2
            go_roundw
            case rel => exact ⟨j + 1, _, by omega, by go_num, rfl, by omega, by omega, Hst, HBn⟩
            case measure => simp [intOf]; omega
          · have hnq := sumL_end (by omega) HH1.out
            subst hnq
            clear HH1 HQ
            have HEr := Lib.hid (HKr.out.2)
            go_wp2
            go_ret
            exact ⟨by simp, HEr.out⟩

set_option maxRecDepth 100000 in
theorem liftFnValueCount (os : Os) (started : os.Started) (H : Type) (enc : TypeId × Value → H) :
    ReturnsInHanded {} Try.checked os 4 .any (Rows.fnValueCountSpec.pre6 enc Try.prog Try.f4 Rows.fnValueCountRow.domain false) (Rows.fnValueCountSpec.post enc Try.prog Try.f4 false true false false) := by
  refine returnsInHanded_of_change (C := Try.checked) own_ started (by kernel_rfl) Try.func4
    (ChangeSpec.witness6 (enc := enc) (C := Try.checked) false ⟨#[], #[.slice none 0 0], []⟩ 8 (by kernel_rfl) (by kernel_rfl) (by kernel_rfl) (by kernel_rfl)) ?_
  intro W base args ds gs before hval0 hW _ _
  have hval : ∀ (j : Nat) t v, Try.f4.params[j]? = some t → args[j]? = some v → Value.okWide Try.prog W .any base t v := hval0
  have hW' := hW
  obtain ⟨p, q, hA0, hV, rfl, _, _⟩ := hW
  have hA : DataW.TrodAll enc Try.prog W 0 (fun _ => true) true Try.f4.params.toList args.toList ds p := hA0
  rw [Try.params4] at hA hval
  obtain ⟨v0, d0, rfl, rfl, h0⟩ := trodAll_one hA
  obtain ⟨rfl, rfl⟩ := trodVars_none hV
  obtain ⟨xs, hxs⟩ := open_code (hval 0 22 v0 rfl rfl) h0
  clear hA0 hval0
  simp only [List.append_nil] at hW'
  have hlt : ∀ x ∈ p, x.block < W.heap.size := fun x hx => by simpa using hW'.lt x (by simp [hx])
  refine (fnValueCount (Old W) v0 xs W hxs (fun b hb => hb)).mono fun e W' ⟨he, hn⟩ => ?_
  subst he
  refine ⟨_, rfl, _, _, _, [], p, [], hW', ?_, ?_, rfl, hn.frame _, fun h => by cases h⟩
  · exact trodAll_mk1 (shut_bool Try.underlying4 true)
  · exact trodAll_mk1 (Below.trod laidOut_ (by kernel_rfl) (of_decide_eq_true (by kernel_rfl)) h0 hn hlt)

theorem FnValueCount_holds : Rows.FnValueCountSaid :=
  OpenClaim.holds_of_wide 4 Try.f4 rfl rfl rfl rfl rfl rfl rfl ⟨rfl, rfl, rfl, rfl, rfl⟩ rfl rfl rfl rfl rfl (by kernel_rfl) Try.func4 (by kernel_rfl)
    (of_decide_eq_true (by kernel_rfl)) (by unfold Func.isWrapper; first | (rw [if_pos (by decide +kernel)]; kernel_rfl) | (rw [if_neg (by decide +kernel)]; exact ⟨rfl, rfl⟩))
    (fun os started H enc _ => liftFnValueCount os started H enc)
end Go.Proofs.Ytelhjdccfomafaa
