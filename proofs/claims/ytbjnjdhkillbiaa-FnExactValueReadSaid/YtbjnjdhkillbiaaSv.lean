/- The model's reader: a record. -/
import Derived.Test.YtbjnjdhkillbiaaSu
namespace Go.Proofs.Ytbjnjdhkillbiaa
open Go.RowKit

set_option maxRecDepth 100000 in
set_option maxHeartbeats 8000000 in
theorem valueM_rec {ks : Ks} (rb i : Nat) (s : ByteArray) (w : World) (h : MrB rb s i false w) (hi : i + 3 ≤ s.size) (hs : s.size ≤ 2000000) (h83 : atB s i = 83)
    (IH : ∀ (i' : Nat) (w' : World), i < i' → i' ≤ s.size → MrB rb s i' false w' → Calls Try.prog 38 #[.pointer (some ⟨rb, 0, none⟩)] w' (ValM ks rb s i' w')) :
    Calls Try.prog 38 #[.pointer (some ⟨rb, 0, none⟩)] w (ValM ks rb s i w) := by
  have hr := h.lt
  have HM := Lib.hid (h.alloc (.cells #[.string ⟨#[]⟩, .int .i64 0, .slice none 0 0, .slice none 0 0] 27))
  have HB := Lib.hid (Blk.new w 27 #[.string ⟨#[]⟩, .int .i64 0, .slice none 0 0, .slice none 0 0])
  have HW := Lib.hid (show Wrote rb (rb + 1) w (w.alloc (.cells #[.string ⟨#[]⟩, .int .i64 0, .slice none 0 0, .slice none 0 0] 27)) from Wrote.of_below ((Below.refl _ _).alloc (Nat.le_refl _) _))
  have HIH := Lib.hid IH
  have H83 := Lib.hid h83
  have H45 := Lib.hid (show atB s i ≠ 45 by omega)
  have H43 := Lib.hid (show atB s i ≠ 43 by omega)
  have H64 := Lib.hid (show atB s i ≠ 64 by omega)
  have hl : i < s.size := by omega
  have c0 : decide (s.size ≤ i) = false := by rw [decide_eq_false_iff_not]; omega
  have c0b : ¬ (s.size : Int) ≤ (i : Int) := by omega
  have c1 : (((s[i]'hl).toNat : Int) != 83) = false := by
    rw [bne_eq_false_iff_eq]
    unfold atB at h83
    rw [dif_pos hl] at h83
    omega
  have c2 : ¬ (s.size : Int) < (i : Int) + 3 := by omega
  clear h h83 IH
  go_enter Try.func38, Try.ntmps38
  go_wp2_with fail
  refine (next_miss rb i 45 s _ HM.out (by omega) hs (by decide) (by decide) H45.out).mono ?_
  rintro e w2 ⟨rfl, hWw2, hMw2⟩
  have HBw2 := Lib.hid (show Blk w2 w.heap.size 27 #[.string ⟨#[]⟩, .int .i64 0, .slice none 0 0, .slice none 0 0] from (hWw2.block _ HB.out.lt (by omega)).trans HB.out)
  have HWw2 := Lib.hid (HW.out.trans hWw2)
  have HMw2 := Lib.hid hMw2
  clear hWw2 hMw2 HM HB HW
  go_wp2_with fail
  refine (next_miss rb i 43 s _ HMw2.out (by omega) hs (by decide) (by decide) H43.out).mono ?_
  rintro e w3 ⟨rfl, hWw3, hMw3⟩
  have HBw3 := Lib.hid (show Blk w3 w.heap.size 27 #[.string ⟨#[]⟩, .int .i64 0, .slice none 0 0, .slice none 0 0] from (hWw3.block _ HBw2.out.lt (by omega)).trans HBw2.out)
  have HWw3 := Lib.hid (HWw2.out.trans hWw3)
  have HMw3 := Lib.hid hMw3
  clear hWw3 hMw3 HMw2 HBw2 HWw2
  go_wp2_with fail
  refine (next_miss rb i 64 s _ HMw3.out (by omega) hs (by decide) (by decide) H64.out).mono ?_
  rintro e w4 ⟨rfl, hWw4, hMw4⟩
  have HBw4 := Lib.hid (show Blk w4 w.heap.size 27 #[.string ⟨#[]⟩, .int .i64 0, .slice none 0 0, .slice none 0 0] from (hWw4.block _ HBw3.out.lt (by omega)).trans HBw3.out)
  have HWw4 := Lib.hid (HWw3.out.trans hWw4)
  have HMw4 := Lib.hid hMw4
  clear hWw4 hMw4 HMw3 HBw3 HWw3
  obtain ⟨x0, x1, x2⟩ := HMw4.out.c
  go_wp2_with fail
  go_quiet (fail)
  go_wp2_with fail
  go_quiet (fail)
  clear x0 x1 x2
  generalize hw5 : (w4.drewN _).drewN _ = w5
  have HM5 := Lib.hid (show MrB rb s i false w5 by rw [← hw5]; exact (HMw4.out.drewN _).drewN _)
  have HW5 := Lib.hid (show Wrote rb (rb + 1) w w5 by rw [← hw5]; exact (HWw4.out.drewN _).drewN _)
  have HB5 := Lib.hid (show Blk w5 w.heap.size 27 #[.string ⟨#[]⟩, .int .i64 0, .slice none 0 0, .slice none 0 0] by rw [← hw5]; exact HBw4.out)
  clear hw5 c0 c1 H45 H43 H64 HMw4 HWw4 HBw4
  obtain ⟨x0, x1, x2⟩ := HM5.out.c
  have f1 := Blk.frozen HM5.out 1
  have f2 := Blk.frozen HM5.out 2
  go_wp2_with fail
  have e1 : IntKind.i64.wrap ((i : Int) + 3) = (i : Int) + 3 := by rw [IntKind.wrap_i64]; omega
  have b1 : (i : Int) + 3 ≤ (s.size : Int) := by omega
  have b2 : (0 : Int) ≤ (i : Int) + 3 := by omega
  have b3 : (i : Int) ≤ (i : Int) + 3 := by omega
  have hr5 := HM5.out.lt
  have b4 : ((i : Int) + 3).toNat = i + 3 := by omega
  go_region
  have hx : w.heap.size < w5.heap.size := HB5.out.lt
  have HR6 := Lib.hid (show RowB rb s w w5.heap.size (s.extract i (i + 3)) [] 0 none 0 i false (w5.alloc (.cells #[.string (s.extract i (i + 3)), .int .i64 0, .slice none 0 0, .slice none 0 0] 27)).drew from
    RowB.drew ⟨HM5.out.alloc _, HW5.out.below ((Below.refl _ _).alloc (Nat.le_of_lt hx) _), HB5.out.alloc _, Blk.new _ _ _, OwnRow.nil_ _ _ _ _ _⟩)
  generalize hw6 : (w5.alloc (.cells #[.string (s.extract i (i + 3)), .int .i64 0, .slice none 0 0, .slice none 0 0] 27)).drew = w6 at *
  generalize hxx : w5.heap.size = x at *
  clear hw6 hxx x0 x1 x2 f1 f2 HM5 HW5 HB5 hr5
  obtain ⟨x0, x1, x2⟩ := HR6.out.rd.c
  have f1 := Blk.frozen HR6.out.rd 1
  go_upto_region 14 with fail
  have HR7 := Lib.hid (show RowB rb s w x (s.extract i (i + 3)) [] 0 none 0 (i + 3) false (w6.setCell ⟨rb, 1, none⟩ (.int .i64 ((i : Int) + 3))) from HR6.out.go hr hx (Wrote.set_ (Nat.le_refl _) (Nat.lt_succ_self _) _) (HR6.out.rd.go (i + 3)))
  generalize hw7 : w6.setCell ⟨rb, 1, none⟩ (.int .i64 ((i : Int) + 3)) = w7 at *
  clear hw7 x0 x1 x2 f1 HR6 e1 b1 b2 b3 b4 c2
  obtain ⟨x0, x1, x2⟩ := HR7.out.rd.c
  go_wp2_with fail
  refine (next_sym rb (i + 3) 40 s w7 HR7.out.rd hi hs (by decide) (by decide)).mono ?_
  rintro e w8 ⟨hit, rfl, hW8, hh8⟩
  have H8 : ∃ (ij : Nat), i < ij ∧ ij ≤ s.size ∧ RowB rb s w x (s.extract i (i + 3)) [] 0 none 0 ij false w8 ∧ RowM ks s i ij (!hit) (s.extract i (i + 3)) [] := by
    rcases hh8 with ⟨rfl, h1, h2, h3⟩ | ⟨rfl, h1, h3⟩
    · exact ⟨i + 4, by omega, h2, HR7.out.go hr hx hW8 h3, row_start H83.out⟩
    · exact ⟨i + 3, by omega, hi, HR7.out.go hr hx hW8 h3, row_none H83.out h1⟩
  obtain ⟨ij, hij, hijs, HR8, HM8⟩ := H8
  have HR8' := Lib.hid HR8
  have HM8' := Lib.hid HM8
  have f2 := Blk.frozen HR8.rd 2
  obtain ⟨y0, y1, y2⟩ := HR8.rd.c
  clear hW8 hh8 HR8 HM8 x0 x1 x2
  go_upto_region 15 with fail
  have HR9 := Lib.hid (HR8'.out.turn hr hx (!hit))
  clear f2 y0 y1 y2
  generalize hw9 : w8.setCell ⟨rb, 2, none⟩ (.bool (!hit)) = w9 at *
  generalize hbb : (!hit) = bad0 at *
  clear hw9 hbb HR7 HR8'
  go_loopw [90] (fun _ wr => ∃ (ij : Nat) (bad : Bool) (done : List Val) (d : Nat) (A : Option Addr) (cA : Nat), i < ij ∧ ij ≤ s.size ∧ done.length ≤ 4 ∧ Hid (RowB rb s w x (s.extract i (i + 3)) done d A cA ij bad wr) ∧ Hid (RowM ks s i ij bad (s.extract i (i + 3)) done)) (fun _ wr => measM s rb wr)
  case atStart => exact ⟨ij, bad0, [], 0, none, 0, hij, hijs, by simp, HR9, HM8'⟩
  case round =>
    clear HR9 HM8' hij hijs
    obtain ⟨ij, bad, done, d, A, cA, hij, hijs, hdl, HR, HM⟩ := hrel
    obtain ⟨x0, x1, x2⟩ := HR.out.rd.c
    have Hmeas := Lib.hid HR.out.rd.meas
    cases bad
    · go_wp2_with fail
      refine (next_sym rb ij 41 s wr HR.out.rd hijs hs (by decide) (by decide)).mono ?_
      rintro e w1 ⟨hit, rfl, hW1, hh1⟩
      clear x0 x1 x2
      rcases hh1 with ⟨rfl, h1, h2, h3⟩ | ⟨rfl, h1, h3⟩
      · have HRc := Lib.hid (HR.out.go hr hx hW1 h3)
        have HG := Lib.hid (row_close HM.out h1)
        have hi2 : i < ij + 1 := by omega
        clear hW1 h3 h1
        have hty : (s.extract i (i + 3)).size ≤ 3 := by rw [ByteArray.size_extract]; omega
        obtain ⟨hV, hBF⟩ := HRc.out.done_ hr hx hty hi2 h2 HG.out
        obtain ⟨z0, z1, z2, z3⟩ := hBF.c2
        have HQ := Lib.hid hV
        obtain ⟨wF, hF⟩ : ∃ wF, wF = set4 w1 w.heap.size (.string (s.extract i (i + 3))) (.int .i64 0) (.slice A done.length cA) (.slice none 0 0) := ⟨_, rfl⟩
        rw [← hF] at z0 z1 z2 z3 HQ
        unfold set4 at hF
        obtain ⟨t0, t1, t2, t3⟩ := HRc.out.var.c2
        obtain ⟨y0, y1, y2, y3⟩ := HRc.out.res.c2
        obtain ⟨f0, f1, f2, f3⟩ := HRc.out.res.f4
        clear hV hBF
        go_wp2_with fail
        rw [← hF]
        exact bodyPost_ret (v := .agg #[.string (s.extract i (i + 3)), .int .i64 0, .slice A done.length cA, .slice none 0 0]) (by simp [results, Try.results38, go_sem, z0, z1, z2, z3]) rfl HQ.out
      · have HRm := Lib.hid (HR.out.go hr hx hW1 h3)
        have H41 := Lib.hid h1
        clear hW1 h3 h1
        obtain ⟨n, Hn⟩ : ∃ n, Hid (n = done.length) := ⟨_, rfl⟩
        obtain ⟨y0, y1, y2, y3⟩ := HRm.out.var.c2
        rw [← Hn.out] at y2
        go_upto_if 103 with fail
        clear y0 y1 y2 y3
        go_cut [103] (fun _ wx => ∃ (i1 : Nat) (bad1 : Bool), ij ≤ i1 ∧ i1 ≤ s.size ∧ Hid (RowB rb s w x (s.extract i (i + 3)) done d A cA i1 bad1 wx) ∧ Hid ((bad1 = true ∧ RowM ks s i i1 true (s.extract i (i + 3)) done) ∨ (bad1 = false ∧ ((done = [] ∧ i1 = ij) ∨ (done ≠ [] ∧ atB s ij = 32 ∧ i1 = ij + 1)))))
        case first =>
          by_cases h0 : n = 0
          · have b1 : ¬ 0 < n := by omega
            have Hd0 := Lib.hid (nil_of (Hn.out.symm.trans h0))
            clear h0
            go_wp2_with fail
            go_meet
            exact ⟨ij, false, Nat.le_refl _, hijs, HRm, Lib.hid (.inr ⟨rfl, .inl ⟨Hd0.out, rfl⟩⟩)⟩
          · have b1 : 0 < n := by omega
            have Hd0 := Lib.hid (show done ≠ [] from fun h => h0 (by rw [Hn.out, h]; rfl))
            clear h0
            obtain ⟨x0, x1, x2⟩ := HRm.out.rd.c
            go_wp2_with fail
            refine (next_sym rb ij 32 s w1 HRm.out.rd hijs hs (by decide) (by decide)).mono ?_
            rintro e wa ⟨hit, rfl, hWa, hha⟩
            clear x0 x1 x2
            rcases hha with ⟨rfl, h1, h2, h3⟩ | ⟨rfl, h1, h3⟩
            · have HRa := Lib.hid (HRm.out.go hr hx hWa h3)
              have H32 := Lib.hid h1
              clear hWa h3 h1
              have f2 := Blk.frozen HRa.out.rd 2
              obtain ⟨y0, y1, y2⟩ := HRa.out.rd.c
              go_wp2_with fail
              go_meet
              exact ⟨ij + 1, false, by omega, h2, Lib.hid (HRa.out.turn hr hx false), Lib.hid (.inr ⟨rfl, .inr ⟨Hd0.out, H32.out, rfl⟩⟩)⟩
            · have HRa := Lib.hid (HRm.out.go hr hx hWa h3)
              have H32 := Lib.hid h1
              clear hWa h3 h1
              have f2 := Blk.frozen HRa.out.rd 2
              obtain ⟨y0, y1, y2⟩ := HRa.out.rd.c
              go_wp2_with fail
              go_meet
              exact ⟨ij, true, Nat.le_refl _, hijs, Lib.hid (HRa.out.turn hr hx true), Lib.hid (.inl ⟨rfl, row_blank HM.out H41.out Hd0.out H32.out⟩)⟩
        case rest =>
          obtain ⟨i1, bad1, hi1, hi1s, HR1, HO1⟩ := hcut
          obtain ⟨x0, x1, x2⟩ := HR1.out.rd.c
          have f2 := Blk.frozen HR1.out.rd 2
          obtain ⟨y0, y1, y2, y3⟩ := HR1.out.var.c2
          rw [← Hn.out] at y2
          cases bad1
          · by_cases h3 : 3 < n
            · have b0 : decide ((3 : Int) < (n : Int)) = true := by rw [decide_eq_true_eq]; omega
              have b1 : decide (3 < n) = true := by rw [decide_eq_true_eq]; omega
              have H3 := Lib.hid (show 3 < done.length by rw [← Hn.out]; exact h3)
              clear h3
              go_upto_region 19 with fail
              have HRn := Lib.hid (HR1.out.turn hr hx true)
              generalize hwn : wc.setCell ⟨rb, 2, none⟩ (.bool true) = wn at *
              clear hwn x0 x1 x2 f2 y0 y1 y2 y3
              obtain ⟨x0, x1, x2⟩ := HRn.out.rd.c
              go_wp2_with fail
              go_roundw
              case rel => exact ⟨i1, true, done, d, A, cA, by omega, hi1s, hdl, HRn, Lib.hid (row_many HM.out H41.out H3.out)⟩
              case measure => rw [HRn.out.rd.meas, Hmeas.out]; simp
            · have b0 : decide ((3 : Int) < (n : Int)) = false := by rw [decide_eq_false_iff_not]; omega
              have b1 : decide (3 < n) = false := by rw [decide_eq_false_iff_not]; omega
              have hd3 : done.length ≤ 3 := by have := Hn.out; omega
              have HO := Lib.hid (show (done = [] ∧ i1 = ij) ∨ (done ≠ [] ∧ atB s ij = 32 ∧ i1 = ij + 1) by rcases HO1.out with ⟨h, _⟩ | ⟨_, h⟩; (cases h); exact h)
              clear h3 HO1
              go_upto_region 19 with fail
              have HRn := Lib.hid (HR1.out.turn hr hx false)
              generalize hwn : wc.setCell ⟨rb, 2, none⟩ (.bool false) = wn at *
              clear hwn x0 x1 x2 f2 y0 y1 y2 y3 b0 b1
              obtain ⟨x0, x1, x2⟩ := HRn.out.rd.c
              go_upto_region 20 with fail
              clear x0 x1 x2
              have hi1i : i < i1 := by rcases HO.out with ⟨_, h⟩ | ⟨_, _, h⟩ <;> omega
              have HC := Lib.hid (HIH.out i1 wn.drew hi1i hi1s HRn.out.rd.drew)
              have HCb := Lib.hid (HIH.out i1 wn hi1i hi1s HRn.out.rd)
              obtain ⟨y0, y1, y2, y3⟩ := HRn.out.var.c2
              have hxl := HRn.out.var.lt
              go_region_law (first | (refine step_append_run rfl _ _ _ rfl rfl rfl happ ?_) | (go_simp; go_at_call 38; refine HC.out.mono ?_; rintro e wv ⟨hWv, i2, bad2, dv, v, Av, cv, hb2, hi2, hi2s, hMv, rfl, hpv, hVv, hGv⟩; go_must (have HPv := Lib.hid hpv; have HGv := Lib.hid hGv; have Hb2 := Lib.hid hb2; have hi2 := hi2; have hi2s := hi2s; obtain ⟨g, cap, w4, happ, hc4, hf4, hR4⟩ := HRn.out.drew.push hx (by omega) hr hWv hMv hpv hVv; have HR4 := Lib.hid hR4; obtain ⟨yv0, yv1, yv2, yv3⟩ := ((HRn.out.drew.go hr hx hWv hMv).var).c2; have hxv := (HRn.out.drew.go hr hx hWv hMv).var.lt; clear hWv hMv hpv hVv hGv hb2 hR4)))
              all_goals
                go_wp2
                go_roundw
                case rel => exact ⟨i2, bad2, done ++ [v], max d (dv + 1), some ⟨g, 0, none⟩, cap, by omega, hi2s, by simp; omega, HR4, Lib.hid (row_step HM.out H41.out HO.out HGv.out)⟩
                case measure =>
                  rw [HR4.out.rd.meas, Hmeas.out]
                  cases bad2 with
                  | true => simp
                  | false =>
                    have := Hb2.out rfl
                    simp
                    omega
          · go_upto_region 19 with fail
            have HRn := Lib.hid (HR1.out.turn hr hx true)
            have HMn := Lib.hid (show RowM ks s i i1 true (s.extract i (i + 3)) done by rcases HO1.out with ⟨_, h⟩ | ⟨h, _⟩; (exact h); cases h)
            generalize hwn : wc.setCell ⟨rb, 2, none⟩ (.bool true) = wn at *
            clear hwn x0 x1 x2 f2 y0 y1 y2 y3
            obtain ⟨x0, x1, x2⟩ := HRn.out.rd.c
            go_wp2_with fail
            go_roundw
            case rel => exact ⟨i1, true, done, d, A, cA, by omega, hi1s, hdl, HRn, HMn⟩
            case measure => rw [HRn.out.rd.meas, Hmeas.out]; simp
    · have HRc := HR
      have HG := Lib.hid (show GoodM ks s i ij true (.mk (s.extract i (i + 3)) 0 done []) from row_lost HM.out)
      have hi2 := hij
      have hty : (s.extract i (i + 3)).size ≤ 3 := by rw [ByteArray.size_extract]; omega
      obtain ⟨hV, hBF⟩ := HRc.out.done_ hr hx hty hi2 hijs HG.out
      obtain ⟨z0, z1, z2, z3⟩ := hBF.c2
      have HQ := Lib.hid hV
      obtain ⟨wF, hF⟩ : ∃ wF, wF = set4 wr w.heap.size (.string (s.extract i (i + 3))) (.int .i64 0) (.slice A done.length cA) (.slice none 0 0) := ⟨_, rfl⟩
      rw [← hF] at z0 z1 z2 z3 HQ
      unfold set4 at hF
      obtain ⟨t0, t1, t2, t3⟩ := HRc.out.var.c2
      obtain ⟨y0, y1, y2, y3⟩ := HRc.out.res.c2
      obtain ⟨f0, f1, f2, f3⟩ := HRc.out.res.f4
      clear hV hBF
      go_wp2_with fail
      rw [← hF]
      exact bodyPost_ret (v := .agg #[.string (s.extract i (i + 3)), .int .i64 0, .slice A done.length cA, .slice none 0 0]) (by simp [results, Try.results38, go_sem, z0, z1, z2, z3]) rfl HQ.out
end Go.Proofs.Ytbjnjdhkillbiaa
