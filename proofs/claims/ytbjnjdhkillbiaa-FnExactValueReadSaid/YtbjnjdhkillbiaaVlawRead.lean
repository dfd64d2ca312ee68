/- Whatever the arguments, the exact law of ValueRead answers true: the program's ValueRead is the model's, leaves its arguments alone, and its answer owns its memory. -/
import Derived.Test.YtbjnjdhkillbiaaSx
import Derived.Test.YtbjnjdhkillbiaaSzk
import Derived.ProofKit
import Derived.OpenShut
namespace Go.Proofs.Ytbjnjdhkillbiaa
open Go.ChangeShapes Go.WideShapes Go.ChangeAt Go.RowKit Go.Deep
open Go.ChangeMaps (open_string shut_string)

set_option maxRecDepth 100000 in
set_option maxHeartbeats 16000000 in
theorem lawValueRead (F : Nat → Prop) (kv : Value) (ks : Ks) (s : ByteArray) (w : World) (h : Cod.recs.Sl F w kv ks) (hF : ∀ b, F b → b < w.heap.size) :
    Calls Try.prog 5 #[kv, .string s] w fun e w' => e = .returned (.bool true) ∧ Below w.heap.size w w' := by
  have HS := Lib.hid h
  obtain ⟨Ak, ck, rfl, _⟩ := h
  by_cases hbig : 1048576 < s.size
  · have b0 : (1048576 : Int) < (s.size : Int) := by omega
    clear hbig
    go_enter Try.func5, Try.ntmps5
    go_wp2
    go_ret
    exact ⟨rfl, Below.refl _ _⟩
  · have b0 : ¬ (1048576 : Int) < (s.size : Int) := by omega
    have hs20 : s.size ≤ 1048576 := by omega
    clear hbig
    by_cases hz : szS (szS szRec) ks 1048576 < 0
    · go_enter Try.func5, Try.ntmps5
      go_wp2_with fail
      refine (szRecordSS_any F _ ks _ _ HS.out hF (by omega) (by omega)).mono ?_
      rintro e w1 ⟨rfl, hb1⟩
      go_wp2_with fail
      go_ret
      exact ⟨rfl, hb1⟩
    · obtain ⟨hn, hm⟩ := sz_kinds (ks := ks) (by omega)
      have Hn := Lib.hid hn
      have Hm := Lib.hid hm
      have Hkm := Lib.hid (marks_kinds (ks := ks) (by omega))
      clear hm hn
      go_enter Try.func5, Try.ntmps5
      go_wp2_with fail
      refine (szRecordSS_any F _ ks _ _ HS.out hF (by omega) (by omega)).mono ?_
      rintro e w1 ⟨rfl, hb1⟩
      have HEw1 := Lib.hid hb1
      have hsw1 := hb1.size
      clear hb1
      go_wp2_with fail
      refine (toRecordSS_any F _ ks w1 (HS.out.keep (below_keeps HEw1.out hF)) (fun b hb => by have := hF b hb; have := HEw1.out.size; omega) Hn.out Hm.out).mono ?_
      rintro e w2 ⟨A2, c2, rfl, hM2⟩
      have HM2 := Lib.hid hM2.1
      have HEw2 := Lib.hid (HEw1.out.trans (hM2.2.mono HEw1.out.size))
      have hsw2 := hM2.2.size
      clear hM2 HEw1
      go_wp2_with fail
      refine (specValueRead_any (Fresh w1 w2) _ s w2 HM2.out (fun b hb => hb.2) (by omega)).mono ?_
      rintro e w3 hR
      obtain ⟨hb3, d, bo, v, A, cA, rfl, hp, hA0, hV0⟩ := hR.ans
      have HEw3 := Lib.hid (HEw2.out.trans (hb3.mono HEw2.out.size))
      have hsw3 := hb3.size
      have HA0 := Lib.hid hA0
      have Hp := Lib.hid hp
      obtain ⟨D, hD1, hD2⟩ : ∃ D, d ≤ D ∧ 40 ≤ D := ⟨max d 40, by omega, by omega⟩
      obtain ⟨l0, Hl0⟩ : ∃ q, Hid (q = w2.heap.size) := ⟨_, rfl⟩
      have hl0a : l0 ≤ w2.heap.size := by have := Hl0.out; omega
      have hl0b : w2.heap.size ≤ l0 := by have := Hl0.out; omega
      obtain ⟨h0, Hh0⟩ : ∃ q, Hid (q = w3.heap.size) := ⟨_, rfl⟩
      have hh0a : h0 ≤ w3.heap.size := by have := Hh0.out; omega
      have hh0b : w3.heap.size ≤ h0 := by have := Hh0.out; omega
      have HWw3 := Lib.hid (show VRd (Cod.val D) (fun b => l0 ≤ b ∧ b < h0) w3 (.slice A v.parts.length cA) (.slice none 0 0) v from (hV0.deep hD1).mono fun b hb => ⟨by have := hb.1; omega, by have := hb.2; omega⟩)
      obtain ⟨A', cA', hAe, hAl, hAm, _⟩ := hV0.parts
      simp only [Value.slice.injEq] at hAe
      obtain ⟨rfl, _, rfl⟩ := hAe
      unfold maxLen at hAm
      clear hR hb3 hA0 hp hV0 HEw2 HM2
      go_upto_region 8 with fail
      have hb4 := below_alloc1 w3 (.cells #[.string v.ty, .int .i64 v.n, .slice A v.parts.length cA, .slice none 0 0] 27)
      have HB6w4 := Lib.hid (Blk.new w3 27 #[.string v.ty, .int .i64 v.n, .slice A v.parts.length cA, .slice none 0 0])
      rw [← Hh0.out] at HB6w4
      generalize hw4 : w3.alloc (.cells #[.string v.ty, .int .i64 v.n, .slice A v.parts.length cA, .slice none 0 0] 27) = w4 at *
      rw [← Hh0.out]
      clear hw4
      have hlt4 := HB6w4.out.lt
      have hsw4 : w3.heap.size ≤ w4.heap.size := hb4.size
      have HEw4 := Lib.hid (HEw3.out.trans (hb4.mono HEw3.out.size))
      have HWw4 := Lib.hid (HWw3.out.keep (w' := w4) fun b hb1 => hb4.block _ (by omega))
      clear hb4 HEw3 HWw3
      go_wp2_with fail
      refine (toRecordSS_own F _ ks w4 (HS.out.keep (below_keeps HEw4.out hF)) (fun b hb => by have := hF b hb; have := HEw4.out.size; omega) Hn.out Hm.out).mono ?_
      rintro e w5 ⟨Ax, cx, rfl, hMx⟩
      have hbx := hMx.2
      obtain ⟨lx, Hlx⟩ : ∃ q, Hid (q = w4.heap.size) := ⟨_, rfl⟩
      have hlxa : lx ≤ w4.heap.size := by have := Hlx.out; omega
      have hlxb : w4.heap.size ≤ lx := by have := Hlx.out; omega
      obtain ⟨hx, Hhx⟩ : ∃ q, Hid (q = w5.heap.size) := ⟨_, rfl⟩
      have hhxa : hx ≤ w5.heap.size := by have := Hhx.out; omega
      have hhxb : w5.heap.size ≤ hx := by have := Hhx.out; omega
      have HXw5 := Lib.hid (show Own ((OCod.rec_ 9).row 60) 74 lx hx w5 (.slice Ax ks.length cx) ks by rw [Hlx.out, Hhx.out]; exact hMx.1)
      clear hMx
      have hsw5 : w4.heap.size ≤ w5.heap.size := hbx.size
      have HEw5 := Lib.hid (HEw4.out.trans (hbx.mono HEw4.out.size))
      have HWw5 := Lib.hid (HWw4.out.keep (w' := w5) fun b hb1 => hbx.block _ (by omega))
      have HB6w5 := Lib.hid (show Blk w5 h0 27 #[.string v.ty, .int .i64 v.n, .slice A v.parts.length cA, .slice none 0 0] from (hbx.block _ (by omega)).trans HB6w4.out)
      clear hbx HEw4 HWw4 HB6w4
      go_wp2_with fail
      refine (implValueRead_any (fun b => lx ≤ b ∧ b < hx) _ s w5 HXw5.out.sl (fun b hb => by omega) (by omega)).mono ?_
      rintro e w6 hR
      obtain ⟨hb6, bo', v', Ag, cg, rfl, hp', hA1, hO1⟩ := hR.ans
      obtain ⟨rfl, rfl⟩ := HA0.out.same hA1
      have HA1 := Lib.hid hA1
      have Hmk := Lib.hid hA1.marks
      obtain ⟨lg, Hlg⟩ : ∃ q, Hid (q = w5.heap.size) := ⟨_, rfl⟩
      have hlga : lg ≤ w5.heap.size := by have := Hlg.out; omega
      have hlgb : w5.heap.size ≤ lg := by have := Hlg.out; omega
      obtain ⟨hg, Hhg⟩ : ∃ q, Hid (q = w6.heap.size) := ⟨_, rfl⟩
      have hhga : hg ≤ w6.heap.size := by have := Hhg.out; omega
      have hhgb : w6.heap.size ≤ hg := by have := Hhg.out; omega
      have HGw6 := Lib.hid (show OV (OCod.val 27 3 40) 27 3 lg hg w6 (.slice Ag v.parts.length cg) (.slice none 0 0) v by rw [Hlg.out, Hhg.out]; exact hO1)
      obtain ⟨Ag', cg', hge, hgl, hgm, _⟩ := hO1.rd.parts
      simp only [Value.slice.injEq] at hge
      obtain ⟨rfl, _, rfl⟩ := hge
      unfold maxLen at hgm
      clear hR hp' hA1 hO1
      have hsw6 : w5.heap.size ≤ w6.heap.size := hb6.size
      have HEw6 := Lib.hid (HEw5.out.trans (hb6.mono HEw5.out.size))
      have HWw6 := Lib.hid (HWw5.out.keep (w' := w6) fun b hb1 => hb6.block _ (by omega))
      have HB6w6 := Lib.hid (show Blk w6 h0 27 #[.string v.ty, .int .i64 v.n, .slice A v.parts.length cA, .slice none 0 0] from (hb6.block _ (by omega)).trans HB6w5.out)
      have HXw6 := Lib.hid (HXw5.out.keep (w' := w6) fun b hb1 hb2 => hb6.block _ (by omega))
      clear hb6 HEw5 HWw5 HB6w5 HXw5
      go_upto_region 10 with fail
      have hb7 := below_alloc1 w6 (.cells #[.string v.ty, .int .i64 v.n, .slice Ag v.parts.length cg, .slice none 0 0] 27)
      have HB9w7 := Lib.hid (Blk.new w6 27 #[.string v.ty, .int .i64 v.n, .slice Ag v.parts.length cg, .slice none 0 0])
      rw [← Hhg.out] at HB9w7
      generalize hw7 : w6.alloc (.cells #[.string v.ty, .int .i64 v.n, .slice Ag v.parts.length cg, .slice none 0 0] 27) = w7 at *
      rw [← Hhg.out]
      clear hw7
      have hlt7 := HB9w7.out.lt
      have hsw7 : w6.heap.size ≤ w7.heap.size := hb7.size
      have HEw7 := Lib.hid (HEw6.out.trans (hb7.mono HEw6.out.size))
      have HWw7 := Lib.hid (HWw6.out.keep (w' := w7) fun b hb1 => hb7.block _ (by omega))
      have HB6w7 := Lib.hid (show Blk w7 h0 27 #[.string v.ty, .int .i64 v.n, .slice A v.parts.length cA, .slice none 0 0] from (hb7.block _ (by omega)).trans HB6w6.out)
      have HXw7 := Lib.hid (HXw6.out.keep (w' := w7) fun b hb1 hb2 => hb7.block _ (by omega))
      have HGw7 := Lib.hid (HGw6.out.keep (w' := w7) fun b hb1 hb2 => hb7.block _ (by omega))
      clear hb7 HEw6 HWw6 HB6w6 HXw6 HGw6
      obtain ⟨x0, x1, x2, x3⟩ := HB6w7.out.c2
      obtain ⟨y0, y1, y2, y3⟩ := HB9w7.out.c2
      go_wp2_with fail
      refine (eqValue_any D (fun b => (l0 ≤ b ∧ b < h0) ∨ (lg ≤ b ∧ b < hg)) (.slice Ag v.parts.length cg) (.slice none 0 0) (.slice A v.parts.length cA) (.slice none 0 0) v w7 (VRd.mono (fun b hb => .inr hb) (VRd.deep hD2 (show VRd (Cod.val 40) (fun b => lg ≤ b ∧ b < hg) w7 _ _ v by have := HGw7.out.rd; rwa [OCod.val_cod] at this))) (HWw7.out.mono fun b hb => .inl hb) (fun b hb => by rcases hb with hb | hb <;> omega)).mono ?_
      rintro e w8 ⟨rfl, hbe⟩
      clear x0 x1 x2 x3 y0 y1 y2 y3
      have hsw8 : w7.heap.size ≤ w8.heap.size := hbe.size
      have HEw8 := Lib.hid (HEw7.out.trans (hbe.mono HEw7.out.size))
      have HWw8 := Lib.hid (HWw7.out.keep (w' := w8) fun b hb1 => hbe.block _ (by omega))
      have HB6w8 := Lib.hid (show Blk w8 h0 27 #[.string v.ty, .int .i64 v.n, .slice A v.parts.length cA, .slice none 0 0] from (hbe.block _ (by omega)).trans HB6w7.out)
      have HXw8 := Lib.hid (HXw7.out.keep (w' := w8) fun b hb1 hb2 => hbe.block _ (by omega))
      have HGw8 := Lib.hid (HGw7.out.keep (w' := w8) fun b hb1 hb2 => hbe.block _ (by omega))
      have HB9w8 := Lib.hid (show Blk w8 hg 27 #[.string v.ty, .int .i64 v.n, .slice Ag v.parts.length cg, .slice none 0 0] from (hbe.block _ (by omega)).trans HB9w7.out)
      clear hbe HEw7 HWw7 HB6w7 HXw7 HGw7 HB9w7
      go_wp2_with fail
      refine (toRecordSS_any F _ ks w8 (HS.out.keep (below_keeps HEw8.out hF)) (fun b hb => by have := hF b hb; have := HEw8.out.size; omega) Hn.out Hm.out).mono ?_
      rintro e w9 ⟨A9, c9, rfl, hM9⟩
      have hbm := hM9.2
      have HM9 := Lib.hid hM9.1
      clear hM9
      have hsw9 : w8.heap.size ≤ w9.heap.size := hbm.size
      have HEw9 := Lib.hid (HEw8.out.trans (hbm.mono HEw8.out.size))
      have HWw9 := Lib.hid (HWw8.out.keep (w' := w9) fun b hb1 => hbm.block _ (by omega))
      have HB6w9 := Lib.hid (show Blk w9 h0 27 #[.string v.ty, .int .i64 v.n, .slice A v.parts.length cA, .slice none 0 0] from (hbm.block _ (by omega)).trans HB6w8.out)
      have HXw9 := Lib.hid (HXw8.out.keep (w' := w9) fun b hb1 hb2 => hbm.block _ (by omega))
      have HGw9 := Lib.hid (HGw8.out.keep (w' := w9) fun b hb1 hb2 => hbm.block _ (by omega))
      have HB9w9 := Lib.hid (show Blk w9 hg 27 #[.string v.ty, .int .i64 v.n, .slice Ag v.parts.length cg, .slice none 0 0] from (hbm.block _ (by omega)).trans HB9w8.out)
      clear hbm HEw8 HWw8 HB6w8 HXw8 HGw8 HB9w8
      go_wp2_with fail
      refine (eqRecordSS_any (fun b => (lx ≤ b ∧ b < hx) ∨ Fresh w8 w9 b) _ _ ks w9 (HXw9.out.sl.mono fun b hb => .inl hb) (HM9.out.mono fun b hb => .inr hb) (fun b hb => by rcases hb with hb | hb; omega; exact hb.2)).mono ?_
      rintro e w10 ⟨rfl, hbe⟩
      clear HM9
      have hsw10 : w9.heap.size ≤ w10.heap.size := hbe.size
      have HEw10 := Lib.hid (HEw9.out.trans (hbe.mono HEw9.out.size))
      have HWw10 := Lib.hid (HWw9.out.keep (w' := w10) fun b hb1 => hbe.block _ (by omega))
      have HB6w10 := Lib.hid (show Blk w10 h0 27 #[.string v.ty, .int .i64 v.n, .slice A v.parts.length cA, .slice none 0 0] from (hbe.block _ (by omega)).trans HB6w9.out)
      have HXw10 := Lib.hid (HXw9.out.keep (w' := w10) fun b hb1 hb2 => hbe.block _ (by omega))
      have HGw10 := Lib.hid (HGw9.out.keep (w' := w10) fun b hb1 hb2 => hbe.block _ (by omega))
      have HB9w10 := Lib.hid (show Blk w10 hg 27 #[.string v.ty, .int .i64 v.n, .slice Ag v.parts.length cg, .slice none 0 0] from (hbe.block _ (by omega)).trans HB9w9.out)
      clear hbe HEw9 HWw9 HB6w9 HXw9 HGw9 HB9w9
      obtain ⟨k1, hk1⟩ : ∃ k1, k1 = (markL mkRS ks 1).2 := ⟨_, rfl⟩
      have hk1m : k1 ≤ 100000000 := by rw [hk1]; exact Hkm.out
      have Hk1 := Lib.hid hk1
      have n0 : ¬ ((k1 : Int) < 0) := by omega
      clear hk1
      go_wp2_with fail
      refine (markRecordSS_any lx hx 1 _ ks w10 HXw10.out (by omega) (by decide) Hkm.out).mono ?_
      rintro e w11 ⟨rfl, _, hbw⟩
      rw [← Hk1.out]
      clear HXw10
      have hsw11 : w10.heap.size ≤ w11.heap.size := hbw.size
      have HEw11 := Lib.hid (HEw10.out.trans (hbw.to_below (by omega) HEw10.out.size))
      have HWw11 := Lib.hid (HWw10.out.keep (w' := w11) fun b hb1 => hbw.block _ (by omega) (by omega))
      have HB6w11 := Lib.hid (show Blk w11 h0 27 #[.string v.ty, .int .i64 v.n, .slice A v.parts.length cA, .slice none 0 0] from (hbw.block _ (by omega) (by omega)).trans HB6w10.out)
      have HGw11 := Lib.hid (HGw10.out.keep (w' := w11) fun b hb1 hb2 => hbw.block _ (by omega) (by omega))
      have HB9w11 := Lib.hid (show Blk w11 hg 27 #[.string v.ty, .int .i64 v.n, .slice Ag v.parts.length cg, .slice none 0 0] from (hbw.block _ (by omega) (by omega)).trans HB9w10.out)
      clear hbw HEw10 HWw10 HB6w10 HGw10 HB9w10
      obtain ⟨x0, x1, x2, x3⟩ := HB6w11.out.c2
      obtain ⟨y0, y1, y2, y3⟩ := HB9w11.out.c2
      go_wp2_with fail
      refine (eqValue_any D (fun b => (l0 ≤ b ∧ b < h0) ∨ (lg ≤ b ∧ b < hg)) (.slice Ag v.parts.length cg) (.slice none 0 0) (.slice A v.parts.length cA) (.slice none 0 0) v w11 (VRd.mono (fun b hb => .inr hb) (VRd.deep hD2 (show VRd (Cod.val 40) (fun b => lg ≤ b ∧ b < hg) w11 _ _ v by have := HGw11.out.rd; rwa [OCod.val_cod] at this))) (HWw11.out.mono fun b hb => .inl hb) (fun b hb => by rcases hb with hb | hb <;> omega)).mono ?_
      rintro e w12 ⟨rfl, hbe⟩
      clear x0 x1 x2 x3 y0 y1 y2 y3
      have hsw12 : w11.heap.size ≤ w12.heap.size := hbe.size
      have HEw12 := Lib.hid (HEw11.out.trans (hbe.mono HEw11.out.size))
      have HWw12 := Lib.hid (HWw11.out.keep (w' := w12) fun b hb1 => hbe.block _ (by omega))
      have HB6w12 := Lib.hid (show Blk w12 h0 27 #[.string v.ty, .int .i64 v.n, .slice A v.parts.length cA, .slice none 0 0] from (hbe.block _ (by omega)).trans HB6w11.out)
      have HGw12 := Lib.hid (HGw11.out.keep (w' := w12) fun b hb1 hb2 => hbe.block _ (by omega))
      have HB9w12 := Lib.hid (show Blk w12 hg 27 #[.string v.ty, .int .i64 v.n, .slice Ag v.parts.length cg, .slice none 0 0] from (hbe.block _ (by omega)).trans HB9w11.out)
      clear hbe HEw11 HWw11 HB6w11 HGw11 HB9w11
      obtain ⟨m1, hm1⟩ : ∃ m1, m1 = (mkTop (mkV 40) v 1).2 := ⟨_, rfl⟩
      have Hm1 := Lib.hid hm1
      have n1 : ¬ ((m1 : Int) < 0) := by omega
      clear hm1
      obtain ⟨y0, y1, y2, y3⟩ := HB9w12.out.c2
      go_wp2_with fail
      refine (markValue_any 40 lg hg 1 Ag none v.parts.length 0 cg 0 v w12 HGw12.out (by omega) (by decide) Hmk.out).mono ?_
      rintro e w13 ⟨rfl, hO13, hbw⟩
      rw [← Hm1.out]
      have HVw13 := Lib.hid (show VRd (Cod.val 40) (fun b => lg ≤ b ∧ b < hg) w13 (.slice Ag v.parts.length cg) (.slice none 0 0) (mkTop (mkV 40) v 1).1 by have := hO13.rd; rwa [OCod.val_cod] at this)
      clear y0 y1 y2 y3 hO13 HGw12
      have hsw13 : w12.heap.size ≤ w13.heap.size := hbw.size
      have HEw13 := Lib.hid (HEw12.out.trans (hbw.to_below (by omega) HEw12.out.size))
      have HWw13 := Lib.hid (HWw12.out.keep (w' := w13) fun b hb1 => hbw.block _ (by omega) (by omega))
      have HB6w13 := Lib.hid (show Blk w13 h0 27 #[.string v.ty, .int .i64 v.n, .slice A v.parts.length cA, .slice none 0 0] from (hbw.block _ (by omega) (by omega)).trans HB6w12.out)
      have HB9w13 := Lib.hid (show Blk w13 hg 27 #[.string v.ty, .int .i64 v.n, .slice Ag v.parts.length cg, .slice none 0 0] from (hbw.block _ (by omega) (by omega)).trans HB9w12.out)
      clear hbw HEw12 HWw12 HB6w12 HB9w12
      obtain ⟨y0, y1, y2, y3⟩ := HB9w13.out.c2
      go_wp2_with fail
      refine (heldValue_any 40 (fun b => lg ≤ b ∧ b < hg) 1 Ag none v.parts.length 0 cg 0 v w13 HVw13.out (fun b hb => by omega) (by decide) Hmk.out).mono ?_
      rintro e w14 ⟨rfl, hbh⟩
      rw [← Hm1.out]
      clear y0 y1 y2 y3
      have hsw14 : w13.heap.size ≤ w14.heap.size := hbh.size
      have HEw14 := Lib.hid (HEw13.out.trans (hbh.mono HEw13.out.size))
      have HWw14 := Lib.hid (HWw13.out.keep (w' := w14) fun b hb1 => hbh.block _ (by omega))
      have HB6w14 := Lib.hid (show Blk w14 h0 27 #[.string v.ty, .int .i64 v.n, .slice A v.parts.length cA, .slice none 0 0] from (hbh.block _ (by omega)).trans HB6w13.out)
      have HB9w14 := Lib.hid (show Blk w14 hg 27 #[.string v.ty, .int .i64 v.n, .slice Ag v.parts.length cg, .slice none 0 0] from (hbh.block _ (by omega)).trans HB9w13.out)
      have HVw14 := Lib.hid (HVw13.out.keep (w' := w14) fun b hb1 => hbh.block _ (by omega))
      clear hbh HEw13 HWw13 HB6w13 HB9w13 HVw13
      go_wp2_with fail
      refine (toRecordSS_any F _ ks w14 (HS.out.keep (below_keeps HEw14.out hF)) (fun b hb => by have := hF b hb; have := HEw14.out.size; omega) Hn.out Hm.out).mono ?_
      rintro e w15 ⟨A15, c15, rfl, hM15⟩
      have hbm := hM15.2
      have HM15 := Lib.hid hM15.1
      clear hM15
      have hsw15 : w14.heap.size ≤ w15.heap.size := hbm.size
      have HEw15 := Lib.hid (HEw14.out.trans (hbm.mono HEw14.out.size))
      have HWw15 := Lib.hid (HWw14.out.keep (w' := w15) fun b hb1 => hbm.block _ (by omega))
      have HB6w15 := Lib.hid (show Blk w15 h0 27 #[.string v.ty, .int .i64 v.n, .slice A v.parts.length cA, .slice none 0 0] from (hbm.block _ (by omega)).trans HB6w14.out)
      have HB9w15 := Lib.hid (show Blk w15 hg 27 #[.string v.ty, .int .i64 v.n, .slice Ag v.parts.length cg, .slice none 0 0] from (hbm.block _ (by omega)).trans HB9w14.out)
      have HVw15 := Lib.hid (HVw14.out.keep (w' := w15) fun b hb1 => hbm.block _ (by omega))
      clear hbm HEw14 HWw14 HB6w14 HB9w14 HVw14
      go_wp2_with fail
      refine (implValueRead_any (Fresh w14 w15) _ s w15 HM15.out (fun b hb => hb.2) (by omega)).mono ?_
      rintro e w16 hR
      obtain ⟨hb16, bo', v', Ah, ch, rfl, hp', hA2, hO2⟩ := hR.ans
      obtain ⟨rfl, rfl⟩ := HA0.out.same hA2
      obtain ⟨lh, Hlh⟩ : ∃ q, Hid (q = w15.heap.size) := ⟨_, rfl⟩
      have hlha : lh ≤ w15.heap.size := by have := Hlh.out; omega
      have hlhb : w15.heap.size ≤ lh := by have := Hlh.out; omega
      obtain ⟨hh, Hhh⟩ : ∃ q, Hid (q = w16.heap.size) := ⟨_, rfl⟩
      have hhha : hh ≤ w16.heap.size := by have := Hhh.out; omega
      have hhhb : w16.heap.size ≤ hh := by have := Hhh.out; omega
      have HHw16 := Lib.hid (show VRd (Cod.val 40) (fun b => lh ≤ b ∧ b < hh) w16 (.slice Ah v.parts.length ch) (.slice none 0 0) v by rw [Hlh.out, Hhh.out]; have := hO2.rd; rwa [OCod.val_cod] at this)
      obtain ⟨Ah', ch', hhe, hhl, hhm, _⟩ := hO2.rd.parts
      simp only [Value.slice.injEq] at hhe
      obtain ⟨rfl, _, rfl⟩ := hhe
      unfold maxLen at hhm
      clear hR hp' hA2 hO2 HM15
      have hsw16 : w15.heap.size ≤ w16.heap.size := hb16.size
      have HEw16 := Lib.hid (HEw15.out.trans (hb16.mono HEw15.out.size))
      have HWw16 := Lib.hid (HWw15.out.keep (w' := w16) fun b hb1 => hb16.block _ (by omega))
      have HB6w16 := Lib.hid (show Blk w16 h0 27 #[.string v.ty, .int .i64 v.n, .slice A v.parts.length cA, .slice none 0 0] from (hb16.block _ (by omega)).trans HB6w15.out)
      have HB9w16 := Lib.hid (show Blk w16 hg 27 #[.string v.ty, .int .i64 v.n, .slice Ag v.parts.length cg, .slice none 0 0] from (hb16.block _ (by omega)).trans HB9w15.out)
      have HVw16 := Lib.hid (HVw15.out.keep (w' := w16) fun b hb1 => hb16.block _ (by omega))
      clear hb16 HEw15 HWw15 HB6w15 HB9w15 HVw15
      go_upto_region 27 with fail
      have hb17 := below_alloc1 w16 (.cells #[.string v.ty, .int .i64 v.n, .slice Ah v.parts.length ch, .slice none 0 0] 27)
      have HB3w17 := Lib.hid (Blk.new w16 27 #[.string v.ty, .int .i64 v.n, .slice Ah v.parts.length ch, .slice none 0 0])
      rw [← Hhh.out] at HB3w17
      generalize hw17 : w16.alloc (.cells #[.string v.ty, .int .i64 v.n, .slice Ah v.parts.length ch, .slice none 0 0] 27) = w17 at *
      rw [← Hhh.out]
      clear hw17
      have hlt17 := HB3w17.out.lt
      have HHw17 := Lib.hid (HHw16.out.keep (w' := w17) fun b hb1 => hb17.block _ (by omega))
      clear HHw16
      have hsw17 : w16.heap.size ≤ w17.heap.size := hb17.size
      have HEw17 := Lib.hid (HEw16.out.trans (hb17.mono HEw16.out.size))
      have HWw17 := Lib.hid (HWw16.out.keep (w' := w17) fun b hb1 => hb17.block _ (by omega))
      have HB6w17 := Lib.hid (show Blk w17 h0 27 #[.string v.ty, .int .i64 v.n, .slice A v.parts.length cA, .slice none 0 0] from (hb17.block _ (by omega)).trans HB6w16.out)
      have HB9w17 := Lib.hid (show Blk w17 hg 27 #[.string v.ty, .int .i64 v.n, .slice Ag v.parts.length cg, .slice none 0 0] from (hb17.block _ (by omega)).trans HB9w16.out)
      have HVw17 := Lib.hid (HVw16.out.keep (w' := w17) fun b hb1 => hb17.block _ (by omega))
      clear hb17 HEw16 HWw16 HB6w16 HB9w16 HVw16
      obtain ⟨x0, x1, x2, x3⟩ := HB6w17.out.c2
      obtain ⟨y0, y1, y2, y3⟩ := HB3w17.out.c2
      go_wp2_with fail
      refine (eqValue_any D (fun b => (l0 ≤ b ∧ b < h0) ∨ (lh ≤ b ∧ b < hh)) (.slice Ah v.parts.length ch) (.slice none 0 0) (.slice A v.parts.length cA) (.slice none 0 0) v w17 (VRd.mono (fun b hb => .inr hb) (VRd.deep hD2 HHw17.out)) (HWw17.out.mono fun b hb => .inl hb) (fun b hb => by rcases hb with hb | hb <;> omega)).mono ?_
      rintro e w18 ⟨rfl, hbe⟩
      clear x0 x1 x2 x3 y0 y1 y2 y3 HHw17 HB3w17
      have hsw18 : w17.heap.size ≤ w18.heap.size := hbe.size
      have HEw18 := Lib.hid (HEw17.out.trans (hbe.mono HEw17.out.size))
      have HWw18 := Lib.hid (HWw17.out.keep (w' := w18) fun b hb1 => hbe.block _ (by omega))
      have HB6w18 := Lib.hid (show Blk w18 h0 27 #[.string v.ty, .int .i64 v.n, .slice A v.parts.length cA, .slice none 0 0] from (hbe.block _ (by omega)).trans HB6w17.out)
      have HB9w18 := Lib.hid (show Blk w18 hg 27 #[.string v.ty, .int .i64 v.n, .slice Ag v.parts.length cg, .slice none 0 0] from (hbe.block _ (by omega)).trans HB9w17.out)
      have HVw18 := Lib.hid (HVw17.out.keep (w' := w18) fun b hb1 => hbe.block _ (by omega))
      clear hbe HEw17 HWw17 HB6w17 HB9w17 HVw17
      obtain ⟨y0, y1, y2, y3⟩ := HB9w18.out.c2
      go_wp2_with fail
      refine (heldValue_any 40 (fun b => lg ≤ b ∧ b < hg) 1 Ag none v.parts.length 0 cg 0 v w18 HVw18.out (fun b hb => by omega) (by decide) Hmk.out).mono ?_
      rintro e w19 ⟨rfl, hbh⟩
      rw [← Hm1.out]
      clear y0 y1 y2 y3
      have HQ := Lib.hid (HEw18.out.trans (hbh.mono HEw18.out.size))
      clear hbh
      go_wp2_with fail
      go_ret
      exact ⟨rfl, HQ.out⟩

set_option maxRecDepth 100000 in
theorem liftValueRead (os : Os) (started : os.Started) (H : Type) (enc : TypeId × Value → H) :
    ReturnsInHanded {} Try.checked os 5 .any (Rows.fnExactValueReadSpec.pre6 enc Try.prog Try.f5 Rows.fnExactValueReadRow.domain false) (Rows.fnExactValueReadSpec.post enc Try.prog Try.f5 false true false false) := by
  refine returnsInHanded_of_change (C := Try.checked) own_ started (by kernel_rfl) Try.func5
    (ChangeSpec.witness6 (enc := enc) (C := Try.checked) false ⟨#[], #[.slice none 0 0, .string ByteArray.empty], []⟩ 8 (by kernel_rfl) (by kernel_rfl) (by kernel_rfl) (by kernel_rfl)) ?_
  intro W base args ds gs before hval0 hW _ _
  have hval : ∀ (j : Nat) t v, Try.f5.params[j]? = some t → args[j]? = some v → Value.okWide Try.prog W .any base t v := hval0
  have hW' := hW
  obtain ⟨p, q, hA0, hV, rfl, _, _⟩ := hW
  have hA : DataW.TrodAll enc Try.prog W 0 (fun _ => true) true Try.f5.params.toList args.toList ds p := hA0
  rw [Try.params5] at hA hval
  obtain ⟨v0, v1, d0, d1, p0, p1, rfl, rfl, rfl, h0, h1⟩ := trodAll_two hA
  obtain ⟨rfl, rfl⟩ := trodVars_none hV
  obtain ⟨ks, hks⟩ := open_kinds (hval 0 36 v0 rfl rfl) h0
  obtain ⟨s, rfl, _, _⟩ := open_string Try.underlying9 (hval 1 9 v1 rfl rfl) h1
  clear hA0 hval0
  simp only [List.append_nil] at hW'
  have hlt0 : ∀ x ∈ p0, x.block < W.heap.size := fun x hx => by simpa using hW'.lt x (by simp [hx])
  have hlt1 : ∀ x ∈ p1, x.block < W.heap.size := fun x hx => by simpa using hW'.lt x (by simp [hx])
  refine (lawValueRead (Old W) v0 ks s W hks (fun b hb => hb)).mono fun e W' ⟨he, hn⟩ => ?_
  subst he
  refine ⟨_, rfl, _, _, _, [], p0 ++ p1, [], hW', ?_, ?_, rfl, hn.frame _, fun h => by cases h⟩
  · exact trodAll_mk1 (shut_bool Try.underlying4 true)
  · exact trodAll_mk2 (Below.trod laidOut_ (by kernel_rfl) (of_decide_eq_true (by kernel_rfl)) h0 hn hlt0) (Below.trod laidOut_ (by kernel_rfl) (of_decide_eq_true (by kernel_rfl)) h1 hn hlt1)

theorem ValueRead_holds : Rows.FnExactValueReadSaid :=
  OpenClaim.holds_of_wide 5 Try.f5 rfl rfl rfl rfl rfl rfl rfl ⟨rfl, rfl, rfl, rfl, rfl⟩ rfl rfl rfl rfl rfl (by kernel_rfl) Try.func5 (by kernel_rfl)
    (of_decide_eq_true (by kernel_rfl)) (by unfold Func.isWrapper; first | (rw [if_pos (by decide +kernel)]; kernel_rfl) | (rw [if_neg (by decide +kernel)]; exact ⟨rfl, rfl⟩))
    (fun os started H enc _ => liftValueRead os started H enc)
end Go.Proofs.Ytbjnjdhkillbiaa
