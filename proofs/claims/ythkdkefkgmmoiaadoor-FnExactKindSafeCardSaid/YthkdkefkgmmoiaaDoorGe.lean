/- The functions that compare, at instructions, functions and modules. -/
import Derived.Test.YthkdkefkgmmoiaaDoorGd
import Derived.Test.YthkdkefkgmmoiaaDoorEq
namespace Go.Proofs.YthkdkefkgmmoiaaDoor
open Go.RowKit


def EqRow {α : Type} (c : Cod α) (f : FuncId) : Prop := ∀ (F : Nat → Prop) (v v' : Value) (xs : List α) (w : World), c.Sl F w v xs → c.Sl F w v' xs → (∀ b, F b → b < w.heap.size) →
    Calls Tryd.prog f #[v, v'] w fun e w' => e = .returned (.bool true) ∧ Below w.heap.size w w'
theorem eq_str : EqRow Cod.str 66 := fun F v v' xs w h h' _ => (eqStringS_any F v v' xs w h h').mono fun _ _ hh => ⟨hh.1, hh.2⟩
theorem eq_i64 : EqRow Cod.i64 38 := fun F v v' xs w h h' _ => eqIntS_any F v v' xs w h h'
theorem eq_rec : EqRow Cod.rec_ 36 := fun F v v' xs w h h' hF => eqRecordS_any F v v' xs w h h' hF


set_option maxRecDepth 100000 in
set_option maxHeartbeats 1000000 in
theorem eqInsr_one (F : Nat → Prop) (x : InsR) (w : World) (h : InsRd F w  x) (h' : InsRd F w  x) (hF : ∀ b, F b → b < w.heap.size) :
    Calls Tryd.prog 78 #[.agg #[.string x.op, .int .i64 x.a, .int .i64 x.b], .agg #[.string x.op, .int .i64 x.a, .int .i64 x.b]] w fun e w' => e = .returned (.bool true) ∧ Below w.heap.size w w' := by
  clear h h' hF
  have HQ := Lib.hid (((Below.refl w.heap.size w).alloc (Nat.le_refl _) (.cells #[.string x.op, .int .i64 x.a, .int .i64 x.b] 102)).alloc (by simp) (.cells #[.string x.op, .int .i64 x.a, .int .i64 x.b] 102))
  go_enter Tryd.func78, Tryd.ntmps78
  go_wp2
  go_ret
  exact ⟨rfl, HQ.out⟩

set_option maxRecDepth 100000 in
set_option maxHeartbeats 1000000 in
theorem eq_insr : EqRow Cod.insr 67 := by
  intro F v v' xs w h h' hF
  have HS := Lib.hid h
  have HS' := Lib.hid h'
  obtain ⟨A, cap, rfl, hlc, hcm, _⟩ := h
  obtain ⟨A', cap', rfl, hlc', hcm', _⟩ := h'
  unfold maxLen at hcm hcm'
  go_enter Tryd.func67, Tryd.ntmps67
  go_wp2
  go_loopw [5] (fun i wr => ∃ (k : Nat), k ≤ xs.length ∧ i = .int .i64 k ∧ Below w.heap.size w wr) (fun i _ => xs.length - (intOf i).toNat)
  case atStart => exact ⟨0, Nat.zero_le _, rfl, Below.refl _ _⟩
  case round =>
    obtain ⟨k, hk, rfl, hb⟩ := hrel
    by_cases hlt : k < xs.length
    · have HSr := Lib.hid (HS.out.keep (below_keeps hb hF))
      have HSr' := Lib.hid (HS'.out.keep (below_keeps hb hF))
      obtain ⟨b, off, c1, hv, _, _, _, hc0, hc1, hc2, hV⟩ := HSr.out.insr_at hlt
      obtain ⟨rfl, rfl⟩ : A = some ⟨b, off, none⟩ ∧ cap = c1 := by simpa using hv
      obtain ⟨b', off', c1', hv', _, _, _, hd0, hd1, hd2, hV'⟩ := HSr'.out.insr_at hlt
      obtain ⟨rfl, rfl⟩ : A' = some ⟨b', off', none⟩ ∧ cap' = c1' := by simpa using hv'
      have hsz := hb.size
      have HC := Lib.hid (eqInsr_one F xs[k] wr.drew (hV.keep (w := wr) (w' := wr.drew) fun _ _ => rfl) (hV'.keep (w := wr) (w' := wr.drew) fun _ _ => rfl) (fun b hb' => Nat.lt_of_lt_of_le (hF b hb') hsz))
      clear hv hv' hV hV'
      have i0 : (0 : Int) ≤ k := by omega
      have i1 : (k : Int) < xs.length := by omega
      go_wp2
      go_still_tail 8, (by kernel_rfl)
      change wpList _ _ _ _ _ wr.drew
      go_wp2_with fail
      refine HC.out.mono ?_
      rintro e' w1 ⟨rfl, hb1⟩
      go_wp2
      go_roundw
      case rel => exact ⟨k + 1, by omega, by go_num, hb.trans (Below.drew (Below.refl _ _) |>.trans (hb1.mono hsz))⟩
      case measure => simp [intOf]; omega
    · go_wp2
      go_ret
      exact ⟨rfl, hb⟩

set_option maxRecDepth 100000 in
set_option maxHeartbeats 1000000 in
theorem eqFunr_one (F : Nat → Prop) (A1 B1 A2 B2 A3 B3 A4 B4 A5 B5 : Option Addr) (n1 c1 m1 d1 n2 c2 m2 d2 n3 c3 m3 d3 n4 c4 m4 d4 n5 c5 m5 d5 : Nat) (x : FunR) (w : World) (h : FunRd F w (.slice A1 n1 c1) (.slice A2 n2 c2) (.slice A3 n3 c3) (.slice A4 n4 c4) (.slice A5 n5 c5) x) (h' : FunRd F w (.slice B1 m1 d1) (.slice B2 m2 d2) (.slice B3 m3 d3) (.slice B4 m4 d4) (.slice B5 m5 d5) x) (hF : ∀ b, F b → b < w.heap.size) :
    Calls Tryd.prog 52 #[.agg #[.int .i64 x.seen, .slice A1 n1 c1, .slice A2 n2 c2, .slice A3 n3 c3, .slice A4 n4 c4, .slice A5 n5 c5], .agg #[.int .i64 x.seen, .slice B1 m1 d1, .slice B2 m2 d2, .slice B3 m3 d3, .slice B4 m4 d4, .slice B5 m5 d5]] w fun e w' => e = .returned (.bool true) ∧ Below w.heap.size w w' := by
  obtain ⟨w0, hw0⟩ : ∃ w0, w0 = (w.alloc (.cells #[.int .i64 x.seen, .slice A1 n1 c1, .slice A2 n2 c2, .slice A3 n3 c3, .slice A4 n4 c4, .slice A5 n5 c5] 62)).alloc (.cells #[.int .i64 x.seen, .slice B1 m1 d1, .slice B2 m2 d2, .slice B3 m3 d3, .slice B4 m4 d4, .slice B5 m5 d5] 62) := ⟨_, rfl⟩
  have HA0 := Lib.hid (show Blk w0 w.heap.size 62 #[.int .i64 x.seen, .slice A1 n1 c1, .slice A2 n2 c2, .slice A3 n3 c3, .slice A4 n4 c4, .slice A5 n5 c5] by rw [hw0]; exact (Blk.new _ _ _).alloc _)
  have HB0 := Lib.hid (show Blk w0 (w.heap.size + 1) 62 #[.int .i64 x.seen, .slice B1 m1 d1, .slice B2 m2 d2, .slice B3 m3 d3, .slice B4 m4 d4, .slice B5 m5 d5] by rw [hw0]; have := Blk.new (w.alloc (.cells #[.int .i64 x.seen, .slice A1 n1 c1, .slice A2 n2 c2, .slice A3 n3 c3, .slice A4 n4 c4, .slice A5 n5 c5] 62)) 62 #[.int .i64 x.seen, .slice B1 m1 d1, .slice B2 m2 d2, .slice B3 m3 d3, .slice B4 m4 d4, .slice B5 m5 d5]; simpa only [World.size_alloc] using this)
  have HW0 := Lib.hid (show Below w.heap.size w w0 by rw [hw0]; exact ((Below.refl _ _).alloc (Nat.le_refl _) _).alloc (by simp) _)
  have hs0 : w0.heap.size = w.heap.size + 2 := by rw [hw0]; simp
  have HV0 := Lib.hid (h.keep (w' := w0) fun b hb => HW0.out.block b (hF b hb))
  have HU0 := Lib.hid (h'.keep (w' := w0) fun b hb => HW0.out.block b (hF b hb))
  have HF0 := Lib.hid (show ∀ b, F b → b < w0.heap.size from fun b hb => by have := hF b hb; omega)
  have Hw0 := Lib.hid hw0
  have Hs0 := Lib.hid hs0
  clear h h' hw0 hs0 hF
  go_enter Tryd.func52, Tryd.ntmps52
  go_wp2_with fail
  rw [← Hw0.out]
  refine (eq_str F _ _ x.args _ HV0.out.args HU0.out.args HF0.out).mono ?_
  rintro e w1 ⟨rfl, hb⟩
  have HE1 := Lib.hid (hb)
  have HV1 := Lib.hid (HV0.out.keep (below_keeps hb HF0.out))
  have HU1 := Lib.hid (HU0.out.keep (below_keeps hb HF0.out))
  have HF1 := Lib.hid (show ∀ b, F b → b < w1.heap.size from fun b hb' => Nat.lt_of_lt_of_le (HF0.out b hb') hb.size)
  obtain ⟨y0_0, y0_1, y0_2, y0_3, y0_4, y0_5⟩ := (HA0.out.below HE1.out (by have := Hs0.out; omega)).g6
  obtain ⟨z0_0, z0_1, z0_2, z0_3, z0_4, z0_5⟩ := (HB0.out.below HE1.out (by have := Hs0.out; omega)).g6
  clear hb
  go_wp2_with fail
  refine (eq_str F _ _ x.rets _ HV1.out.rets HU1.out.rets HF1.out).mono ?_
  rintro e w2 ⟨rfl, hb⟩
  have HE2 := Lib.hid (HE1.out.trans (hb.mono HE1.out.size))
  have HV2 := Lib.hid (HV1.out.keep (below_keeps hb HF1.out))
  have HU2 := Lib.hid (HU1.out.keep (below_keeps hb HF1.out))
  have HF2 := Lib.hid (show ∀ b, F b → b < w2.heap.size from fun b hb' => Nat.lt_of_lt_of_le (HF1.out b hb') hb.size)
  obtain ⟨y1_0, y1_1, y1_2, y1_3, y1_4, y1_5⟩ := (HA0.out.below HE2.out (by have := Hs0.out; omega)).g6
  obtain ⟨z1_0, z1_1, z1_2, z1_3, z1_4, z1_5⟩ := (HB0.out.below HE2.out (by have := Hs0.out; omega)).g6
  clear hb y0_0 z0_0 y0_1 z0_1 y0_2 z0_2 y0_3 z0_3 y0_4 z0_4 y0_5 z0_5
  go_wp2_with fail
  refine (eq_str F _ _ x.locals _ HV2.out.locals HU2.out.locals HF2.out).mono ?_
  rintro e w3 ⟨rfl, hb⟩
  have HE3 := Lib.hid (HE2.out.trans (hb.mono HE2.out.size))
  have HV3 := Lib.hid (HV2.out.keep (below_keeps hb HF2.out))
  have HU3 := Lib.hid (HU2.out.keep (below_keeps hb HF2.out))
  have HF3 := Lib.hid (show ∀ b, F b → b < w3.heap.size from fun b hb' => Nat.lt_of_lt_of_le (HF2.out b hb') hb.size)
  obtain ⟨y2_0, y2_1, y2_2, y2_3, y2_4, y2_5⟩ := (HA0.out.below HE3.out (by have := Hs0.out; omega)).g6
  obtain ⟨z2_0, z2_1, z2_2, z2_3, z2_4, z2_5⟩ := (HB0.out.below HE3.out (by have := Hs0.out; omega)).g6
  clear hb y1_0 z1_0 y1_1 z1_1 y1_2 z1_2 y1_3 z1_3 y1_4 z1_4 y1_5 z1_5
  go_wp2_with fail
  refine (eq_i64 F _ _ x.takes _ HV3.out.takes HU3.out.takes HF3.out).mono ?_
  rintro e w4 ⟨rfl, hb⟩
  have HE4 := Lib.hid (HE3.out.trans (hb.mono HE3.out.size))
  have HV4 := Lib.hid (HV3.out.keep (below_keeps hb HF3.out))
  have HU4 := Lib.hid (HU3.out.keep (below_keeps hb HF3.out))
  have HF4 := Lib.hid (show ∀ b, F b → b < w4.heap.size from fun b hb' => Nat.lt_of_lt_of_le (HF3.out b hb') hb.size)
  obtain ⟨y3_0, y3_1, y3_2, y3_3, y3_4, y3_5⟩ := (HA0.out.below HE4.out (by have := Hs0.out; omega)).g6
  obtain ⟨z3_0, z3_1, z3_2, z3_3, z3_4, z3_5⟩ := (HB0.out.below HE4.out (by have := Hs0.out; omega)).g6
  clear hb y2_0 z2_0 y2_1 z2_1 y2_2 z2_2 y2_3 z2_3 y2_4 z2_4 y2_5 z2_5
  go_wp2_with fail
  refine (eq_insr F _ _ x.code _ HV4.out.code HU4.out.code HF4.out).mono ?_
  rintro e w5 ⟨rfl, hb⟩
  have HE5 := Lib.hid (HE4.out.trans (hb.mono HE4.out.size))
  clear hb
  go_wp2
  go_ret
  exact ⟨rfl, HW0.out.trans (HE5.out.mono (by have := Hs0.out; omega))⟩

set_option maxRecDepth 100000 in
set_option maxHeartbeats 1000000 in
theorem eq_funr : EqRow Cod.funr 37 := by
  intro F v v' xs w h h' hF
  have HS := Lib.hid h
  have HS' := Lib.hid h'
  obtain ⟨A, cap, rfl, hlc, hcm, _⟩ := h
  obtain ⟨A', cap', rfl, hlc', hcm', _⟩ := h'
  unfold maxLen at hcm hcm'
  go_enter Tryd.func37, Tryd.ntmps37
  go_wp2
  go_loopw [5] (fun i wr => ∃ (k : Nat), k ≤ xs.length ∧ i = .int .i64 k ∧ Below w.heap.size w wr) (fun i _ => xs.length - (intOf i).toNat)
  case atStart => exact ⟨0, Nat.zero_le _, rfl, Below.refl _ _⟩
  case round =>
    obtain ⟨k, hk, rfl, hb⟩ := hrel
    by_cases hlt : k < xs.length
    · have HSr := Lib.hid (HS.out.keep (below_keeps hb hF))
      have HSr' := Lib.hid (HS'.out.keep (below_keeps hb hF))
      obtain ⟨b, off, c1, A1', e1, A2', e2, A3', e3, A4', e4, A5', e5, hv, _, _, _, hc0, hc1, hc2, hc3, hc4, hc5, hV⟩ := HSr.out.funr_at hlt
      obtain ⟨rfl, rfl⟩ : A = some ⟨b, off, none⟩ ∧ cap = c1 := by simpa using hv
      obtain ⟨b', off', c1', B1', d1, B2', d2, B3', d3, B4', d4, B5', d5, hv', _, _, _, hd0, hd1, hd2, hd3, hd4, hd5, hV'⟩ := HSr'.out.funr_at hlt
      obtain ⟨rfl, rfl⟩ : A' = some ⟨b', off', none⟩ ∧ cap' = c1' := by simpa using hv'
      have hsz := hb.size
      have HC := Lib.hid (eqFunr_one F _ _ _ _ _ _ _ _ _ _ _ _ _ _ _ _ _ _ _ _ _ _ _ _ _ _ _ _ _ _ xs[k] wr.drew (hV.keep (w := wr) (w' := wr.drew) fun _ _ => rfl) (hV'.keep (w := wr) (w' := wr.drew) fun _ _ => rfl) (fun b hb' => Nat.lt_of_lt_of_le (hF b hb') hsz))
      clear hv hv' hV hV'
      have i0 : (0 : Int) ≤ k := by omega
      have i1 : (k : Int) < xs.length := by omega
      go_wp2
      go_still_tail 8, (by kernel_rfl)
      change wpList _ _ _ _ _ wr.drew
      go_wp2_with fail
      refine HC.out.mono ?_
      rintro e' w1 ⟨rfl, hb1⟩
      go_wp2
      go_roundw
      case rel => exact ⟨k + 1, by omega, by go_num, hb.trans (Below.drew (Below.refl _ _) |>.trans (hb1.mono hsz))⟩
      case measure => simp [intOf]; omega
    · go_wp2
      go_ret
      exact ⟨rfl, hb⟩

set_option maxRecDepth 100000 in
set_option maxHeartbeats 1000000 in
theorem eqModr_one (F : Nat → Prop) (A0 B0 A1 B1 A2 B2 : Option Addr) (n0 c0 m0 d0 n1 c1 m1 d1 n2 c2 m2 d2 : Nat) (x : ModR) (w : World) (h : ModRd F w (.slice A0 n0 c0) (.slice A1 n1 c1) (.slice A2 n2 c2) x) (h' : ModRd F w (.slice B0 m0 d0) (.slice B1 m1 d1) (.slice B2 m2 d2) x) (hF : ∀ b, F b → b < w.heap.size) :
    Calls Tryd.prog 19 #[.agg #[.slice A0 n0 c0, .slice A1 n1 c1, .slice A2 n2 c2], .agg #[.slice B0 m0 d0, .slice B1 m1 d1, .slice B2 m2 d2]] w fun e w' => e = .returned (.bool true) ∧ Below w.heap.size w w' := by
  obtain ⟨w0, hw0⟩ : ∃ w0, w0 = (w.alloc (.cells #[.slice A0 n0 c0, .slice A1 n1 c1, .slice A2 n2 c2] 43)).alloc (.cells #[.slice B0 m0 d0, .slice B1 m1 d1, .slice B2 m2 d2] 43) := ⟨_, rfl⟩
  have HA0 := Lib.hid (show Blk w0 w.heap.size 43 #[.slice A0 n0 c0, .slice A1 n1 c1, .slice A2 n2 c2] by rw [hw0]; exact (Blk.new _ _ _).alloc _)
  have HB0 := Lib.hid (show Blk w0 (w.heap.size + 1) 43 #[.slice B0 m0 d0, .slice B1 m1 d1, .slice B2 m2 d2] by rw [hw0]; have := Blk.new (w.alloc (.cells #[.slice A0 n0 c0, .slice A1 n1 c1, .slice A2 n2 c2] 43)) 43 #[.slice B0 m0 d0, .slice B1 m1 d1, .slice B2 m2 d2]; simpa only [World.size_alloc] using this)
  have HW0 := Lib.hid (show Below w.heap.size w w0 by rw [hw0]; exact ((Below.refl _ _).alloc (Nat.le_refl _) _).alloc (by simp) _)
  have hs0 : w0.heap.size = w.heap.size + 2 := by rw [hw0]; simp
  have HV0 := Lib.hid (h.keep (w' := w0) fun b hb => HW0.out.block b (hF b hb))
  have HU0 := Lib.hid (h'.keep (w' := w0) fun b hb => HW0.out.block b (hF b hb))
  have HF0 := Lib.hid (show ∀ b, F b → b < w0.heap.size from fun b hb => by have := hF b hb; omega)
  have Hw0 := Lib.hid hw0
  have Hs0 := Lib.hid hs0
  clear h h' hw0 hs0 hF
  go_enter Tryd.func19, Tryd.ntmps19
  go_wp2_with fail
  rw [← Hw0.out]
  refine (eq_rec F _ _ x.records _ HV0.out.records HU0.out.records HF0.out).mono ?_
  rintro e w1 ⟨rfl, hb⟩
  have HE1 := Lib.hid (hb)
  have HV1 := Lib.hid (HV0.out.keep (below_keeps hb HF0.out))
  have HU1 := Lib.hid (HU0.out.keep (below_keeps hb HF0.out))
  have HF1 := Lib.hid (show ∀ b, F b → b < w1.heap.size from fun b hb' => Nat.lt_of_lt_of_le (HF0.out b hb') hb.size)
  obtain ⟨y0_0, y0_1, y0_2⟩ := (HA0.out.below HE1.out (by have := Hs0.out; omega)).g3
  obtain ⟨z0_0, z0_1, z0_2⟩ := (HB0.out.below HE1.out (by have := Hs0.out; omega)).g3
  clear hb
  go_wp2_with fail
  refine (eq_funr F _ _ x.funcs _ HV1.out.funcs HU1.out.funcs HF1.out).mono ?_
  rintro e w2 ⟨rfl, hb⟩
  have HE2 := Lib.hid (HE1.out.trans (hb.mono HE1.out.size))
  have HV2 := Lib.hid (HV1.out.keep (below_keeps hb HF1.out))
  have HU2 := Lib.hid (HU1.out.keep (below_keeps hb HF1.out))
  have HF2 := Lib.hid (show ∀ b, F b → b < w2.heap.size from fun b hb' => Nat.lt_of_lt_of_le (HF1.out b hb') hb.size)
  obtain ⟨y1_0, y1_1, y1_2⟩ := (HA0.out.below HE2.out (by have := Hs0.out; omega)).g3
  obtain ⟨z1_0, z1_1, z1_2⟩ := (HB0.out.below HE2.out (by have := Hs0.out; omega)).g3
  clear hb y0_0 z0_0 y0_1 z0_1 y0_2 z0_2
  go_wp2_with fail
  refine (eq_i64 F _ _ x.friends _ HV2.out.friends HU2.out.friends HF2.out).mono ?_
  rintro e w3 ⟨rfl, hb⟩
  have HE3 := Lib.hid (HE2.out.trans (hb.mono HE2.out.size))
  clear hb
  go_wp2
  go_ret
  exact ⟨rfl, HW0.out.trans (HE3.out.mono (by have := Hs0.out; omega))⟩

set_option maxRecDepth 100000 in
set_option maxHeartbeats 1000000 in
theorem eq_modr : EqRow Cod.modr 8 := by
  intro F v v' xs w h h' hF
  have HS := Lib.hid h
  have HS' := Lib.hid h'
  obtain ⟨A, cap, rfl, hlc, hcm, _⟩ := h
  obtain ⟨A', cap', rfl, hlc', hcm', _⟩ := h'
  unfold maxLen at hcm hcm'
  go_enter Tryd.func8, Tryd.ntmps8
  go_wp2
  go_loopw [5] (fun i wr => ∃ (k : Nat), k ≤ xs.length ∧ i = .int .i64 k ∧ Below w.heap.size w wr) (fun i _ => xs.length - (intOf i).toNat)
  case atStart => exact ⟨0, Nat.zero_le _, rfl, Below.refl _ _⟩
  case round =>
    obtain ⟨k, hk, rfl, hb⟩ := hrel
    by_cases hlt : k < xs.length
    · have HSr := Lib.hid (HS.out.keep (below_keeps hb hF))
      have HSr' := Lib.hid (HS'.out.keep (below_keeps hb hF))
      obtain ⟨b, off, c1, A0', e0, A1', e1, A2', e2, hv, _, _, _, hc0, hc1, hc2, hV⟩ := HSr.out.modr_at hlt
      obtain ⟨rfl, rfl⟩ : A = some ⟨b, off, none⟩ ∧ cap = c1 := by simpa using hv
      obtain ⟨b', off', c1', B0', d0, B1', d1, B2', d2, hv', _, _, _, hd0, hd1, hd2, hV'⟩ := HSr'.out.modr_at hlt
      obtain ⟨rfl, rfl⟩ : A' = some ⟨b', off', none⟩ ∧ cap' = c1' := by simpa using hv'
      have hsz := hb.size
      have HC := Lib.hid (eqModr_one F _ _ _ _ _ _ _ _ _ _ _ _ _ _ _ _ _ _ xs[k] wr.drew (hV.keep (w := wr) (w' := wr.drew) fun _ _ => rfl) (hV'.keep (w := wr) (w' := wr.drew) fun _ _ => rfl) (fun b hb' => Nat.lt_of_lt_of_le (hF b hb') hsz))
      clear hv hv' hV hV'
      have i0 : (0 : Int) ≤ k := by omega
      have i1 : (k : Int) < xs.length := by omega
      go_wp2
      go_still_tail 8, (by kernel_rfl)
      change wpList _ _ _ _ _ wr.drew
      go_wp2_with fail
      refine HC.out.mono ?_
      rintro e' w1 ⟨rfl, hb1⟩
      go_wp2
      go_roundw
      case rel => exact ⟨k + 1, by omega, by go_num, hb.trans (Below.drew (Below.refl _ _) |>.trans (hb1.mono hsz))⟩
      case measure => simp [intOf]; omega
    · go_wp2
      go_ret
      exact ⟨rfl, hb⟩
end Go.Proofs.YthkdkefkgmmoiaaDoor
