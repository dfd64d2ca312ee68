/- The functions that hold, at kinds, instructions, functions and modules: what has been marked reads so. -/
import Derived.Test.YthhheipinogcoaaGm
import Derived.Test.YthhheipinogcoaaGs
namespace Go.Proofs.Ythhheipinogcoaa
open Go.RowKit


def HeldRow {α : Type} (c : Cod α) (f : FuncId) (m : α → Nat → α × Nat) : Prop := ∀ (F : Nat → Prop) (k : Nat) (v : Value) (xs : List α) (w : World), c.Sl F w v (markL m xs k).1 → (∀ b, F b → b < w.heap.size) → 0 < k → (markL m xs k).2 ≤ 100000000 →
    Calls Try.prog f #[v, .int .i64 k] w fun e w' => e = .returned (.int .i64 (markL m xs k).2) ∧ Below w.heap.size w w'
theorem held_str : HeldRow Cod.str 48 mkS := fun F k v xs w h hF h0 h1 => heldStringS_any F k v xs w h hF h0 h1
theorem held_i64 : HeldRow Cod.i64 49 mkI := fun F k v xs w h _ h0 h1 => (heldIntS_any F k v xs w h h0 h1).mono fun _ _ hh => ⟨hh.1, hh.2 ▸ Below.refl _ _⟩


set_option maxRecDepth 100000 in
set_option maxHeartbeats 4000000 in
theorem held_rec : HeldRow Cod.rec_ 38 mkR := by
  intro F k v xs w h hF h0 h1
  have HO := Lib.hid h
  have HM := Lib.hid (MarkAt.start mkR xs k)
  obtain ⟨A, cap, rfl, hlc, hcm, hx_⟩ := h
  clear hx_
  unfold maxLen at hcm
  rw [markL_length] at hlc HO ⊢
  go_enter Try.func38, Try.ntmps38
  go_wp2
  go_loopw [5, 1] (fun i kk wr => ∃ (j kj : Nat) (done : List Rec), j ≤ xs.length ∧ i = .int .i64 j ∧ kk = .int .i64 kj ∧ 0 < kj ∧ Hid (MarkAt mkR xs k done j kj) ∧ Hid (Below w.heap.size w wr)) (fun i _ _ => xs.length - (intOf i).toNat)
  case atStart => exact ⟨0, k, [], Nat.zero_le _, rfl, rfl, h0, HM, Below.refl _ _⟩
  case round =>
    obtain ⟨j, kj, done, hj, rfl, rfl, hk0, HMr, HBe⟩ := hrel
    by_cases hlt : j < xs.length
    · have hst := HMr.out.step hlt
      have hroom2 := hst.room mkR_le
      obtain ⟨hh, hg⟩ := HMr.out.nth hlt
      have HOr := Lib.hid (HO.out.keep (below_keeps HBe.out hF))
      obtain ⟨b, off, cap', u, hv, hFb, _, _, hc0, hc1, hi0, hu⟩ := HOr.out.rec_at hh
      obtain ⟨A1, c1, rfl, hr_⟩ := id hu
      clear hr_
      rw [hg] at hc0 hc1 hu
      rw [markL_length] at hv
      obtain ⟨rfl, rfl⟩ : A = some ⟨b, off, none⟩ ∧ cap = cap' := by simpa using hv
      have ll1 : (mkR xs[j] kj).1.fields.length = xs[j].fields.length := markL_length _ _ _
      rw [ll1] at hc1 hu
      have d0 : wr.cell? ⟨b, off + j * 2, none⟩ = some (.int .i64 kj) := hc0
      have d1 : wr.cell? ⟨b, off + j * 2 + 1, none⟩ = some (.slice A1 xs[j].fields.length c1) := hc1
      have le0 := markL_le mkS_le xs[j].fields (kj + 1)
      have hroom3 : (markL mkS xs[j].fields (kj + 1)).2 ≤ 100000000 := Nat.le_trans hroom2 h1
      have hFr : ∀ b, F b → b < wr.heap.size := fun b hb => Nat.lt_of_lt_of_le (hF b hb) HBe.out.size
      have hbl := hFr b hFb
      have HFr := Lib.hid hFr
      have Hst := Lib.hid hst
      have i0 : (0 : Int) ≤ j := by omega
      have i1 : (j : Int) < xs.length := by omega
      have HR1_0 : Hid (Cod.str.Sl F wr (.slice A1 xs[j].fields.length c1) (markL mkS xs[j].fields (kj + 1)).1) := Lib.hid hu
      have HC0 : Hid (Calls Try.prog 48 #[.slice A1 xs[j].fields.length c1, .int .i64 ((kj : Int) + 1)] wr fun e w' => e = .returned (.int .i64 (markL mkS xs[j].fields (kj + 1)).2) ∧ Below wr.heap.size wr w') := Lib.hid (held_str F (kj + 1) _ xs[j].fields wr HR1_0.out HFr.out (by omega) (by omega))
      clear hv hc0 hc1 hst hg hroom2 hh hu hi0 hFr
      go_wp2_with fail
      refine HC0.out.mono ?_
      rintro e wa1 ⟨rfl, hb⟩
      have HE1 := Lib.hid (HBe.out.trans (hb.mono HBe.out.size))
      clear hb HC0 d1
      go_wp2
      go_roundw
      case rel => exact ⟨j + 1, (mkR xs[j] kj).2, _, by omega, by go_num, rfl, by show 0 < (markL mkS xs[j].fields (kj + 1)).2; omega, Hst, HE1⟩
      case measure => simp [intOf]; omega
    · obtain rfl : j = xs.length := by omega
      obtain ⟨e1, e2⟩ := HMr.out.end_ rfl
      have HQ := Lib.hid e2
      clear e1 e2
      go_wp2
      go_ret
      exact ⟨ret_int (by rw [HQ.out]), HBe.out⟩

set_option maxRecDepth 100000 in
set_option maxHeartbeats 4000000 in
theorem held_insr : HeldRow Cod.insr 50 mkInsr := by
  intro F k v xs w h hF h0 h1
  have HO := Lib.hid h
  have HM := Lib.hid (MarkAt.start mkInsr xs k)
  obtain ⟨A, cap, rfl, hlc, hcm, hx_⟩ := h
  clear hx_
  unfold maxLen at hcm
  rw [markL_length] at hlc HO ⊢
  go_enter Try.func50, Try.ntmps50
  go_wp2
  go_loopw [5, 1] (fun i kk wr => ∃ (j kj : Nat) (done : List InsR), j ≤ xs.length ∧ i = .int .i64 j ∧ kk = .int .i64 kj ∧ 0 < kj ∧ Hid (MarkAt mkInsr xs k done j kj) ∧ Hid (Below w.heap.size w wr)) (fun i _ _ => xs.length - (intOf i).toNat)
  case atStart => exact ⟨0, k, [], Nat.zero_le _, rfl, rfl, h0, HM, Below.refl _ _⟩
  case round =>
    obtain ⟨j, kj, done, hj, rfl, rfl, hk0, HMr, HBe⟩ := hrel
    by_cases hlt : j < xs.length
    · have hst := HMr.out.step hlt
      have hroom2 := hst.room mkInsr_le
      obtain ⟨hh, hg⟩ := HMr.out.nth hlt
      have HOr := Lib.hid (HO.out.keep (below_keeps HBe.out hF))
      obtain ⟨b, off, cap', hv, hFb, _, _, hc0, hc1, hc2, hV⟩ := HOr.out.insr_at hh
      rw [hg] at hc0 hc1 hc2 hV
      rw [markL_length] at hv
      obtain ⟨rfl, rfl⟩ : A = some ⟨b, off, none⟩ ∧ cap = cap' := by simpa using hv
      have d0 : wr.cell? ⟨b, off + j * 3, none⟩ = some (.string (mt kj)) := hc0
      have d1 : wr.cell? ⟨b, off + j * 3 + 1, none⟩ = some (.int .i64 ((kj : Int) + 1)) := hc1
      have d2 : wr.cell? ⟨b, off + j * 3 + 2, none⟩ = some (.int .i64 ((kj : Int) + 1 + 1)) := hc2
      have hroom3 : kj + 3 ≤ 100000000 := Nat.le_trans hroom2 h1
      have hFr : ∀ b, F b → b < wr.heap.size := fun b hb => Nat.lt_of_lt_of_le (hF b hb) HBe.out.size
      have hbl := hFr b hFb
      have HFr := Lib.hid hFr
      have Hst := Lib.hid hst
      have i0 : (0 : Int) ≤ j := by omega
      have i1 : (j : Int) < xs.length := by omega
      have HT := Lib.hid (markText_any kj wr.drew hk0 (by omega))
      have hbd : b < wr.drew.heap.size := hbl
      have HBd := Lib.hid (show Below w.heap.size w wr.drew from HBe.out.drew)
      clear hv hc0 hc1 hc2 hst hg hroom2 hh hFb hV hFr
      go_wp2_with fail
      go_region_with (go_at_call 73; (with_reducible refine HT.out.mono ?_); rintro e w1 ⟨rfl, hb1⟩; go_must (have HB1 := Lib.hid hb1; have y0 : w1.cell? ⟨b, off + j * 3, none⟩ = some (.string (mt kj)) := (hb1.cell (p := ⟨b, off + j * 3, none⟩) hbd).trans d0; have y1 : w1.cell? ⟨b, off + j * 3 + 1, none⟩ = some (.int .i64 ((kj : Int) + 1)) := (hb1.cell (p := ⟨b, off + j * 3 + 1, none⟩) hbd).trans d1; have y2 : w1.cell? ⟨b, off + j * 3 + 2, none⟩ = some (.int .i64 ((kj : Int) + 1 + 1)) := (hb1.cell (p := ⟨b, off + j * 3 + 2, none⟩) hbd).trans d2; clear hb1))
      all_goals
        have HE1 := Lib.hid (HBd.out.trans (HB1.out.mono HBd.out.size))
        go_wp2_with fail
        go_roundw
        case rel => exact ⟨j + 1, kj + 3, _, by omega, by go_num, by go_num, by omega, Hst, HE1⟩
        case measure => simp [intOf]; omega
    · obtain rfl : j = xs.length := by omega
      obtain ⟨e1, e2⟩ := HMr.out.end_ rfl
      have HQ := Lib.hid e2
      clear e1 e2
      go_wp2
      go_ret
      exact ⟨ret_int (by rw [HQ.out]), HBe.out⟩

set_option maxRecDepth 100000 in
set_option maxHeartbeats 2000000 in
theorem heldFunr_one (F : Nat → Prop) (k : Nat) (A1 A2 A3 A4 A5 : Option Addr) (n1 c1 n2 c2 n3 c3 n4 c4 n5 c5 : Nat) (x : FunR) (w : World) (h : FunRd F w (.slice A1 n1 c1) (.slice A2 n2 c2) (.slice A3 n3 c3) (.slice A4 n4 c4) (.slice A5 n5 c5) (mkFunrT x k).1) (hF : ∀ b, F b → b < w.heap.size) (h0 : 0 < k) (h1 : (mkFunrT x k).2 ≤ 100000000) :
    Calls Try.prog 21 #[.agg #[.int .i64 x.seen, .slice A1 n1 c1, .slice A2 n2 c2, .slice A3 n3 c3, .slice A4 n4 c4, .slice A5 n5 c5], .int .i64 k] w fun e w' => e = .returned (.int .i64 (mkFunrT x k).2) ∧ Below w.heap.size w w' := by
  obtain ⟨w0, hw0⟩ : ∃ w0, w0 = w.alloc (.cells #[.int .i64 x.seen, .slice A1 n1 c1, .slice A2 n2 c2, .slice A3 n3 c3, .slice A4 n4 c4, .slice A5 n5 c5] 37) := ⟨_, rfl⟩
  have HB0 := Lib.hid (show Blk w0 w.heap.size 37 #[.int .i64 x.seen, .slice A1 n1 c1, .slice A2 n2 c2, .slice A3 n3 c3, .slice A4 n4 c4, .slice A5 n5 c5] by rw [hw0]; exact Blk.new _ _ _)
  have HW0 := Lib.hid (show Below w.heap.size w w0 by rw [hw0]; exact (Below.refl _ _).alloc (Nat.le_refl _) _)
  have hs0 : w0.heap.size = w.heap.size + 1 := by rw [hw0]; simp
  have hV := h.keep (w' := w0) fun b hb => HW0.out.block b (hF b hb)
  have HF0 := Lib.hid (show ∀ b, F b → b < w0.heap.size from fun b hb => by have := hF b hb; omega)
  have HR1_0 : Hid (Cod.str.Sl F w0 (.slice A1 n1 c1) (markL mkS x.args k).1) := Lib.hid hV.args
  have le0 := markL_le mkS_le x.args k
  have HR2_0 : Hid (Cod.str.Sl F w0 (.slice A2 n2 c2) (markL mkS x.rets (markL mkS x.args k).2).1) := Lib.hid hV.rets
  have le1 := markL_le mkS_le x.rets (markL mkS x.args k).2
  have HR3_0 : Hid (Cod.str.Sl F w0 (.slice A3 n3 c3) (markL mkS x.locals (markL mkS x.rets (markL mkS x.args k).2).2).1) := Lib.hid hV.locals
  have le2 := markL_le mkS_le x.locals (markL mkS x.rets (markL mkS x.args k).2).2
  have HR4_0 : Hid (Cod.i64.Sl F w0 (.slice A4 n4 c4) (markL mkI x.takes (markL mkS x.locals (markL mkS x.rets (markL mkS x.args k).2).2).2).1) := Lib.hid hV.takes
  have le3 := markL_le mkI_le x.takes (markL mkS x.locals (markL mkS x.rets (markL mkS x.args k).2).2).2
  have HR5_0 : Hid (Cod.insr.Sl F w0 (.slice A5 n5 c5) (markL mkInsr x.code (markL mkI x.takes (markL mkS x.locals (markL mkS x.rets (markL mkS x.args k).2).2).2).2).1) := Lib.hid hV.code
  have le4 := markL_le mkInsr_le x.code (markL mkI x.takes (markL mkS x.locals (markL mkS x.rets (markL mkS x.args k).2).2).2).2
  have hroom3 : (markL mkInsr x.code (markL mkI x.takes (markL mkS x.locals (markL mkS x.rets (markL mkS x.args k).2).2).2).2).2 ≤ 100000000 := h1
  have Hw0 := Lib.hid hw0
  have Hs0 := Lib.hid hs0
  have HC0 := Lib.hid (held_str F k _ x.args w0 HR1_0.out HF0.out (by omega) (by omega))
  clear h hV hw0 hs0 hF
  go_enter Try.func21, Try.ntmps21
  go_wp2_with fail
  rw [← Hw0.out]
  refine HC0.out.mono ?_
  rintro e wa1 ⟨rfl, hb⟩
  have HE1 := Lib.hid (hb)
  have HF1 := Lib.hid (show ∀ b, F b → b < wa1.heap.size from fun b hb' => Nat.lt_of_lt_of_le (HF0.out b hb') hb.size)
  have HR2_1 := Lib.hid (HR2_0.out.keep (below_keeps hb HF0.out))
  have HR3_1 := Lib.hid (HR3_0.out.keep (below_keeps hb HF0.out))
  have HR4_1 := Lib.hid (HR4_0.out.keep (below_keeps hb HF0.out))
  have HR5_1 := Lib.hid (HR5_0.out.keep (below_keeps hb HF0.out))
  obtain ⟨x0_0, x0_1, x0_2, x0_3, x0_4, x0_5⟩ := (HB0.out.below HE1.out (by have := Hs0.out; omega)).g6
  have HC1 := Lib.hid (held_str F (markL mkS x.args k).2 _ x.rets wa1 HR2_1.out HF1.out (by omega) (by omega))
  clear hb HC0
  go_wp2_with fail
  refine HC1.out.mono ?_
  rintro e wa2 ⟨rfl, hb⟩
  have HE2 := Lib.hid (HE1.out.trans (hb.mono HE1.out.size))
  clear x0_0 x0_1 x0_2 x0_3 x0_4 x0_5
  have HF2 := Lib.hid (show ∀ b, F b → b < wa2.heap.size from fun b hb' => Nat.lt_of_lt_of_le (HF1.out b hb') hb.size)
  have HR3_2 := Lib.hid (HR3_1.out.keep (below_keeps hb HF1.out))
  have HR4_2 := Lib.hid (HR4_1.out.keep (below_keeps hb HF1.out))
  have HR5_2 := Lib.hid (HR5_1.out.keep (below_keeps hb HF1.out))
  obtain ⟨x1_0, x1_1, x1_2, x1_3, x1_4, x1_5⟩ := (HB0.out.below HE2.out (by have := Hs0.out; omega)).g6
  have HC2 := Lib.hid (held_str F (markL mkS x.rets (markL mkS x.args k).2).2 _ x.locals wa2 HR3_2.out HF2.out (by omega) (by omega))
  clear hb HC1
  go_wp2_with fail
  refine HC2.out.mono ?_
  rintro e wa3 ⟨rfl, hb⟩
  have HE3 := Lib.hid (HE2.out.trans (hb.mono HE2.out.size))
  clear x1_0 x1_1 x1_2 x1_3 x1_4 x1_5
  have HF3 := Lib.hid (show ∀ b, F b → b < wa3.heap.size from fun b hb' => Nat.lt_of_lt_of_le (HF2.out b hb') hb.size)
  have HR4_3 := Lib.hid (HR4_2.out.keep (below_keeps hb HF2.out))
  have HR5_3 := Lib.hid (HR5_2.out.keep (below_keeps hb HF2.out))
  obtain ⟨x2_0, x2_1, x2_2, x2_3, x2_4, x2_5⟩ := (HB0.out.below HE3.out (by have := Hs0.out; omega)).g6
  have HC3 := Lib.hid (held_i64 F (markL mkS x.locals (markL mkS x.rets (markL mkS x.args k).2).2).2 _ x.takes wa3 HR4_3.out HF3.out (by omega) (by omega))
  clear hb HC2
  go_wp2_with fail
  refine HC3.out.mono ?_
  rintro e wa4 ⟨rfl, hb⟩
  have HE4 := Lib.hid (HE3.out.trans (hb.mono HE3.out.size))
  clear x2_0 x2_1 x2_2 x2_3 x2_4 x2_5
  have HF4 := Lib.hid (show ∀ b, F b → b < wa4.heap.size from fun b hb' => Nat.lt_of_lt_of_le (HF3.out b hb') hb.size)
  have HR5_4 := Lib.hid (HR5_3.out.keep (below_keeps hb HF3.out))
  obtain ⟨x3_0, x3_1, x3_2, x3_3, x3_4, x3_5⟩ := (HB0.out.below HE4.out (by have := Hs0.out; omega)).g6
  have HC4 := Lib.hid (held_insr F (markL mkI x.takes (markL mkS x.locals (markL mkS x.rets (markL mkS x.args k).2).2).2).2 _ x.code wa4 HR5_4.out HF4.out (by omega) (by omega))
  clear hb HC3
  go_wp2_with fail
  refine HC4.out.mono ?_
  rintro e wa5 ⟨rfl, hb⟩
  have HE5 := Lib.hid (HE4.out.trans (hb.mono HE4.out.size))
  clear x3_0 x3_1 x3_2 x3_3 x3_4 x3_5
  clear hb HC4
  go_wp2
  go_ret
  exact ⟨rfl, HW0.out.trans (HE5.out.mono (by have := Hs0.out; omega))⟩

set_option maxRecDepth 100000 in
set_option maxHeartbeats 2000000 in
theorem heldRecordSS_any (F : Nat → Prop) (k : Nat) (v : Value) (xs : List (List Rec)) (w : World) (h : Cod.recs.Sl F w v (markL mkRS xs k).1) (hF : ∀ b, F b → b < w.heap.size) (h0 : 0 < k) (h1 : (markL mkRS xs k).2 ≤ 100000000) :
    Calls Try.prog 16 #[v, .int .i64 k] w fun e w' => e = .returned (.int .i64 (markL mkRS xs k).2) ∧ Below w.heap.size w w' := by
  have HO := Lib.hid h
  have HM := Lib.hid (MarkAt.start mkRS xs k)
  obtain ⟨A, cap, rfl, hlc, hcm, hx_⟩ := h
  clear hx_
  unfold maxLen at hcm
  rw [markL_length] at hlc HO ⊢
  go_enter Try.func16, Try.ntmps16
  go_wp2
  go_loopw [5, 1] (fun i kk wr => ∃ (j kj : Nat) (done : List (List Rec)), j ≤ xs.length ∧ i = .int .i64 j ∧ kk = .int .i64 kj ∧ 0 < kj ∧ Hid (MarkAt mkRS xs k done j kj) ∧ Hid (Below w.heap.size w wr)) (fun i _ _ => xs.length - (intOf i).toNat)
  case atStart => exact ⟨0, k, [], Nat.zero_le _, rfl, rfl, h0, HM, Below.refl _ _⟩
  case round =>
    obtain ⟨j, kj, done, hj, rfl, rfl, hk0, HMr, HBe⟩ := hrel
    by_cases hlt : j < xs.length
    · have hst := HMr.out.step hlt
      have hroom2 := hst.room mkRS_le
      obtain ⟨hh, hg⟩ := HMr.out.nth hlt
      have HOr := Lib.hid (HO.out.keep (below_keeps HBe.out hF))
      obtain ⟨b, off, cap', u, hv, hFb, _, _, hc0, hu⟩ := HOr.out.sl_at hh
      rw [hg] at hu
      rw [markL_length] at hv
      obtain ⟨rfl, rfl⟩ : A = some ⟨b, off, none⟩ ∧ cap = cap' := by simpa using hv
      have hroom3 : (markL mkR xs[j] kj).2 ≤ 100000000 := Nat.le_trans hroom2 h1
      have le0 := mkRS_le xs[j] kj
      have hFr : ∀ b, F b → b < wr.heap.size := fun b hb => Nat.lt_of_lt_of_le (hF b hb) HBe.out.size
      have Hst := Lib.hid hst
      have i0 : (0 : Int) ≤ j := by omega
      have i1 : (j : Int) < xs.length := by omega
      have HC := Lib.hid (held_rec F kj u xs[j] wr hu hFr hk0 hroom3)
      obtain ⟨Au, cu, rfl, _⟩ := hu
      clear hv hst hg hroom2 hh hFr
      go_wp2_with fail
      refine HC.out.mono ?_
      rintro e w1 ⟨rfl, hb⟩
      have HE := Lib.hid (HBe.out.trans (hb.mono HBe.out.size))
      clear hb HC
      go_wp2
      go_roundw
      case rel => exact ⟨j + 1, (mkRS xs[j] kj).2, _, by omega, by go_num, rfl, by omega, Hst, HE⟩
      case measure => simp [intOf]; omega
    · obtain rfl : j = xs.length := by omega
      obtain ⟨e1, e2⟩ := HMr.out.end_ rfl
      have HQ := Lib.hid e2
      clear e1 e2
      go_wp2
      go_ret
      exact ⟨ret_int (by rw [HQ.out]), HBe.out⟩
end Go.Proofs.Ythhheipinogcoaa
