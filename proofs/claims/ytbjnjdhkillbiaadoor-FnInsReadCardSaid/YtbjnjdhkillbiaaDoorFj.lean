/- Instructions drawn. -/
import Derived.Test.YtbjnjdhkillbiaaDoorItd
import Derived.Test.YtbjnjdhkillbiaaDoorFc
import Derived.Test.YtbjnjdhkillbiaaDoorDrawb
import Derived.Deep.DeepCutAuto
namespace Go.Proofs.YtbjnjdhkillbiaaDoor
open Go.RowKit

/-- An instruction being drawn, in block b4; the answer's block is b2. -/
def InsAt (g N b2 b4 : Nat) (w : World) : Prop := ∃ (o : ByteArray) (x y : Int) (q : Nat), o.size ≤ 8 ∧ -1 ≤ x ∧ x ≤ 2000000 ∧ -1 ≤ y ∧ y ≤ 1000 ∧ q ≤ N ∧ Rdr g q w ∧ Blk w b2 34 #[.string ⟨#[]⟩, .int .i64 0, .int .i64 0] ∧ Blk w b4 34 #[.string o, .int .i64 x, .int .i64 y]
/-- What l91Ins hands back. -/
def InsOf (g p : Nat) (W : World) (e : Ending) (w' : World) : Prop := ∃ (o : ByteArray) (x y : Int), o.size ≤ 8 ∧ -1 ≤ x ∧ x ≤ 2000000 ∧ -1 ≤ y ∧ y ≤ 1000 ∧ e = .returned (.agg #[.string o, .int .i64 x, .int .i64 y]) ∧ Step g p 3 W w'

theorem tabM_few : ∀ x ∈ tabM, x.1.size ≤ 8 ∧ 0 ≤ x.2.1 ∧ x.2.1 ≤ 1000001 ∧ 0 ≤ x.2.2 ∧ x.2.2 ≤ 40 := by
  have : tabM.all (fun x => decide (x.1.size ≤ 8) && decide (0 ≤ x.2.1) && decide (x.2.1 ≤ 1000001) && decide (0 ≤ x.2.2) && decide (x.2.2 ≤ 40)) = true := by decide +kernel
  intro x hx
  have := List.all_eq_true.1 this x hx
  simp only [Bool.and_eq_true, decide_eq_true_eq] at this
  omega
theorem grown_set {W w : World} {g b o : Nat} {u : Value} (h : W.grownBy w (some g)) (hb : W.heap.size ≤ b) : W.grownBy (w.setCell ⟨b, o, none⟩ u) (some g) :=
  ⟨h.os, h.tape, h.output, by simpa [World.setCell] using h.size, fun i hi hn => (Below.heap_setCell _ _ _ _ (by simp; omega)).trans (h.block i hi hn)⟩

set_option maxRecDepth 100000 in
set_option maxHeartbeats 4000000 in
theorem l91Ins_any (g p : Nat) (w : World) (h : Rdr g p w) (hp : p ≤ 90000) : Calls Tryd.prog 45 #[.pointer (some ⟨g, 0, none⟩)] w (InsOf g p w) := by
  have hg := h.lt
  have HZ0 := Lib.hid (Blk.new w 34 #[.string ⟨#[]⟩, .int .i64 0, .int .i64 0])
  have HW0 := Lib.hid ((Below.refl w.heap.size w).alloc (Nat.le_refl _) (.cells #[.string ⟨#[]⟩, .int .i64 0, .int .i64 0] 34))
  have Hw0 := Lib.hid (show (w.alloc (.cells #[.string ⟨#[]⟩, .int .i64 0, .int .i64 0] 34)).heap.size = w.heap.size + 1 by simp)
  have HR := Lib.hid h
  clear h
  go_enter Tryd.func45, Tryd.ntmps45
  go_wp2_with fail
  refine (l3Table_any _).mono ?_
  rintro e w1 ⟨tb, tof, rfl, hM⟩
  have HS := Lib.hid hM.1
  have hw1s : w.heap.size + 1 ≤ w1.heap.size := by have := hM.2.size; rw [Hw0.out] at this; exact this
  have HW1 := Lib.hid (HW0.out.trans (hM.2.mono (by rw [Hw0.out]; omega)))
  have HZ1 := Lib.hid (HZ0.out.below hM.2 (by rw [Hw0.out]; omega))
  have HR1 := Lib.hid (HR.out.keep' (w' := w1) fun b hb => HW1.out.block b (by omega))
  clear hM
  go_wp2_with fail
  refine (pick_any g p _ w1 HR1.out (by omega) (by omega)).mono ?_
  rintro e w2 ⟨k, rfl, hk, hr2, hg2, hs2⟩
  have hk37 : k < 37 := by omega
  have HG2 := Lib.hid (grown_trans (grown_below (Nat.le_refl _) HW1.out : w.grownBy w1 (some g)) hg2)
  have HR2 := Lib.hid hr2
  have HZ2 : Hid (Blk w2 w.heap.size 34 #[.string ⟨#[]⟩, .int .i64 0, .int .i64 0]) := (hg2.block _ (by omega) (by simp; omega)).trans HZ1.out
  obtain ⟨b, off, cap, hv, hFb, _, _, c0, c1, c2⟩ := (HS.out.keep (w' := w2) fun b hb => hg2.block b hb.2 (by have := hb.1; rw [Hw0.out] at this; simp; omega)).ins_at (k := k) (show k < tabM.length from hk37)
  obtain ⟨⟨rfl, rfl⟩, h37, rfl⟩ : (tb = b ∧ tof = off) ∧ 37 = tabM.length ∧ 37 = cap := by simpa using hv
  have hfew := tabM_few tabM[k] (List.getElem_mem _)
  generalize tabM[k]'(show k < tabM.length from hk37) = x at c0 c1 c2 hfew
  obtain ⟨o, a, b'⟩ := x
  obtain ⟨f1, f2, f3, f4, f5⟩ := hfew
  have f1 : o.size ≤ 8 := f1
  have f2 : 0 ≤ a := f2
  have f3 : a ≤ 1000001 := f3
  have f4 : 0 ≤ b' := f4
  have f5 : b' ≤ 40 := f5
  have Hs2 := Lib.hid hs2
  have i0 : (0 : Int) ≤ k := by omega
  have i1 : (k : Int) < 37 := by omega
  have hw2s : w.heap.size + 1 ≤ w2.heap.size := by rw [hs2]; exact hw1s
  clear hv h37 hFb hr2 hg2 hk hs2
  obtain ⟨w3, hw3⟩ : ∃ w3, w3 = w2.alloc (.cells #[.string o, .int .i64 a, .int .i64 b'] 34) := ⟨_, rfl⟩
  have HB3 : Hid (Blk w3 w2.heap.size 34 #[.string o, .int .i64 a, .int .i64 b']) := by show Blk w3 _ _ _; rw [hw3]; exact Blk.new _ _ _
  have HZ3 : Hid (Blk w3 w.heap.size 34 #[.string ⟨#[]⟩, .int .i64 0, .int .i64 0]) := by show Blk w3 _ _ _; rw [hw3]; exact HZ2.out.alloc _
  have HR3 : Hid (Rdr g (p + 1) w3) := by show Rdr _ _ w3; rw [hw3]; exact HR2.out.keep (fun b hb => Below.heap_alloc _ _ _ hb) (by simp)
  have HG3 : Hid (w.grownBy w3 (some g)) := by show World.grownBy w w3 _; rw [hw3]; exact grown_trans HG2.out (World.grownBy_alloc w2 _ _)
  have Hw3 := Lib.hid hw3
  have hw3s : w2.heap.size < w3.heap.size := HB3.out.lt
  clear hw3
  go_upto_region 3 with fail
  rw [← Hw3.out]
  obtain ⟨x0, x1, x2⟩ := HB3.out.c3
  obtain ⟨e0, e1, e2⟩ := HB3.out.f3
  go_upto_if 15 with fail
  clear c0 c1 c2
  go_cut [15] (fun _ wx => Hid (InsAt g (p + 2) w.heap.size w2.heap.size wx) ∧ Hid (w.grownBy wx (some g)))
  case first =>
    by_cases ha : 0 < a
    · go_wp2_with fail
      refine (pick_any g (p + 1) _ w3 HR3.out (by omega) (by omega)).mono ?_
      rintro e w4 ⟨m, rfl, hm, hr4, hg4, hs4⟩
      have HB4 : Blk w4 w2.heap.size 34 #[.string o, .int .i64 a, .int .i64 b'] := (hg4.block _ hw3s (by simp; omega)).trans HB3.out
      have HZ4 : Blk w4 w.heap.size 34 #[.string ⟨#[]⟩, .int .i64 0, .int .i64 0] := (hg4.block _ (by omega) (by simp; omega)).trans HZ3.out
      have hm2 : (m : Int) ≤ 2000000 := by omega
      have HQ := Lib.hid (show InsAt g (p + 2) w.heap.size w2.heap.size (w4.setCell ⟨w2.heap.size, 1, none⟩ (.int .i64 m)) from ⟨o, m, b', p + 2, f1, by omega, hm2, by omega, by omega, Nat.le_refl _, hr4.keep' fun b hb => Below.heap_setCell _ _ _ _ (by simp; omega), HZ4.far (by simp; omega) _, HB4.set_ 1 _⟩)
      have HG4 := Lib.hid (grown_set (b := w2.heap.size) (o := 1) (u := .int .i64 m) (grown_trans HG3.out hg4) (by omega))
      obtain ⟨z0, z1, z2⟩ := HB4.c3
      obtain ⟨d0, d1, d2⟩ := HB4.f3
      clear hm hr4 hg4 hs4 HB4 HZ4 x0 x1 x2 e0 e1 e2
      go_wp2_with fail
      go_meet
      exact ⟨HQ, HG4⟩
    · have ha' : ¬ 0 < a := ha
      go_wp2_with fail
      go_meet
      exact ⟨⟨o, a, b', p + 1, f1, by omega, by omega, by omega, by omega, by omega, HR3.out, HZ3.out, HB3.out⟩, HG3⟩
  case rest =>
    obtain ⟨HI, HGc⟩ := hcut
    clear x0 x1 x2 e0 e1 e2 HB3 HZ3 HR3 HG3 f1 f2 f3 f4 f5
    obtain ⟨o5, x5, y5, q5, g1, g2, g3, g4, g5, g6, hr5, hz5, hb5⟩ := HI.out
    have HB5 := Lib.hid hb5
    have HZ5 := Lib.hid hz5
    have HR5 := Lib.hid hr5
    have hl5 := hb5.lt
    obtain ⟨x0, x1, x2⟩ := hb5.c3
    obtain ⟨e0, e1, e2⟩ := hb5.f3
    clear hr5 hz5 hb5
    go_upto_if 24 with fail
    go_cut [24] (fun _ wx => Hid (InsAt g (p + 3) w.heap.size w2.heap.size wx) ∧ Hid (w.grownBy wx (some g)))
    case first =>
      by_cases ha : 0 < y5
      · go_wp2_with fail
        refine (pick_any g q5 _ wc HR5.out (by omega) (by omega)).mono ?_
        rintro e w4 ⟨m, rfl, hm, hr4, hg4, hs4⟩
        have HB4 : Blk w4 w2.heap.size 34 #[.string o5, .int .i64 x5, .int .i64 y5] := (hg4.block _ hl5 (by simp; omega)).trans HB5.out
        have HZ4 : Blk w4 w.heap.size 34 #[.string ⟨#[]⟩, .int .i64 0, .int .i64 0] := (hg4.block _ (by omega) (by simp; omega)).trans HZ5.out
        have hm2 : (m : Int) ≤ 2000000 := by omega
        have HQ := Lib.hid (show InsAt g (p + 3) w.heap.size w2.heap.size (w4.setCell ⟨w2.heap.size, 2, none⟩ (.int .i64 m)) from ⟨o5, x5, m, q5 + 1, g1, g2, g3, by omega, by omega, by omega, hr4.keep' fun b hb => Below.heap_setCell _ _ _ _ (by simp; omega), HZ4.far (by simp; omega) _, HB4.set_ 2 _⟩)
        have HG4 := Lib.hid (grown_set (b := w2.heap.size) (o := 2) (u := .int .i64 m) (grown_trans HGc.out hg4) (by omega))
        obtain ⟨z0, z1, z2⟩ := HB4.c3
        obtain ⟨d0, d1, d2⟩ := HB4.f3
        clear hm hr4 hg4 hs4 HB4 HZ4 x0 x1 x2 e0 e1 e2
        go_wp2_with fail
        go_meet
        exact ⟨HQ, HG4⟩
      · have ha' : ¬ 0 < y5 := ha
        go_wp2_with fail
        go_meet
        exact ⟨⟨o5, x5, y5, q5, g1, g2, g3, g4, g5, by omega, HR5.out, HZ5.out, HB5.out⟩, HGc⟩
    case rest =>
      obtain ⟨HI6, HG6⟩ := hcut
      obtain ⟨o6, x6, y6, q6, j1, j2, j3, j4, j5, j6, hr6, hz6, hb6⟩ := HI6.out
      clear x0 x1 x2 e0 e1 e2
      obtain ⟨x0, x1, x2⟩ := hb6.c3
      obtain ⟨y0, y1, y2⟩ := hz6.c3
      obtain ⟨e0, e1, e2⟩ := hz6.f3
      have hlz := hz6.lt
      have hlb := hb6.lt
      obtain ⟨wF, hwF⟩ : ∃ wF, wF = ((wc.setCell ⟨w.heap.size, 0, none⟩ (.string o6)).setCell ⟨w.heap.size, 1, none⟩ (.int .i64 x6)).setCell ⟨w.heap.size, 2, none⟩ (.int .i64 y6) := ⟨_, rfl⟩
      have HBF : Hid (Blk wF w.heap.size 34 #[.string o6, .int .i64 x6, .int .i64 y6]) := by show Blk wF _ _ _; rw [hwF]; exact ((hz6.set_ 0 _).set_ 1 _).set_ 2 _
      have HGF : Hid (w.grownBy wF (some g)) := by show World.grownBy w wF _; rw [hwF]; exact grown_set (grown_set (grown_set HG6.out (Nat.le_refl _)) (Nat.le_refl _)) (Nat.le_refl _)
      have HRF : Hid (Rdr g q6 wF) := by show Rdr _ _ wF; rw [hwF]; exact hr6.keep' fun b hb => by rw [Below.heap_setCell _ _ _ _ (by simp; omega), Below.heap_setCell _ _ _ _ (by simp; omega), Below.heap_setCell _ _ _ _ (by simp; omega)]
      have HwF := Lib.hid hwF
      clear hwF hr6 hz6 hb6
      go_wp2_with fail
      rw [← HwF.out]
      obtain ⟨z0, z1, z2⟩ := HBF.out.c3
      exact bodyPost_ret (v := .agg #[.string o6, .int .i64 x6, .int .i64 y6]) (by simp [results, Tryd.results45, go_sem, z0, z1, z2]) rfl ⟨o6, x6, y6, j1, j2, j3, j4, j5, rfl, ⟨q6, j6, HRF.out⟩, HGF.out⟩
end Go.Proofs.YtbjnjdhkillbiaaDoor
