/- The functions that mark, at marks and shapes of a call's own. The functions that hold, at marks and shapes: what has been marked reads so. -/
import Derived.Test.YtmomdflfjcboiaaDoorJd
import Derived.Test.YtmomdflfjcboiaaDoorGm
namespace Go.Proofs.YtmomdflfjcboiaaDoor
open Go.RowKit


def mkMarkr (x : MarkR) (k : Nat) : MarkR × Nat := (⟨mt k, (markL mkI x.fr (k + 1)).1⟩, (markL mkI x.fr (k + 1)).2)
theorem mkMarkr_le (x : MarkR) (k : Nat) : k ≤ (mkMarkr x k).2 := by
  have l0 := markL_le mkI_le x.fr (k + 1)
  show k ≤ (markL mkI x.fr (k + 1)).2
  omega
def mkMarkrT (x : MarkR) (k : Nat) : MarkR × Nat := (⟨x.ty, (markL mkI x.fr k).1⟩, (markL mkI x.fr k).2)

set_option maxRecDepth 100000 in
set_option maxHeartbeats 4000000 in
theorem mark_markr : MarkRow OCod.markr 57 27 mkMarkr := by
  intro lo hi k v xs w h hhi h0 h1
  have HO := Lib.hid h
  have HM := Lib.hid (MarkAt.start mkMarkr xs k)
  obtain ⟨A, cap, rfl, hlc, hcm⟩ := h.len_
  unfold maxLen at hcm
  clear h
  go_enter Tryd.func27, Tryd.ntmps27
  go_wp2
  go_loopw [5, 1] (fun i kk wr => ∃ (j kj : Nat) (done : List MarkR), j ≤ xs.length ∧ i = .int .i64 j ∧ kk = .int .i64 kj ∧ 0 < kj ∧ Hid (MarkAt mkMarkr xs k done j kj) ∧ Hid (Own OCod.markr 57 lo hi wr (.slice A xs.length cap) (done ++ xs.drop j)) ∧ Hid (Wrote lo hi w wr)) (fun i _ _ => xs.length - (intOf i).toNat)
  case atStart => exact ⟨0, k, [], Nat.zero_le _, rfl, rfl, h0, HM, HO, Wrote.refl _ _ _⟩
  case round =>
    obtain ⟨j, kj, done, hj, rfl, rfl, hk0, HMr, HOr, HWr⟩ := hrel
    by_cases hlt : j < xs.length
    · have hst := HMr.out.step hlt
      have hroom2 := hst.room mkMarkr_le
      have hg := HMr.out.get_ hlt
      have hl := HMr.out.len hj
      obtain ⟨b, cap', cs, p, q, ds, hv, _, _, hb1, hb2, hB, hp, hq, hpq, hcell, hrd, hup⟩ := HOr.out.at hg.1
      rw [hg.2 hg.1] at hrd
      have hsz : OCod.markr.cod.size = 2 := rfl
      rw [hsz] at hcell hup
      obtain ⟨w_1, rfl, ⟨s0, o1⟩⟩ := hrd
      rw [hl] at hv
      obtain ⟨rfl, rfl⟩ : A = some ⟨b, 0, none⟩ ∧ cap = cap' := by simpa using hv
      obtain ⟨A1, c1, rfl, l1, g1⟩ := o1.len_
      unfold maxLen at g1
      have k0 : cs[j * 2]? = some (.string xs[j].ty) := hcell 0 _ rfl
      have k1 : cs[j * 2 + 1]? = some (.slice A1 xs[j].fr.length c1) := hcell 1 _ rfl
      have hjc : j * 2 + 1 < cs.size := (Array.getElem?_eq_some_iff.1 k1).1
      have Hup := Lib.hid hup
      have HB := Lib.hid hB
      have Hst := Lib.hid hst
      have hsw := HWr.out.size
      have hbl : b < wr.heap.size := by omega
      have le0 := markL_le mkI_le xs[j].fr (kj + 1)
      have hroom3 : (markL mkI xs[j].fr (kj + 1)).2 ≤ 100000000 := Nat.le_trans hroom2 h1
      have HO1_0' := Lib.hid o1
      have HBw := Lib.hid hB
      clear hv hB hcell hup hst hg hl hroom2 HO1_0'
      go_wp2_with fail
      refine (markText_any kj wr hk0 (by omega)).mono ?_
      rintro e w1 ⟨rfl, hbe⟩
      have hB := HBw.out.below hbe hbl
      have hse := hbe.size
      have HBt := Lib.hid hbe
      have hv := hbl
      have hcell := hbl
      have hup := hbl
      have hst := hbl
      have hg := hbl
      have hl := hbl
      have hroom2 := hbl
      have HO1_0' := hbl
      clear hbe
      have hd0 := hB.cell (j * 2)
      rw [k0] at hd0
      have hf0 := hB.frozen (j * 2)
      have hB3 := hB.set_ (j * 2) (.string (mt kj))
      have hd := hB3.cell (j * 2 + 1)
      rw [Array.getElem?_setIfInBounds_ne (by omega), k1] at hd
      obtain ⟨w3, hw3⟩ : ∃ w3, w3 = w1.setCell ⟨b, j * 2, none⟩ (.string (mt kj)) := ⟨_, rfl⟩
      have hk3' : ∀ b', b' ≠ b → b' < wr.heap.size → w3.heap[b']? = wr.heap[b']? := fun b' g2 g4 => by
        rw [hw3, Below.heap_setCell _ _ _ _ (by simp; omega)]; exact HBt.out.block b' g4
      have hs3 : wr.heap.size ≤ w3.heap.size := by rw [hw3]; simp [World.setCell]; omega
      have HB_0 := Lib.hid (show Blk w3 b 57 (cs.setIfInBounds (j * 2) (.string (mt kj))) by rw [hw3]; exact hB3)
      have HW3 := Lib.hid (show Wrote lo hi wr w3 by rw [hw3]; exact (Wrote.of_below HBt.out).trans (Wrote.set_ hb1 hb2 _))
      have HK3 := Lib.hid hk3'
      have HO1_0 := Lib.hid (o1.keep (w' := w3) fun b' g1 g2 => hk3' b' (by omega) (by omega))
      clear hB3 hk3'
      have HC0 : Hid (Calls Tryd.prog 26 #[(.slice A1 xs[j].fr.length c1), .int .i64 ((kj : Int) + 1)] w3 (MarkD OCod.i64 3 p q w3 (.slice A1 xs[j].fr.length c1) (markL mkI xs[j].fr (kj + 1)).1 (markL mkI xs[j].fr (kj + 1)).2)) := Lib.hid (mark_i64 p q (kj + 1) _ xs[j].fr w3 HO1_0.out (by omega) (by omega) (by omega))
      clear hv hB hcell hup hst hg hl hroom2 o1 HO1_0'
      go_wp2_with fail
      rw [← hw3]
      refine HC0.out.mono ?_
      rintro e wa1 ⟨rfl, hO, hW⟩
      have hs_0 := hW.size
      have HW_0 := Lib.hid hW
      have HO1_1 := Lib.hid hO
      have HB_1 := Lib.hid ((hW.block b (by omega) (by omega)).trans HB_0.out)
      clear hd hd0 hf0
      clear hO hW HC0
      go_wp2
      go_roundw
      case rel =>
        refine ⟨j + 1, (mkMarkr xs[j] kj).2, done ++ [(mkMarkr xs[j] kj).1], by omega, by go_num, rfl, by show 0 < (markL mkI xs[j].fr (kj + 1)).2; omega, Hst, ?_, ?_⟩
        · have := Hup.out wa1 (cs.setIfInBounds (j * 2) (.string (mt kj))) [.string (mt kj), .slice A1 xs[j].fr.length c1] (mkMarkr xs[j] kj).1 HB_1.out
            (fun i hi => by rw [Array.getElem?_setIfInBounds_ne (by omega)])
            (fun i u hu => ?_) ⟨_, rfl, ⟨mt_size (by omega), HO1_1.out⟩⟩
            (fun b' g1 g2 g3 g4 => (HW_0.out.block b' (by omega) (by omega)).trans (HK3.out b' g4 (by omega)))
          · rw [HMr.out.set_ hlt] at this
            exact this
          · match i, hu with
            | 0, hu => simp at hu; subst hu; show (cs.setIfInBounds (j * 2) _)[j * 2]? = _; rw [Array.getElem?_setIfInBounds_self_of_lt (by omega)]
            | 1, hu => simp at hu; subst hu; rw [Array.getElem?_setIfInBounds_ne (by omega), k1]
            | i + 2, hu => simp at hu
        · exact HWr.out.trans (HW3.out.trans (HW_0.out.mono (by omega) (by omega)))
      case measure => simp [intOf]; omega
    · obtain rfl : j = xs.length := by omega
      obtain ⟨e1, e2⟩ := HMr.out.end_ rfl
      have HQ := Lib.hid (show MarkD OCod.markr 57 lo hi w (.slice A xs.length cap) (markL mkMarkr xs k).1 (markL mkMarkr xs k).2 (.returned (.int .i64 kj)) wr from ⟨by rw [e2], by rw [← e1]; simpa using HOr.out, HWr.out⟩)
      clear e1 e2
      go_wp2
      go_ret
      exact HQ.out

def MarkMarkrD (lo hi : Nat) (w : World) (v1 : Value) (y : MarkR) (k : Nat) (e : Ending) (w' : World) : Prop :=
  e = .returned (.int .i64 k) ∧ MarkRo lo hi w' v1 y ∧ Wrote lo hi w w'
def mkShaper (x : ShapeR) (k : Nat) : ShapeR × Nat := (⟨(markL mkMarkr x.stack k).1, (markL mkMarkr x.places (markL mkMarkr x.stack k).2).1⟩, (markL mkMarkr x.places (markL mkMarkr x.stack k).2).2)
theorem mkShaper_le (x : ShapeR) (k : Nat) : k ≤ (mkShaper x k).2 := by
  have l0 := markL_le mkMarkr_le x.stack k
  have l1 := markL_le mkMarkr_le x.places (markL mkMarkr x.stack k).2
  show k ≤ (markL mkMarkr x.places (markL mkMarkr x.stack k).2).2
  omega
def mkShaperT (x : ShapeR) (k : Nat) : ShapeR × Nat := (⟨(markL mkMarkr x.stack k).1, (markL mkMarkr x.places (markL mkMarkr x.stack k).2).1⟩, (markL mkMarkr x.places (markL mkMarkr x.stack k).2).2)

def MarkShaperD (lo hi : Nat) (w : World) (v0 v1 : Value) (y : ShapeR) (k : Nat) (e : Ending) (w' : World) : Prop :=
  e = .returned (.int .i64 k) ∧ ShapeRo lo hi w' v0 v1 y ∧ Wrote lo hi w w'
set_option maxRecDepth 100000 in
set_option maxHeartbeats 2000000 in
theorem markShaper_one (lo hi k : Nat) (A0 A1 : Option Addr) (n0 c0 n1 c1 : Nat) (x : ShapeR) (w : World) (h : ShapeRo lo hi w (.slice A0 n0 c0) (.slice A1 n1 c1) x) (hhi : hi ≤ w.heap.size) (h0 : 0 < k) (h1 : (mkShaperT x k).2 ≤ 100000000) :
    Calls Tryd.prog 11 #[.agg #[.slice A0 n0 c0, .slice A1 n1 c1], .int .i64 k] w (MarkShaperD lo hi w (.slice A0 n0 c0) (.slice A1 n1 c1) (mkShaperT x k).1 (mkShaperT x k).2) := by
  obtain ⟨m1, b0, b1, o0, o1⟩ := h
  obtain ⟨A0', c0', z0, l0, g0⟩ := o0.len_
  simp only [Value.slice.injEq] at z0
  obtain ⟨rfl, rfl, rfl⟩ := z0
  unfold maxLen at g0
  obtain ⟨A1', c1', z1, l1, g1⟩ := o1.len_
  simp only [Value.slice.injEq] at z1
  obtain ⟨rfl, rfl, rfl⟩ := z1
  unfold maxLen at g1
  obtain ⟨w0, hw0⟩ : ∃ w0, w0 = w.alloc (.cells #[.slice A0 x.stack.length c0, .slice A1 x.places.length c1] 26) := ⟨_, rfl⟩
  have HB_0 := Lib.hid (show Blk w0 w.heap.size 26 #[.slice A0 x.stack.length c0, .slice A1 x.places.length c1] by rw [hw0]; exact Blk.new _ _ _)
  have HWa := Lib.hid (show Wrote lo hi w w0 by rw [hw0]; exact Wrote.of_below ((Below.refl _ _).alloc (Nat.le_refl _) _))
  have hs0 : w0.heap.size = w.heap.size + 1 := by rw [hw0]; simp
  have hkk : ∀ b', b' < w.heap.size → w0.heap[b']? = w.heap[b']? := fun b' g => by rw [hw0]; exact Below.heap_alloc _ _ _ g
  have le0 := markL_le mkMarkr_le x.stack k
  have le1 := markL_le mkMarkr_le x.places (markL mkMarkr x.stack k).2
  have hroom3 : (markL mkMarkr x.places (markL mkMarkr x.stack k).2).2 ≤ 100000000 := h1
  have HO0_0 := Lib.hid (o0.keep (w' := w0) fun b' g1 g2 => hkk b' (by omega))
  have HO1_0 := Lib.hid (o1.keep (w' := w0) fun b' g1 g2 => hkk b' (by omega))
  have Hw0 := Lib.hid hw0
  have HC0 := Lib.hid (mark_markr lo m1 k _ x.stack w0 HO0_0.out (by omega) (by omega) (by omega))
  clear hw0 hkk o0 o1
  go_enter Tryd.func11, Tryd.ntmps11
  go_wp2_with fail
  rw [← Hw0.out]
  refine HC0.out.mono ?_
  rintro e wa1 ⟨rfl, hO, hW⟩
  have hs_0 := hW.size
  have HW_0 := Lib.hid hW
  have HO0_1 := Lib.hid hO
  have HO1_1 := Lib.hid (HO1_0.out.keep fun b' g1 g2 => hW.block b' (by omega) (by omega))
  have HB_1 : Hid (Blk wa1 w.heap.size 26 #[.slice A0 x.stack.length c0, .slice A1 x.places.length c1]) := Lib.hid ((hW.block w.heap.size (by omega) (by omega)).trans HB_0.out)
  obtain ⟨x0_0, x0_1⟩ := HB_1.out.g2
  have HC1 := Lib.hid (mark_markr m1 hi (markL mkMarkr x.stack k).2 _ x.places wa1 HO1_1.out (by omega) (by omega) (by omega))
  clear hO hW HC0
  go_wp2_with fail
  refine HC1.out.mono ?_
  rintro e wa2 ⟨rfl, hO, hW⟩
  have hs_1 := hW.size
  have HW_1 := Lib.hid hW
  have HO0_2 := Lib.hid (HO0_1.out.keep fun b' g1 g2 => hW.block b' (by omega) (by omega))
  have HO1_2 := Lib.hid hO
  clear x0_0 x0_1
  clear hO hW HC1
  have HQ := Lib.hid (show MarkShaperD lo hi w (.slice A0 x.stack.length c0) (.slice A1 x.places.length c1) (mkShaperT x k).1 (mkShaperT x k).2 (.returned (.int .i64 (mkShaperT x k).2)) wa2 from ⟨rfl, ⟨m1, by omega, by omega, HO0_2.out, HO1_2.out⟩, HWa.out.trans ((HW_0.out.mono (by omega) (by omega)).trans (HW_1.out.mono (by omega) (by omega)))⟩)
  go_wp2
  go_ret
  exact HQ.out
end Go.Proofs.YtmomdflfjcboiaaDoor

namespace Go.Proofs.YtmomdflfjcboiaaDoor
open Go.RowKit



set_option maxRecDepth 100000 in
set_option maxHeartbeats 4000000 in
theorem held_markr : HeldRow Cod.markr 28 mkMarkr := by
  intro F k v xs w h hF h0 h1
  have HO := Lib.hid h
  have HM := Lib.hid (MarkAt.start mkMarkr xs k)
  obtain ⟨A, cap, rfl, hlc, hcm, hx_⟩ := h
  clear hx_
  unfold maxLen at hcm
  rw [markL_length] at hlc HO ⊢
  go_enter Tryd.func28, Tryd.ntmps28
  go_wp2
  go_loopw [5, 1] (fun i kk wr => ∃ (j kj : Nat) (done : List MarkR), j ≤ xs.length ∧ i = .int .i64 j ∧ kk = .int .i64 kj ∧ 0 < kj ∧ Hid (MarkAt mkMarkr xs k done j kj) ∧ Hid (Below w.heap.size w wr)) (fun i _ _ => xs.length - (intOf i).toNat)
  case atStart => exact ⟨0, k, [], Nat.zero_le _, rfl, rfl, h0, HM, Below.refl _ _⟩
  case round =>
    obtain ⟨j, kj, done, hj, rfl, rfl, hk0, HMr, HBe⟩ := hrel
    by_cases hlt : j < xs.length
    · have hst := HMr.out.step hlt
      have hroom2 := hst.room mkMarkr_le
      obtain ⟨hh, hg⟩ := HMr.out.nth hlt
      have HOr := Lib.hid (HO.out.keep (below_keeps HBe.out hF))
      obtain ⟨b, off, cap', A1, c1, hv, hFb, _, _, hc0, hc1, hV⟩ := HOr.out.markr_at hh
      rw [hg] at hc0 hc1 hV
      rw [markL_length] at hv
      obtain ⟨rfl, rfl⟩ : A = some ⟨b, off, none⟩ ∧ cap = cap' := by simpa using hv
      have ll1 : (mkMarkr xs[j] kj).1.fr.length = xs[j].fr.length := markL_length _ _ _
      rw [ll1] at hc1 hV
      have d0 : wr.cell? ⟨b, off + j * 2, none⟩ = some (.string (mt kj)) := hc0
      have d1 : wr.cell? ⟨b, off + j * 2 + 1, none⟩ = some (.slice A1 xs[j].fr.length c1) := hc1
      have le0 := markL_le mkI_le xs[j].fr (kj + 1)
      have hroom3 : (markL mkI xs[j].fr (kj + 1)).2 ≤ 100000000 := Nat.le_trans hroom2 h1
      have hFr : ∀ b, F b → b < wr.heap.size := fun b hb => Nat.lt_of_lt_of_le (hF b hb) HBe.out.size
      have hbl := hFr b hFb
      have HFr := Lib.hid hFr
      have Hst := Lib.hid hst
      have i0 : (0 : Int) ≤ j := by omega
      have i1 : (j : Int) < xs.length := by omega
      have HR1_0 : Hid (Cod.i64.Sl F wr (.slice A1 xs[j].fr.length c1) (markL mkI xs[j].fr (kj + 1)).1) := Lib.hid hV.fr
      have HT := Lib.hid (markText_any kj wr.drew hk0 (by omega))
      have hbd : b < wr.drew.heap.size := hbl
      have HBd := Lib.hid (show Below w.heap.size w wr.drew from HBe.out.drew)
      have HRd := Lib.hid (show Cod.i64.Sl F wr.drew (.slice A1 xs[j].fr.length c1) (markL mkI xs[j].fr (kj + 1)).1 from HR1_0.out.keep fun _ _ => rfl)
      have HFd := Lib.hid (show ∀ b, F b → b < wr.drew.heap.size from hFr)
      clear hv hc0 hc1 hst hg hroom2 hh hFb hV hFr
      go_wp2_with fail
      go_region_with (go_at_call 57; (with_reducible refine HT.out.mono ?_); rintro e w1 ⟨rfl, hb1⟩; go_must (have HB1 := Lib.hid hb1; have y0 : w1.cell? ⟨b, off + j * 2, none⟩ = some (.string (mt kj)) := (hb1.cell (p := ⟨b, off + j * 2, none⟩) hbd).trans d0; have y1 : w1.cell? ⟨b, off + j * 2 + 1, none⟩ = some (.slice A1 xs[j].fr.length c1) := (hb1.cell (p := ⟨b, off + j * 2 + 1, none⟩) hbd).trans d1; clear hb1))
      all_goals
        have HE1 := Lib.hid (HBd.out.trans (HB1.out.mono HBd.out.size))
        have HC0 : Hid (Calls Tryd.prog 58 #[.slice A1 xs[j].fr.length c1, .int .i64 ((kj : Int) + 1)] w1 fun e w' => e = .returned (.int .i64 (markL mkI xs[j].fr (kj + 1)).2) ∧ Below w1.heap.size w1 w') := Lib.hid (held_i64 F (kj + 1) _ xs[j].fr w1 (HRd.out.keep (below_keeps HB1.out HFd.out)) (fun b hb' => Nat.lt_of_lt_of_le (HFd.out b hb') HB1.out.size) (by omega) (by omega))
        go_wp2_with fail
        refine HC0.out.mono ?_
        rintro e wa1 ⟨rfl, hb⟩
        have HE2 := Lib.hid (HE1.out.trans (hb.mono HE1.out.size))
        clear hb HC0
        go_wp2
        go_roundw
        case rel => exact ⟨j + 1, (mkMarkr xs[j] kj).2, _, by omega, by go_num, rfl, by show 0 < (markL mkI xs[j].fr (kj + 1)).2; omega, Hst, HE2⟩
        case measure => simp [intOf]; omega
    · obtain rfl : j = xs.length := by omega
      obtain ⟨e1, e2⟩ := HMr.out.end_ rfl
      have HQ := Lib.hid e2
      clear e1 e2
      go_wp2
      go_ret
      exact ⟨ret_int (by rw [HQ.out]), HBe.out⟩

set_option maxRecDepth 100000 in
set_option maxHeartbeats 2000000 in
theorem heldShaper_one (F : Nat → Prop) (k : Nat) (A0 A1 : Option Addr) (n0 c0 n1 c1 : Nat) (x : ShapeR) (w : World) (h : ShapeRd F w (.slice A0 n0 c0) (.slice A1 n1 c1) (mkShaperT x k).1) (hF : ∀ b, F b → b < w.heap.size) (h0 : 0 < k) (h1 : (mkShaperT x k).2 ≤ 100000000) :
    Calls Tryd.prog 12 #[.agg #[.slice A0 n0 c0, .slice A1 n1 c1], .int .i64 k] w fun e w' => e = .returned (.int .i64 (mkShaperT x k).2) ∧ Below w.heap.size w w' := by
  obtain ⟨w0, hw0⟩ : ∃ w0, w0 = w.alloc (.cells #[.slice A0 n0 c0, .slice A1 n1 c1] 26) := ⟨_, rfl⟩
  have HB0 := Lib.hid (show Blk w0 w.heap.size 26 #[.slice A0 n0 c0, .slice A1 n1 c1] by rw [hw0]; exact Blk.new _ _ _)
  have HW0 := Lib.hid (show Below w.heap.size w w0 by rw [hw0]; exact (Below.refl _ _).alloc (Nat.le_refl _) _)
  have hs0 : w0.heap.size = w.heap.size + 1 := by rw [hw0]; simp
  have hV := h.keep (w' := w0) fun b hb => HW0.out.block b (hF b hb)
  have HF0 := Lib.hid (show ∀ b, F b → b < w0.heap.size from fun b hb => by have := hF b hb; omega)
  have HR0_0 : Hid (Cod.markr.Sl F w0 (.slice A0 n0 c0) (markL mkMarkr x.stack k).1) := Lib.hid hV.stack
  have le0 := markL_le mkMarkr_le x.stack k
  have HR1_0 : Hid (Cod.markr.Sl F w0 (.slice A1 n1 c1) (markL mkMarkr x.places (markL mkMarkr x.stack k).2).1) := Lib.hid hV.places
  have le1 := markL_le mkMarkr_le x.places (markL mkMarkr x.stack k).2
  have hroom3 : (markL mkMarkr x.places (markL mkMarkr x.stack k).2).2 ≤ 100000000 := h1
  have Hw0 := Lib.hid hw0
  have Hs0 := Lib.hid hs0
  have HC0 := Lib.hid (held_markr F k _ x.stack w0 HR0_0.out HF0.out (by omega) (by omega))
  clear h hV hw0 hs0 hF
  go_enter Tryd.func12, Tryd.ntmps12
  go_wp2_with fail
  rw [← Hw0.out]
  refine HC0.out.mono ?_
  rintro e wa1 ⟨rfl, hb⟩
  have HE1 := Lib.hid (hb)
  have HF1 := Lib.hid (show ∀ b, F b → b < wa1.heap.size from fun b hb' => Nat.lt_of_lt_of_le (HF0.out b hb') hb.size)
  have HR1_1 := Lib.hid (HR1_0.out.keep (below_keeps hb HF0.out))
  obtain ⟨x0_0, x0_1⟩ := (HB0.out.below HE1.out (by have := Hs0.out; omega)).g2
  have HC1 := Lib.hid (held_markr F (markL mkMarkr x.stack k).2 _ x.places wa1 HR1_1.out HF1.out (by omega) (by omega))
  clear hb HC0
  go_wp2_with fail
  refine HC1.out.mono ?_
  rintro e wa2 ⟨rfl, hb⟩
  have HE2 := Lib.hid (HE1.out.trans (hb.mono HE1.out.size))
  clear x0_0 x0_1
  clear hb HC1
  go_wp2
  go_ret
  exact ⟨rfl, HW0.out.trans (HE2.out.mono (by have := Hs0.out; omega))⟩

end Go.Proofs.YtmomdflfjcboiaaDoor
