/- The functions that mark, at instructions, functions and modules of a call's own. Texts and numbers held: what has been marked reads so. The functions that hold, at kinds, instructions, functions and modules: what has been marked reads so. How many marks there are at most, by the size. -/
import Derived.Test.YtmomdflfjcboiaaDoorGd
import Derived.Test.YtmomdflfjcboiaaDoorMk
import Derived.Test.YtmomdflfjcboiaaDoorVal
import Derived.Test.YtmomdflfjcboiaaDoorGz
namespace Go.Proofs.YtmomdflfjcboiaaDoor
open Go.RowKit


def MarkRow {α : Type} (c : OCod α) (t : TypeId) (f : FuncId) (m : α → Nat → α × Nat) : Prop := ∀ (lo hi k : Nat) (v : Value) (xs : List α) (w : World), Own c t lo hi w v xs → hi ≤ w.heap.size → 0 < k → (markL m xs k).2 ≤ 100000000 →
    Calls Tryd.prog f #[v, .int .i64 k] w (MarkD c t lo hi w v (markL m xs k).1 (markL m xs k).2)
theorem mark_str : MarkRow OCod.str 9 55 mkS := fun lo hi k v xs w h hh h0 h1 => markStringS_any lo hi k v xs w h hh h0 h1
theorem mark_i64 : MarkRow OCod.i64 3 26 mkI := fun lo hi k v xs w h _ h0 h1 => markIntS_any lo hi k v xs w h h0 h1
theorem mark_rec : MarkRow (OCod.rec_ 9) 96 24 mkR := fun lo hi k v xs w h hh h0 h1 => markRecordS_any lo hi k v xs w h hh h0 h1
theorem mkI_le (x : Int) (k : Nat) : k ≤ (mkI x k).2 := Nat.le_succ k

def mkInsr (x : InsR) (k : Nat) : InsR × Nat := (⟨mt k, ((k + 1 : Nat) : Int), ((k + 2 : Nat) : Int)⟩, (k + 3))
theorem mkInsr_le (x : InsR) (k : Nat) : k ≤ (mkInsr x k).2 := by
  show k ≤ (k + 3)
  omega

set_option maxRecDepth 100000 in
set_option maxHeartbeats 4000000 in
theorem mark_insr : MarkRow OCod.insr 80 56 mkInsr := by
  intro lo hi k v xs w h hhi h0 h1
  have HO := Lib.hid h
  have HM := Lib.hid (MarkAt.start mkInsr xs k)
  obtain ⟨A, cap, rfl, hlc, hcm⟩ := h.len_
  unfold maxLen at hcm
  clear h
  go_enter Tryd.func56, Tryd.ntmps56
  go_wp2
  go_loopw [5, 1] (fun i kk wr => ∃ (j kj : Nat) (done : List InsR), j ≤ xs.length ∧ i = .int .i64 j ∧ kk = .int .i64 kj ∧ 0 < kj ∧ Hid (MarkAt mkInsr xs k done j kj) ∧ Hid (Own OCod.insr 80 lo hi wr (.slice A xs.length cap) (done ++ xs.drop j)) ∧ Hid (Wrote lo hi w wr)) (fun i _ _ => xs.length - (intOf i).toNat)
  case atStart => exact ⟨0, k, [], Nat.zero_le _, rfl, rfl, h0, HM, HO, Wrote.refl _ _ _⟩
  case round =>
    obtain ⟨j, kj, done, hj, rfl, rfl, hk0, HMr, HOr, HWr⟩ := hrel
    by_cases hlt : j < xs.length
    · have hst := HMr.out.step hlt
      have hroom2 := hst.room mkInsr_le
      have hg := HMr.out.get_ hlt
      have hl := HMr.out.len hj
      obtain ⟨b, cap', cs, p, q, ds, hv, _, _, hb1, hb2, hB, hp, hq, hpq, hcell, hrd, hup⟩ := HOr.out.at hg.1
      rw [hg.2 hg.1] at hrd
      have hsz : OCod.insr.cod.size = 3 := rfl
      rw [hsz] at hcell hup
      obtain ⟨rfl, ⟨s0, s1, s2⟩⟩ := hrd
      rw [hl] at hv
      obtain ⟨rfl, rfl⟩ : A = some ⟨b, 0, none⟩ ∧ cap = cap' := by simpa using hv
      have k0 : cs[j * 3]? = some (.string xs[j].op) := hcell 0 _ rfl
      have k1 : cs[j * 3 + 1]? = some (.int .i64 xs[j].a) := hcell 1 _ rfl
      have k2 : cs[j * 3 + 2]? = some (.int .i64 xs[j].b) := hcell 2 _ rfl
      have hjc : j * 3 + 2 < cs.size := (Array.getElem?_eq_some_iff.1 k2).1
      have Hup := Lib.hid hup
      have HB := Lib.hid hB
      have Hst := Lib.hid hst
      have hsw := HWr.out.size
      have hbl : b < wr.heap.size := by omega
      have hroom3 : kj + 3 ≤ 100000000 := Nat.le_trans hroom2 h1
      clear hv hB hcell hup hst hg hl hroom2
      go_wp2_with fail
      refine (markText_any kj wr hk0 (by omega)).mono ?_
      rintro e w1 ⟨rfl, hbe⟩
      have hB1 := HB.out.below hbe hbl
      have hd0 := hB1.cell (j * 3)
      rw [k0] at hd0
      have hf0 := hB1.frozen (j * 3)
      have hB2 := hB1.set_ (j * 3) (.string (mt kj))
      have hd1 := hB2.cell (j * 3 + 1)
      rw [Array.getElem?_setIfInBounds_ne (by omega), k1] at hd1
      have hf1 := hB2.frozen (j * 3 + 1)
      have hB3 := hB2.set_ (j * 3 + 1) (.int .i64 ((kj : Int) + 1))
      have hd2 := hB3.cell (j * 3 + 2)
      rw [Array.getElem?_setIfInBounds_ne (by omega), Array.getElem?_setIfInBounds_ne (by omega), k2] at hd2
      have hf2 := hB3.frozen (j * 3 + 2)
      have HB4 := Lib.hid (hB3.set_ (j * 3 + 2) (.int .i64 ((kj : Int) + 1 + 1)))
      have HBe := Lib.hid hbe
      clear hbe hB1 hB2 hB3 k0 k1 k2
      go_wp2
      go_roundw
      case rel =>
        refine ⟨j + 1, kj + 3, done ++ [(mkInsr xs[j] kj).1], by omega, by go_num, by go_num, by omega, Hst, ?_, ?_⟩
        · have := Hup.out _ _ [.string (mt kj), .int .i64 ((kj : Int) + 1), .int .i64 ((kj : Int) + 1 + 1)] (mkInsr xs[j] kj).1 HB4.out
            (fun i hi => by rw [Array.getElem?_setIfInBounds_ne (by omega), Array.getElem?_setIfInBounds_ne (by omega), Array.getElem?_setIfInBounds_ne (by omega)])
            (fun i u hu => ?_) ⟨rfl, ⟨mt_size (by omega), by show I64 ((kj + 1 : Nat) : Int); unfold I64; omega, by show I64 ((kj + 2 : Nat) : Int); unfold I64; omega⟩⟩
            (fun b' g1 g2 g3 g4 => by rw [Below.heap_setCell _ _ _ _ (by simp; omega), Below.heap_setCell _ _ _ _ (by simp; omega), Below.heap_setCell _ _ _ _ (by simp; omega)]; exact HBe.out.block b' (by omega))
          · rw [HMr.out.set_ hlt] at this
            exact this
          · match i, hu with
            | 0, hu => simp at hu; subst hu; show (((cs.setIfInBounds (j * 3) _).setIfInBounds (j * 3 + 1) _).setIfInBounds (j * 3 + 2) _)[j * 3]? = _; rw [Array.getElem?_setIfInBounds_ne (by omega), Array.getElem?_setIfInBounds_ne (by omega), Array.getElem?_setIfInBounds_self_of_lt (by omega)]
            | 1, hu => simp at hu; subst hu; rw [Array.getElem?_setIfInBounds_ne (by omega), Array.getElem?_setIfInBounds_self_of_lt (by simp; omega)]
            | 2, hu => simp at hu; subst hu; rw [Array.getElem?_setIfInBounds_self_of_lt (by simp; omega)]
            | i + 3, hu => simp at hu
        · exact HWr.out.trans (((Wrote.of_below HBe.out).trans (Wrote.set_ hb1 hb2 _)).trans ((Wrote.set_ hb1 hb2 _).trans (Wrote.set_ hb1 hb2 _)))
      case measure => simp [intOf]; omega
    · obtain rfl : j = xs.length := by omega
      obtain ⟨e1, e2⟩ := HMr.out.end_ rfl
      have HQ := Lib.hid (show MarkD OCod.insr 80 lo hi w (.slice A xs.length cap) (markL mkInsr xs k).1 (markL mkInsr xs k).2 (.returned (.int .i64 kj)) wr from ⟨by rw [e2], by rw [← e1]; simpa using HOr.out, HWr.out⟩)
      clear e1 e2
      go_wp2
      go_ret
      exact HQ.out
def mkFunr (x : FunR) (k : Nat) : FunR × Nat := (⟨((k : Nat) : Int), (markL mkS x.args (k + 1)).1, (markL mkS x.rets (markL mkS x.args (k + 1)).2).1, (markL mkS x.locals (markL mkS x.rets (markL mkS x.args (k + 1)).2).2).1, (markL mkI x.takes (markL mkS x.locals (markL mkS x.rets (markL mkS x.args (k + 1)).2).2).2).1, (markL mkInsr x.code (markL mkI x.takes (markL mkS x.locals (markL mkS x.rets (markL mkS x.args (k + 1)).2).2).2).2).1⟩, (markL mkInsr x.code (markL mkI x.takes (markL mkS x.locals (markL mkS x.rets (markL mkS x.args (k + 1)).2).2).2).2).2)
theorem mkFunr_le (x : FunR) (k : Nat) : k ≤ (mkFunr x k).2 := by
  have l0 := markL_le mkS_le x.args (k + 1)
  have l1 := markL_le mkS_le x.rets (markL mkS x.args (k + 1)).2
  have l2 := markL_le mkS_le x.locals (markL mkS x.rets (markL mkS x.args (k + 1)).2).2
  have l3 := markL_le mkI_le x.takes (markL mkS x.locals (markL mkS x.rets (markL mkS x.args (k + 1)).2).2).2
  have l4 := markL_le mkInsr_le x.code (markL mkI x.takes (markL mkS x.locals (markL mkS x.rets (markL mkS x.args (k + 1)).2).2).2).2
  show k ≤ (markL mkInsr x.code (markL mkI x.takes (markL mkS x.locals (markL mkS x.rets (markL mkS x.args (k + 1)).2).2).2).2).2
  omega
def mkFunrT (x : FunR) (k : Nat) : FunR × Nat := (⟨x.seen, (markL mkS x.args k).1, (markL mkS x.rets (markL mkS x.args k).2).1, (markL mkS x.locals (markL mkS x.rets (markL mkS x.args k).2).2).1, (markL mkI x.takes (markL mkS x.locals (markL mkS x.rets (markL mkS x.args k).2).2).2).1, (markL mkInsr x.code (markL mkI x.takes (markL mkS x.locals (markL mkS x.rets (markL mkS x.args k).2).2).2).2).1⟩, (markL mkInsr x.code (markL mkI x.takes (markL mkS x.locals (markL mkS x.rets (markL mkS x.args k).2).2).2).2).2)

set_option maxRecDepth 100000 in
set_option maxHeartbeats 4000000 in
theorem mark_funr : MarkRow OCod.funr 48 25 mkFunr := by
  intro lo hi k v xs w h hhi h0 h1
  have HO := Lib.hid h
  have HM := Lib.hid (MarkAt.start mkFunr xs k)
  obtain ⟨A, cap, rfl, hlc, hcm⟩ := h.len_
  unfold maxLen at hcm
  clear h
  go_enter Tryd.func25, Tryd.ntmps25
  go_wp2
  go_loopw [5, 1] (fun i kk wr => ∃ (j kj : Nat) (done : List FunR), j ≤ xs.length ∧ i = .int .i64 j ∧ kk = .int .i64 kj ∧ 0 < kj ∧ Hid (MarkAt mkFunr xs k done j kj) ∧ Hid (Own OCod.funr 48 lo hi wr (.slice A xs.length cap) (done ++ xs.drop j)) ∧ Hid (Wrote lo hi w wr)) (fun i _ _ => xs.length - (intOf i).toNat)
  case atStart => exact ⟨0, k, [], Nat.zero_le _, rfl, rfl, h0, HM, HO, Wrote.refl _ _ _⟩
  case round =>
    obtain ⟨j, kj, done, hj, rfl, rfl, hk0, HMr, HOr, HWr⟩ := hrel
    by_cases hlt : j < xs.length
    · have hst := HMr.out.step hlt
      have hroom2 := hst.room mkFunr_le
      have hg := HMr.out.get_ hlt
      have hl := HMr.out.len hj
      obtain ⟨b, cap', cs, p, q, ds, hv, _, _, hb1, hb2, hB, hp, hq, hpq, hcell, hrd, hup⟩ := HOr.out.at hg.1
      rw [hg.2 hg.1] at hrd
      have hsz : OCod.funr.cod.size = 6 := rfl
      rw [hsz] at hcell hup
      obtain ⟨w_1, w_2, w_3, w_4, w_5, rfl, ⟨s0, m1, m2, m3, m4, b0, b1, b2, b3, b4, o1, o2, o3, o4, o5⟩⟩ := hrd
      rw [hl] at hv
      obtain ⟨rfl, rfl⟩ : A = some ⟨b, 0, none⟩ ∧ cap = cap' := by simpa using hv
      obtain ⟨A1, c1, rfl, l1, g1⟩ := o1.len_
      unfold maxLen at g1
      obtain ⟨A2, c2, rfl, l2, g2⟩ := o2.len_
      unfold maxLen at g2
      obtain ⟨A3, c3, rfl, l3, g3⟩ := o3.len_
      unfold maxLen at g3
      obtain ⟨A4, c4, rfl, l4, g4⟩ := o4.len_
      unfold maxLen at g4
      obtain ⟨A5, c5, rfl, l5, g5⟩ := o5.len_
      unfold maxLen at g5
      have k0 : cs[j * 6]? = some (.int .i64 xs[j].seen) := hcell 0 _ rfl
      have k1 : cs[j * 6 + 1]? = some (.slice A1 xs[j].args.length c1) := hcell 1 _ rfl
      have k2 : cs[j * 6 + 2]? = some (.slice A2 xs[j].rets.length c2) := hcell 2 _ rfl
      have k3 : cs[j * 6 + 3]? = some (.slice A3 xs[j].locals.length c3) := hcell 3 _ rfl
      have k4 : cs[j * 6 + 4]? = some (.slice A4 xs[j].takes.length c4) := hcell 4 _ rfl
      have k5 : cs[j * 6 + 5]? = some (.slice A5 xs[j].code.length c5) := hcell 5 _ rfl
      have hjc : j * 6 + 5 < cs.size := (Array.getElem?_eq_some_iff.1 k5).1
      have Hup := Lib.hid hup
      have HB := Lib.hid hB
      have Hst := Lib.hid hst
      have hsw := HWr.out.size
      have hbl : b < wr.heap.size := by omega
      have le0 := markL_le mkS_le xs[j].args (kj + 1)
      have le1 := markL_le mkS_le xs[j].rets (markL mkS xs[j].args (kj + 1)).2
      have le2 := markL_le mkS_le xs[j].locals (markL mkS xs[j].rets (markL mkS xs[j].args (kj + 1)).2).2
      have le3 := markL_le mkI_le xs[j].takes (markL mkS xs[j].locals (markL mkS xs[j].rets (markL mkS xs[j].args (kj + 1)).2).2).2
      have le4 := markL_le mkInsr_le xs[j].code (markL mkI xs[j].takes (markL mkS xs[j].locals (markL mkS xs[j].rets (markL mkS xs[j].args (kj + 1)).2).2).2).2
      have hroom3 : (markL mkInsr xs[j].code (markL mkI xs[j].takes (markL mkS xs[j].locals (markL mkS xs[j].rets (markL mkS xs[j].args (kj + 1)).2).2).2).2).2 ≤ 100000000 := Nat.le_trans hroom2 h1
      have HO1_0' := Lib.hid o1
      have HO2_0' := Lib.hid o2
      have HO3_0' := Lib.hid o3
      have HO4_0' := Lib.hid o4
      have HO5_0' := Lib.hid o5
      have hd0 := hB.cell (j * 6)
      rw [k0] at hd0
      have hf0 := hB.frozen (j * 6)
      have hB3 := hB.set_ (j * 6) (.int .i64 kj)
      have hd := hB3.cell (j * 6 + 1)
      rw [Array.getElem?_setIfInBounds_ne (by omega), k1] at hd
      obtain ⟨w3, hw3⟩ : ∃ w3, w3 = wr.setCell ⟨b, j * 6, none⟩ (.int .i64 kj) := ⟨_, rfl⟩
      have hk3' : ∀ b', b' ≠ b → w3.heap[b']? = wr.heap[b']? := fun b' g2 => by
        rw [hw3, Below.heap_setCell _ _ _ _ (by simp; omega)]
      have hs3 : wr.heap.size ≤ w3.heap.size := by rw [hw3]; simp [World.setCell]
      have HB_0 := Lib.hid (show Blk w3 b 48 (cs.setIfInBounds (j * 6) (.int .i64 kj)) by rw [hw3]; exact hB3)
      have HW3 := Lib.hid (show Wrote lo hi wr w3 by rw [hw3]; exact Wrote.set_ hb1 hb2 _)
      have HK3 := Lib.hid hk3'
      have HO1_0 := Lib.hid (o1.keep (w' := w3) fun b' g1 g2 => hk3' b' (by omega))
      have HO2_0 := Lib.hid (o2.keep (w' := w3) fun b' g1 g2 => hk3' b' (by omega))
      have HO3_0 := Lib.hid (o3.keep (w' := w3) fun b' g1 g2 => hk3' b' (by omega))
      have HO4_0 := Lib.hid (o4.keep (w' := w3) fun b' g1 g2 => hk3' b' (by omega))
      have HO5_0 := Lib.hid (o5.keep (w' := w3) fun b' g1 g2 => hk3' b' (by omega))
      clear hB3 hk3'
      have HC0 : Hid (Calls Tryd.prog 55 #[(.slice A1 xs[j].args.length c1), .int .i64 ((kj : Int) + 1)] w3 (MarkD OCod.str 9 p m1 w3 (.slice A1 xs[j].args.length c1) (markL mkS xs[j].args (kj + 1)).1 (markL mkS xs[j].args (kj + 1)).2)) := Lib.hid (mark_str p m1 (kj + 1) _ xs[j].args w3 HO1_0.out (by omega) (by omega) (by omega))
      clear hv hB hcell hup hst hg hl hroom2 o1 o2 o3 o4 o5 HO1_0' HO2_0' HO3_0' HO4_0' HO5_0'
      go_wp2_with fail
      rw [← hw3]
      refine HC0.out.mono ?_
      rintro e wa1 ⟨rfl, hO, hW⟩
      have hs_0 := hW.size
      have HW_0 := Lib.hid hW
      have HO1_1 := Lib.hid hO
      have HO2_1 := Lib.hid (HO2_0.out.keep fun b' g1 g2 => hW.block b' (by omega) (by omega))
      have HO3_1 := Lib.hid (HO3_0.out.keep fun b' g1 g2 => hW.block b' (by omega) (by omega))
      have HO4_1 := Lib.hid (HO4_0.out.keep fun b' g1 g2 => hW.block b' (by omega) (by omega))
      have HO5_1 := Lib.hid (HO5_0.out.keep fun b' g1 g2 => hW.block b' (by omega) (by omega))
      have HB_1 := Lib.hid ((hW.block b (by omega) (by omega)).trans HB_0.out)
      clear hd hd0 hf0
      have hd := (show Blk wa1 b 48 (cs.setIfInBounds (j * 6) (.int .i64 kj)) from HB_1.out).cell (j * 6 + 2)
      rw [Array.getElem?_setIfInBounds_ne (by omega), k2] at hd
      have HC1 : Hid (Calls Tryd.prog 55 #[(.slice A2 xs[j].rets.length c2), .int .i64 (((markL mkS xs[j].args (kj + 1)).2 : Nat) : Int)] wa1 (MarkD OCod.str 9 m1 m2 wa1 (.slice A2 xs[j].rets.length c2) (markL mkS xs[j].rets (markL mkS xs[j].args (kj + 1)).2).1 (markL mkS xs[j].rets (markL mkS xs[j].args (kj + 1)).2).2)) := Lib.hid (mark_str m1 m2 (markL mkS xs[j].args (kj + 1)).2 _ xs[j].rets wa1 HO2_1.out (by omega) (by omega) (by omega))
      clear hO hW HC0
      go_wp2_with fail
      refine HC1.out.mono ?_
      rintro e wa2 ⟨rfl, hO, hW⟩
      have hs_1 := hW.size
      have HW_1 := Lib.hid hW
      have HO1_2 := Lib.hid (HO1_1.out.keep fun b' g1 g2 => hW.block b' (by omega) (by omega))
      have HO2_2 := Lib.hid hO
      have HO3_2 := Lib.hid (HO3_1.out.keep fun b' g1 g2 => hW.block b' (by omega) (by omega))
      have HO4_2 := Lib.hid (HO4_1.out.keep fun b' g1 g2 => hW.block b' (by omega) (by omega))
      have HO5_2 := Lib.hid (HO5_1.out.keep fun b' g1 g2 => hW.block b' (by omega) (by omega))
      have HB_2 := Lib.hid ((hW.block b (by omega) (by omega)).trans HB_1.out)
      clear hd
      have hd := (show Blk wa2 b 48 (cs.setIfInBounds (j * 6) (.int .i64 kj)) from HB_2.out).cell (j * 6 + 3)
      rw [Array.getElem?_setIfInBounds_ne (by omega), k3] at hd
      have HC2 : Hid (Calls Tryd.prog 55 #[(.slice A3 xs[j].locals.length c3), .int .i64 (((markL mkS xs[j].rets (markL mkS xs[j].args (kj + 1)).2).2 : Nat) : Int)] wa2 (MarkD OCod.str 9 m2 m3 wa2 (.slice A3 xs[j].locals.length c3) (markL mkS xs[j].locals (markL mkS xs[j].rets (markL mkS xs[j].args (kj + 1)).2).2).1 (markL mkS xs[j].locals (markL mkS xs[j].rets (markL mkS xs[j].args (kj + 1)).2).2).2)) := Lib.hid (mark_str m2 m3 (markL mkS xs[j].rets (markL mkS xs[j].args (kj + 1)).2).2 _ xs[j].locals wa2 HO3_2.out (by omega) (by omega) (by omega))
      clear hO hW HC1
      go_wp2_with fail
      refine HC2.out.mono ?_
      rintro e wa3 ⟨rfl, hO, hW⟩
      have hs_2 := hW.size
      have HW_2 := Lib.hid hW
      have HO1_3 := Lib.hid (HO1_2.out.keep fun b' g1 g2 => hW.block b' (by omega) (by omega))
      have HO2_3 := Lib.hid (HO2_2.out.keep fun b' g1 g2 => hW.block b' (by omega) (by omega))
      have HO3_3 := Lib.hid hO
      have HO4_3 := Lib.hid (HO4_2.out.keep fun b' g1 g2 => hW.block b' (by omega) (by omega))
      have HO5_3 := Lib.hid (HO5_2.out.keep fun b' g1 g2 => hW.block b' (by omega) (by omega))
      have HB_3 := Lib.hid ((hW.block b (by omega) (by omega)).trans HB_2.out)
      clear hd
      have hd := (show Blk wa3 b 48 (cs.setIfInBounds (j * 6) (.int .i64 kj)) from HB_3.out).cell (j * 6 + 4)
      rw [Array.getElem?_setIfInBounds_ne (by omega), k4] at hd
      have HC3 : Hid (Calls Tryd.prog 26 #[(.slice A4 xs[j].takes.length c4), .int .i64 (((markL mkS xs[j].locals (markL mkS xs[j].rets (markL mkS xs[j].args (kj + 1)).2).2).2 : Nat) : Int)] wa3 (MarkD OCod.i64 3 m3 m4 wa3 (.slice A4 xs[j].takes.length c4) (markL mkI xs[j].takes (markL mkS xs[j].locals (markL mkS xs[j].rets (markL mkS xs[j].args (kj + 1)).2).2).2).1 (markL mkI xs[j].takes (markL mkS xs[j].locals (markL mkS xs[j].rets (markL mkS xs[j].args (kj + 1)).2).2).2).2)) := Lib.hid (mark_i64 m3 m4 (markL mkS xs[j].locals (markL mkS xs[j].rets (markL mkS xs[j].args (kj + 1)).2).2).2 _ xs[j].takes wa3 HO4_3.out (by omega) (by omega) (by omega))
      clear hO hW HC2
      go_wp2_with fail
      refine HC3.out.mono ?_
      rintro e wa4 ⟨rfl, hO, hW⟩
      have hs_3 := hW.size
      have HW_3 := Lib.hid hW
      have HO1_4 := Lib.hid (HO1_3.out.keep fun b' g1 g2 => hW.block b' (by omega) (by omega))
      have HO2_4 := Lib.hid (HO2_3.out.keep fun b' g1 g2 => hW.block b' (by omega) (by omega))
      have HO3_4 := Lib.hid (HO3_3.out.keep fun b' g1 g2 => hW.block b' (by omega) (by omega))
      have HO4_4 := Lib.hid hO
      have HO5_4 := Lib.hid (HO5_3.out.keep fun b' g1 g2 => hW.block b' (by omega) (by omega))
      have HB_4 := Lib.hid ((hW.block b (by omega) (by omega)).trans HB_3.out)
      clear hd
      have hd := (show Blk wa4 b 48 (cs.setIfInBounds (j * 6) (.int .i64 kj)) from HB_4.out).cell (j * 6 + 5)
      rw [Array.getElem?_setIfInBounds_ne (by omega), k5] at hd
      have HC4 : Hid (Calls Tryd.prog 56 #[(.slice A5 xs[j].code.length c5), .int .i64 (((markL mkI xs[j].takes (markL mkS xs[j].locals (markL mkS xs[j].rets (markL mkS xs[j].args (kj + 1)).2).2).2).2 : Nat) : Int)] wa4 (MarkD OCod.insr 80 m4 q wa4 (.slice A5 xs[j].code.length c5) (markL mkInsr xs[j].code (markL mkI xs[j].takes (markL mkS xs[j].locals (markL mkS xs[j].rets (markL mkS xs[j].args (kj + 1)).2).2).2).2).1 (markL mkInsr xs[j].code (markL mkI xs[j].takes (markL mkS xs[j].locals (markL mkS xs[j].rets (markL mkS xs[j].args (kj + 1)).2).2).2).2).2)) := Lib.hid (mark_insr m4 q (markL mkI xs[j].takes (markL mkS xs[j].locals (markL mkS xs[j].rets (markL mkS xs[j].args (kj + 1)).2).2).2).2 _ xs[j].code wa4 HO5_4.out (by omega) (by omega) (by omega))
      clear hO hW HC3
      go_wp2_with fail
      refine HC4.out.mono ?_
      rintro e wa5 ⟨rfl, hO, hW⟩
      have hs_4 := hW.size
      have HW_4 := Lib.hid hW
      have HO1_5 := Lib.hid (HO1_4.out.keep fun b' g1 g2 => hW.block b' (by omega) (by omega))
      have HO2_5 := Lib.hid (HO2_4.out.keep fun b' g1 g2 => hW.block b' (by omega) (by omega))
      have HO3_5 := Lib.hid (HO3_4.out.keep fun b' g1 g2 => hW.block b' (by omega) (by omega))
      have HO4_5 := Lib.hid (HO4_4.out.keep fun b' g1 g2 => hW.block b' (by omega) (by omega))
      have HO5_5 := Lib.hid hO
      have HB_5 := Lib.hid ((hW.block b (by omega) (by omega)).trans HB_4.out)
      clear hO hW HC4 hd
      go_wp2
      go_roundw
      case rel =>
        refine ⟨j + 1, (mkFunr xs[j] kj).2, done ++ [(mkFunr xs[j] kj).1], by omega, by go_num, rfl, by show 0 < (markL mkInsr xs[j].code (markL mkI xs[j].takes (markL mkS xs[j].locals (markL mkS xs[j].rets (markL mkS xs[j].args (kj + 1)).2).2).2).2).2; omega, Hst, ?_, ?_⟩
        · have := Hup.out wa5 (cs.setIfInBounds (j * 6) (.int .i64 kj)) [.int .i64 kj, .slice A1 xs[j].args.length c1, .slice A2 xs[j].rets.length c2, .slice A3 xs[j].locals.length c3, .slice A4 xs[j].takes.length c4, .slice A5 xs[j].code.length c5] (mkFunr xs[j] kj).1 HB_5.out
            (fun i hi => by rw [Array.getElem?_setIfInBounds_ne (by omega)])
            (fun i u hu => ?_) ⟨_, _, _, _, _, rfl, ⟨by show I64 (kj : Int); unfold I64; omega, m1, m2, m3, m4, by omega, by omega, by omega, by omega, by omega, HO1_5.out, HO2_5.out, HO3_5.out, HO4_5.out, HO5_5.out⟩⟩
            (fun b' g1 g2 g3 g4 => (HW_4.out.block b' (by omega) (by omega)).trans ((HW_3.out.block b' (by omega) (by omega)).trans ((HW_2.out.block b' (by omega) (by omega)).trans ((HW_1.out.block b' (by omega) (by omega)).trans ((HW_0.out.block b' (by omega) (by omega)).trans (HK3.out b' g4))))))
          · rw [HMr.out.set_ hlt] at this
            exact this
          · match i, hu with
            | 0, hu => simp at hu; subst hu; show (cs.setIfInBounds (j * 6) _)[j * 6]? = _; rw [Array.getElem?_setIfInBounds_self_of_lt (by omega)]
            | 1, hu => simp at hu; subst hu; rw [Array.getElem?_setIfInBounds_ne (by omega), k1]
            | 2, hu => simp at hu; subst hu; rw [Array.getElem?_setIfInBounds_ne (by omega), k2]
            | 3, hu => simp at hu; subst hu; rw [Array.getElem?_setIfInBounds_ne (by omega), k3]
            | 4, hu => simp at hu; subst hu; rw [Array.getElem?_setIfInBounds_ne (by omega), k4]
            | 5, hu => simp at hu; subst hu; rw [Array.getElem?_setIfInBounds_ne (by omega), k5]
            | i + 6, hu => simp at hu
        · exact HWr.out.trans (HW3.out.trans ((HW_0.out.mono (by omega) (by omega)).trans ((HW_1.out.mono (by omega) (by omega)).trans ((HW_2.out.mono (by omega) (by omega)).trans ((HW_3.out.mono (by omega) (by omega)).trans (HW_4.out.mono (by omega) (by omega)))))))
      case measure => simp [intOf]; omega
    · obtain rfl : j = xs.length := by omega
      obtain ⟨e1, e2⟩ := HMr.out.end_ rfl
      have HQ := Lib.hid (show MarkD OCod.funr 48 lo hi w (.slice A xs.length cap) (markL mkFunr xs k).1 (markL mkFunr xs k).2 (.returned (.int .i64 kj)) wr from ⟨by rw [e2], by rw [← e1]; simpa using HOr.out, HWr.out⟩)
      clear e1 e2
      go_wp2
      go_ret
      exact HQ.out

def MarkFunrD (lo hi : Nat) (w : World) (v1 v2 v3 v4 v5 : Value) (y : FunR) (k : Nat) (e : Ending) (w' : World) : Prop :=
  e = .returned (.int .i64 k) ∧ FunRo lo hi w' v1 v2 v3 v4 v5 y ∧ Wrote lo hi w w'
def mkModr (x : ModR) (k : Nat) : ModR × Nat := (⟨(markL mkR x.records k).1, (markL mkFunr x.funcs (markL mkR x.records k).2).1, (markL mkI x.friends (markL mkFunr x.funcs (markL mkR x.records k).2).2).1⟩, (markL mkI x.friends (markL mkFunr x.funcs (markL mkR x.records k).2).2).2)
theorem mkModr_le (x : ModR) (k : Nat) : k ≤ (mkModr x k).2 := by
  have l0 := markL_le mkR_le x.records k
  have l1 := markL_le mkFunr_le x.funcs (markL mkR x.records k).2
  have l2 := markL_le mkI_le x.friends (markL mkFunr x.funcs (markL mkR x.records k).2).2
  show k ≤ (markL mkI x.friends (markL mkFunr x.funcs (markL mkR x.records k).2).2).2
  omega
def mkModrT (x : ModR) (k : Nat) : ModR × Nat := (⟨(markL mkR x.records k).1, (markL mkFunr x.funcs (markL mkR x.records k).2).1, (markL mkI x.friends (markL mkFunr x.funcs (markL mkR x.records k).2).2).1⟩, (markL mkI x.friends (markL mkFunr x.funcs (markL mkR x.records k).2).2).2)

set_option maxRecDepth 100000 in
set_option maxHeartbeats 4000000 in
theorem mark_modr : MarkRow OCod.modr 52 10 mkModr := by
  intro lo hi k v xs w h hhi h0 h1
  have HO := Lib.hid h
  have HM := Lib.hid (MarkAt.start mkModr xs k)
  obtain ⟨A, cap, rfl, hlc, hcm⟩ := h.len_
  unfold maxLen at hcm
  clear h
  go_enter Tryd.func10, Tryd.ntmps10
  go_wp2
  go_loopw [5, 1] (fun i kk wr => ∃ (j kj : Nat) (done : List ModR), j ≤ xs.length ∧ i = .int .i64 j ∧ kk = .int .i64 kj ∧ 0 < kj ∧ Hid (MarkAt mkModr xs k done j kj) ∧ Hid (Own OCod.modr 52 lo hi wr (.slice A xs.length cap) (done ++ xs.drop j)) ∧ Hid (Wrote lo hi w wr)) (fun i _ _ => xs.length - (intOf i).toNat)
  case atStart => exact ⟨0, k, [], Nat.zero_le _, rfl, rfl, h0, HM, HO, Wrote.refl _ _ _⟩
  case round =>
    obtain ⟨j, kj, done, hj, rfl, rfl, hk0, HMr, HOr, HWr⟩ := hrel
    by_cases hlt : j < xs.length
    · have hst := HMr.out.step hlt
      have hroom2 := hst.room mkModr_le
      have hg := HMr.out.get_ hlt
      have hl := HMr.out.len hj
      obtain ⟨b, cap', cs, p, q, ds, hv, _, _, hb1, hb2, hB, hp, hq, hpq, hcell, hrd, hup⟩ := HOr.out.at hg.1
      rw [hg.2 hg.1] at hrd
      have hsz : OCod.modr.cod.size = 3 := rfl
      rw [hsz] at hcell hup
      obtain ⟨w_0, w_1, w_2, rfl, ⟨m1, m2, b0, b1, b2, o0, o1, o2⟩⟩ := hrd
      rw [hl] at hv
      obtain ⟨rfl, rfl⟩ : A = some ⟨b, 0, none⟩ ∧ cap = cap' := by simpa using hv
      obtain ⟨A0, c0, rfl, l0, g0⟩ := o0.len_
      unfold maxLen at g0
      obtain ⟨A1, c1, rfl, l1, g1⟩ := o1.len_
      unfold maxLen at g1
      obtain ⟨A2, c2, rfl, l2, g2⟩ := o2.len_
      unfold maxLen at g2
      have k0 : cs[j * 3]? = some (.slice A0 xs[j].records.length c0) := hcell 0 _ rfl
      have k1 : cs[j * 3 + 1]? = some (.slice A1 xs[j].funcs.length c1) := hcell 1 _ rfl
      have k2 : cs[j * 3 + 2]? = some (.slice A2 xs[j].friends.length c2) := hcell 2 _ rfl
      have hjc : j * 3 + 2 < cs.size := (Array.getElem?_eq_some_iff.1 k2).1
      have Hup := Lib.hid hup
      have HB := Lib.hid hB
      have Hst := Lib.hid hst
      have hsw := HWr.out.size
      have hbl : b < wr.heap.size := by omega
      have le0 := markL_le mkR_le xs[j].records kj
      have le1 := markL_le mkFunr_le xs[j].funcs (markL mkR xs[j].records kj).2
      have le2 := markL_le mkI_le xs[j].friends (markL mkFunr xs[j].funcs (markL mkR xs[j].records kj).2).2
      have hroom3 : (markL mkI xs[j].friends (markL mkFunr xs[j].funcs (markL mkR xs[j].records kj).2).2).2 ≤ 100000000 := Nat.le_trans hroom2 h1
      have HO0_0' := Lib.hid o0
      have HO1_0' := Lib.hid o1
      have HO2_0' := Lib.hid o2
      have HB_0 := Lib.hid hB
      have hd := hB.cell (j * 3)
      rw [k0] at hd
      have hs3 : wr.heap.size ≤ wr.heap.size := Nat.le_refl _
      have HO0_0 := Lib.hid o0
      have HO1_0 := Lib.hid o1
      have HO2_0 := Lib.hid o2
      have HC0 : Hid (Calls Tryd.prog 24 #[(.slice A0 xs[j].records.length c0), .int .i64 ((kj : Nat) : Int)] wr (MarkD (OCod.rec_ 9) 96 p m1 wr (.slice A0 xs[j].records.length c0) (markL mkR xs[j].records kj).1 (markL mkR xs[j].records kj).2)) := Lib.hid (mark_rec p m1 kj _ xs[j].records wr HO0_0.out (by omega) (by omega) (by omega))
      clear hv hB hcell hup hst hg hl hroom2 o0 o1 o2 HO0_0' HO1_0' HO2_0'
      go_wp2_with fail
      refine HC0.out.mono ?_
      rintro e wa1 ⟨rfl, hO, hW⟩
      have hs_0 := hW.size
      have HW_0 := Lib.hid hW
      have HO0_1 := Lib.hid hO
      have HO1_1 := Lib.hid (HO1_0.out.keep fun b' g1 g2 => hW.block b' (by omega) (by omega))
      have HO2_1 := Lib.hid (HO2_0.out.keep fun b' g1 g2 => hW.block b' (by omega) (by omega))
      have HB_1 := Lib.hid ((hW.block b (by omega) (by omega)).trans HB_0.out)
      clear hd
      have hd := (show Blk wa1 b 52 (cs) from HB_1.out).cell (j * 3 + 1)
      rw [k1] at hd
      have HC1 : Hid (Calls Tryd.prog 25 #[(.slice A1 xs[j].funcs.length c1), .int .i64 (((markL mkR xs[j].records kj).2 : Nat) : Int)] wa1 (MarkD OCod.funr 48 m1 m2 wa1 (.slice A1 xs[j].funcs.length c1) (markL mkFunr xs[j].funcs (markL mkR xs[j].records kj).2).1 (markL mkFunr xs[j].funcs (markL mkR xs[j].records kj).2).2)) := Lib.hid (mark_funr m1 m2 (markL mkR xs[j].records kj).2 _ xs[j].funcs wa1 HO1_1.out (by omega) (by omega) (by omega))
      clear hO hW HC0
      go_wp2_with fail
      refine HC1.out.mono ?_
      rintro e wa2 ⟨rfl, hO, hW⟩
      have hs_1 := hW.size
      have HW_1 := Lib.hid hW
      have HO0_2 := Lib.hid (HO0_1.out.keep fun b' g1 g2 => hW.block b' (by omega) (by omega))
      have HO1_2 := Lib.hid hO
      have HO2_2 := Lib.hid (HO2_1.out.keep fun b' g1 g2 => hW.block b' (by omega) (by omega))
      have HB_2 := Lib.hid ((hW.block b (by omega) (by omega)).trans HB_1.out)
      clear hd
      have hd := (show Blk wa2 b 52 (cs) from HB_2.out).cell (j * 3 + 2)
      rw [k2] at hd
      have HC2 : Hid (Calls Tryd.prog 26 #[(.slice A2 xs[j].friends.length c2), .int .i64 (((markL mkFunr xs[j].funcs (markL mkR xs[j].records kj).2).2 : Nat) : Int)] wa2 (MarkD OCod.i64 3 m2 q wa2 (.slice A2 xs[j].friends.length c2) (markL mkI xs[j].friends (markL mkFunr xs[j].funcs (markL mkR xs[j].records kj).2).2).1 (markL mkI xs[j].friends (markL mkFunr xs[j].funcs (markL mkR xs[j].records kj).2).2).2)) := Lib.hid (mark_i64 m2 q (markL mkFunr xs[j].funcs (markL mkR xs[j].records kj).2).2 _ xs[j].friends wa2 HO2_2.out (by omega) (by omega) (by omega))
      clear hO hW HC1
      go_wp2_with fail
      refine HC2.out.mono ?_
      rintro e wa3 ⟨rfl, hO, hW⟩
      have hs_2 := hW.size
      have HW_2 := Lib.hid hW
      have HO0_3 := Lib.hid (HO0_2.out.keep fun b' g1 g2 => hW.block b' (by omega) (by omega))
      have HO1_3 := Lib.hid (HO1_2.out.keep fun b' g1 g2 => hW.block b' (by omega) (by omega))
      have HO2_3 := Lib.hid hO
      have HB_3 := Lib.hid ((hW.block b (by omega) (by omega)).trans HB_2.out)
      clear hO hW HC2 hd
      go_wp2
      go_roundw
      case rel =>
        refine ⟨j + 1, (mkModr xs[j] kj).2, done ++ [(mkModr xs[j] kj).1], by omega, by go_num, rfl, by show 0 < (markL mkI xs[j].friends (markL mkFunr xs[j].funcs (markL mkR xs[j].records kj).2).2).2; omega, Hst, ?_, ?_⟩
        · have := Hup.out wa3 (cs) [.slice A0 xs[j].records.length c0, .slice A1 xs[j].funcs.length c1, .slice A2 xs[j].friends.length c2] (mkModr xs[j] kj).1 HB_3.out
            (fun i hi => rfl)
            (fun i u hu => ?_) ⟨_, _, _, rfl, ⟨m1, m2, by omega, by omega, by omega, HO0_3.out, HO1_3.out, HO2_3.out⟩⟩
            (fun b' g1 g2 g3 g4 => (HW_2.out.block b' (by omega) (by omega)).trans ((HW_1.out.block b' (by omega) (by omega)).trans ((HW_0.out.block b' (by omega) (by omega)).trans (rfl))))
          · rw [HMr.out.set_ hlt] at this
            exact this
          · match i, hu with
            | 0, hu => simp at hu; subst hu; exact k0
            | 1, hu => simp at hu; subst hu; exact k1
            | 2, hu => simp at hu; subst hu; exact k2
            | i + 3, hu => simp at hu
        · exact HWr.out.trans ((HW_0.out.mono (by omega) (by omega)).trans ((HW_1.out.mono (by omega) (by omega)).trans (HW_2.out.mono (by omega) (by omega))))
      case measure => simp [intOf]; omega
    · obtain rfl : j = xs.length := by omega
      obtain ⟨e1, e2⟩ := HMr.out.end_ rfl
      have HQ := Lib.hid (show MarkD OCod.modr 52 lo hi w (.slice A xs.length cap) (markL mkModr xs k).1 (markL mkModr xs k).2 (.returned (.int .i64 kj)) wr from ⟨by rw [e2], by rw [← e1]; simpa using HOr.out, HWr.out⟩)
      clear e1 e2
      go_wp2
      go_ret
      exact HQ.out

def MarkModrD (lo hi : Nat) (w : World) (v0 v1 v2 : Value) (y : ModR) (k : Nat) (e : Ending) (w' : World) : Prop :=
  e = .returned (.int .i64 k) ∧ ModRo lo hi w' v0 v1 v2 y ∧ Wrote lo hi w w'
end Go.Proofs.YtmomdflfjcboiaaDoor

namespace Go.Proofs.YtmomdflfjcboiaaDoor
open Go.RowKit
set_option maxRecDepth 100000 in
set_option maxHeartbeats 1000000 in
theorem heldIntS_any (F : Nat → Prop) (k : Nat) (v : Value) (xs : List Int) (w : World) (h : Cod.i64.Sl F w v (markL mkI xs k).1) (h0 : 0 < k) (h1 : (markL mkI xs k).2 ≤ 100000000) :
    Calls Tryd.prog 58 #[v, .int .i64 k] w fun e w' => e = .returned (.int .i64 (markL mkI xs k).2) ∧ w' = w := by
  have HO := Lib.hid h
  have HM := Lib.hid (MarkAt.start mkI xs k)
  obtain ⟨A, cap, rfl, hlc, hcm, hx_⟩ := h
  clear hx_
  unfold maxLen at hcm
  rw [markL_length] at hlc HO ⊢
  go_enter Tryd.func58, Tryd.ntmps58
  go_wp2
  go_loopw [5, 1] (fun i kk wr => ∃ (j kj : Nat) (done : List Int), j ≤ xs.length ∧ i = .int .i64 j ∧ kk = .int .i64 kj ∧ 0 < kj ∧ Hid (MarkAt mkI xs k done j kj) ∧ wr = w) (fun i _ _ => xs.length - (intOf i).toNat)
  case atStart => exact ⟨0, k, [], Nat.zero_le _, rfl, rfl, h0, HM, rfl⟩
  case round =>
    obtain ⟨j, kj, done, hj, rfl, rfl, hk0, HMr, rfl⟩ := hrel
    by_cases hlt : j < xs.length
    · have hst := HMr.out.step hlt
      have hroom2 := hst.room (f := mkI) (fun _ k => Nat.le_succ k)
      obtain ⟨hh, hg⟩ := HMr.out.nth hlt
      obtain ⟨b, off, cap', hv, hFb, _, _, hc0, hi0⟩ := HO.out.i64_at hh
      rw [hg] at hc0
      rw [markL_length] at hv
      obtain ⟨rfl, rfl⟩ : A = some ⟨b, off, none⟩ ∧ cap = cap' := by simpa using hv
      have hc0' : wr.cell? ⟨b, off + j, none⟩ = some (.int .i64 kj) := hc0
      have hk1 : kj + 1 ≤ 100000000 := Nat.le_trans hroom2 h1
      have Hst := Lib.hid hst
      clear hv hc0 hst hg hroom2 hh hi0
      go_wp2
      go_roundw
      case rel => exact ⟨j + 1, kj + 1, _, by omega, by go_num, by go_num, by omega, Hst, by first | rfl | trivial⟩
      case measure => simp [intOf]; omega
    · obtain rfl : j = xs.length := by omega
      obtain ⟨e1, e2⟩ := HMr.out.end_ rfl
      have HQ := Lib.hid e2
      clear e1 e2
      go_wp2
      go_ret
      exact ⟨ret_int (by rw [HQ.out]), rfl⟩

end Go.Proofs.YtmomdflfjcboiaaDoor

namespace Go.Proofs.YtmomdflfjcboiaaDoor
open Go.RowKit


def HeldRow {α : Type} (c : Cod α) (f : FuncId) (m : α → Nat → α × Nat) : Prop := ∀ (F : Nat → Prop) (k : Nat) (v : Value) (xs : List α) (w : World), c.Sl F w v (markL m xs k).1 → (∀ b, F b → b < w.heap.size) → 0 < k → (markL m xs k).2 ≤ 100000000 →
    Calls Tryd.prog f #[v, .int .i64 k] w fun e w' => e = .returned (.int .i64 (markL m xs k).2) ∧ Below w.heap.size w w'
theorem held_i64 : HeldRow Cod.i64 58 mkI := fun F k v xs w h _ h0 h1 => (heldIntS_any F k v xs w h h0 h1).mono fun _ _ hh => ⟨hh.1, hh.2 ▸ Below.refl _ _⟩


end Go.Proofs.YtmomdflfjcboiaaDoor

namespace Go.Proofs.YtmomdflfjcboiaaDoor
open Go.RowKit

def Costs {α : Type} (f : α → Nat → α × Nat) (g : α → Int → Int) : Prop := ∀ (x : α) (k : Nat) (l : Int), 0 ≤ g x l → ((f x k).2 : Int) ≤ k + 3 * (l - g x l) + 3
theorem list_cost {α : Type} {f : α → Nat → α × Nat} {g : α → Int → Int} (h : Costs f g) : ∀ (xs : List α) (k : Nat) (l : Int), 0 ≤ szList g xs l → ((markL f xs k).2 : Int) ≤ k + 3 * (l - szList g xs l) + 3 * xs.length
  | [], k, l, _ => by
    show (k : Int) ≤ k + 3 * (l - l) + 3 * (([] : List α).length : Int)
    simp
  | x :: r, k, l, h0 => by
    have e : szList g (x :: r) l = if g x l < 0 then -1 else szList g r (g x l) := rfl
    rw [e] at h0 ⊢
    split at h0
    · omega
    · rename_i hn
      rw [if_neg hn]
      have h1 := h x k l (by omega)
      have h2 := list_cost h r (f x k).2 (g x l) h0
      have e2 : (markL f (x :: r) k).2 = (markL f r (f x k).2).2 := rfl
      rw [e2, List.length_cons]
      omega
theorem row_cost {α : Type} {f : α → Nat → α × Nat} {g : α → Int → Int} (h : Costs f g) (xs : List α) (k : Nat) (l : Int) (h0 : 0 ≤ szS g xs l) : ((markL f xs k).2 : Int) ≤ k + 3 * (l - szS g xs l) := by
  unfold szS at h0 ⊢
  split at h0
  · omega
  · rename_i hn
    rw [if_neg hn]
    have := list_cost h xs k _ h0
    omega
theorem mkS_many : ∀ (xs : List ByteArray) (k : Nat), (markL mkS xs k).2 = k + xs.length
  | [], k => rfl
  | x :: r, k => by
    have e : (markL mkS (x :: r) k).2 = (markL mkS r (k + 1)).2 := rfl
    rw [e, mkS_many r, List.length_cons]
    omega
theorem mkI_many : ∀ (xs : List Int) (k : Nat), (markL mkI xs k).2 = k + xs.length
  | [], k => rfl
  | x :: r, k => by
    have e : (markL mkI (x :: r) k).2 = (markL mkI r (k + 1)).2 := rfl
    rw [e, mkI_many r, List.length_cons]
    omega
theorem mkInsr_many : ∀ (xs : List InsR) (k : Nat), (markL mkInsr xs k).2 = k + 3 * xs.length
  | [], k => rfl
  | x :: r, k => by
    have e : (markL mkInsr (x :: r) k).2 = (markL mkInsr r (k + 3)).2 := rfl
    rw [e, mkInsr_many r, List.length_cons]
    omega
theorem cost_str : Costs mkS szB := fun x k l _ => by
  show ((k + 1 : Nat) : Int) ≤ k + 3 * (l - (l - x.size)) + 3
  omega
theorem row_i64 (xs : List Int) (k : Nat) (l : Int) (h : 0 ≤ szI xs l) : ((markL mkI xs k).2 : Int) ≤ k + 3 * (l - szI xs l) := by
  rw [mkI_many]
  unfold szI at h ⊢
  split at h
  · omega
  · rename_i hn
    rw [if_neg hn]
    omega
theorem cost_rec : Costs mkR szRec := fun x k l h => by
  show (((markL mkS x.fields (k + 1)).2 : Nat) : Int) ≤ _
  unfold szRec at h ⊢
  split at h
  · omega
  · rename_i hn
    rw [if_neg hn]
    have := row_cost cost_str x.fields (k + 1) l h
    omega
theorem cost_insr : Costs mkInsr szInsr := fun x k l h => by
  show ((k + 3 : Nat) : Int) ≤ _
  unfold szInsr at h ⊢
  obtain ⟨g0, h0⟩ := szThen_pos h
  rw [szThen_go (by omega)]
  omega
set_option maxHeartbeats 1000000 in
theorem cost_funr : Costs mkFunr szFunr := fun x k l h => by
  show (((markL mkInsr x.code (markL mkI x.takes (markL mkS x.locals (markL mkS x.rets (markL mkS x.args (k + 1)).2).2).2).2).2 : Nat) : Int) ≤ _
  unfold szFunr at h ⊢
  obtain ⟨g0, h0⟩ := szThen_pos h
  obtain ⟨g1, h1⟩ := szThen_pos h0
  obtain ⟨g2, h2⟩ := szThen_pos h1
  obtain ⟨g3, h3⟩ := szThen_pos h2
  obtain ⟨g4, h4⟩ := szThen_pos h3
  rw [szThen_go (by omega), szThen_go (by omega), szThen_go (by omega), szThen_go (by omega), szThen_go (by omega)]
  have e0 := row_cost cost_str x.args (k + 1) _ g0
  have e1 := row_cost cost_str x.rets (markL mkS x.args (k + 1)).2 _ g1
  have e2 := row_cost cost_str x.locals (markL mkS x.rets (markL mkS x.args (k + 1)).2).2 _ g2
  have e3 := row_i64 x.takes (markL mkS x.locals (markL mkS x.rets (markL mkS x.args (k + 1)).2).2).2 _ g3
  have e4 := row_cost cost_insr x.code (markL mkI x.takes (markL mkS x.locals (markL mkS x.rets (markL mkS x.args (k + 1)).2).2).2).2 _ g4
  omega
set_option maxHeartbeats 1000000 in
theorem cost_modr : Costs mkModr szModr := fun x k l h => by
  show (((markL mkI x.friends (markL mkFunr x.funcs (markL mkR x.records k).2).2).2 : Nat) : Int) ≤ _
  unfold szModr at h ⊢
  obtain ⟨g0, h0⟩ := szThen_pos h
  obtain ⟨g1, h1⟩ := szThen_pos h0
  obtain ⟨g2, h2⟩ := szThen_pos h1
  rw [szThen_go (by omega), szThen_go (by omega), szThen_go (by omega)]
  have e0 := row_cost cost_rec x.records k _ g0
  have e1 := row_cost cost_funr x.funcs (markL mkR x.records k).2 _ g1
  have e2 := row_i64 x.friends (markL mkFunr x.funcs (markL mkR x.records k).2).2 _ g2
  omega
theorem marks_shelf {xs : List ModR} (h : ¬ szS szModr xs 1048576 < 0) : (markL mkModr xs 1).2 ≤ 100000000 := by
  have := row_cost cost_modr xs 1 1048576 (by omega)
  omega
theorem marks_func {x : FunR} (h : SmolFunr x) : (mkFunrT x 1).2 ≤ 100000000 := by
  show (markL mkInsr x.code (markL mkI x.takes (markL mkS x.locals (markL mkS x.rets (markL mkS x.args 1).2).2).2).2).2 ≤ _
  rw [mkInsr_many, mkI_many, mkS_many, mkS_many, mkS_many]
  obtain ⟨h1, h2, h3, h4, h5, _⟩ := h
  omega
end Go.Proofs.YtmomdflfjcboiaaDoor
