/- Vaults of a call's own: marked, and held. -/
import Derived.Test.YtemlpiokdoeeeaaWb
namespace Go.Proofs.Ytemlpiokdoeeeaa
open Go.RowKit

def MarkRow5 {α : Type} (c : OCod α) (t : TypeId) (f : FuncId) (m : α → Nat → α × Nat) : Prop := ∀ (lo hi k : Nat) (v : Value) (xs : List α) (w : World), Own c t lo hi w v xs → hi ≤ w.heap.size → 0 < k → (markL m xs k).2 ≤ 100000000 →
    Calls Try.prog f #[v, .int .i64 k] w (MarkD c t lo hi w v (markL m xs k).1 (markL m xs k).2)
def HeldRow5 {α : Type} (c : Cod α) (f : FuncId) (m : α → Nat → α × Nat) : Prop := ∀ (F : Nat → Prop) (k : Nat) (v : Value) (xs : List α) (w : World), c.Sl F w v (markL m xs k).1 → (∀ b, F b → b < w.heap.size) → 0 < k → (markL m xs k).2 ≤ 100000000 →
    Calls Try.prog f #[v, .int .i64 k] w fun e w' => e = .returned (.int .i64 (markL m xs k).2) ∧ Below w.heap.size w w'
def mkKep (d : Nat) (x : KepR) (k : Nat) : KepR × Nat :=
  (⟨(k : Nat), .mk (mt (k + 1)) ((k + 2 : Nat) : Int) (markL (mkV d) x.v.parts (k + 3)).1 (markL mkI x.v.path (markL (mkV d) x.v.parts (k + 3)).2).1⟩, (markL mkI x.v.path (markL (mkV d) x.v.parts (k + 3)).2).2)
theorem mkKep_ge (d : Nat) (x : KepR) (k : Nat) : k + 3 ≤ (markL (mkV d) x.v.parts (k + 3)).2 ∧ (markL (mkV d) x.v.parts (k + 3)).2 ≤ (mkKep d x k).2 :=
  ⟨markL_le (mkV_le d) _ _, markL_le (f := mkI) (fun _ k => Nat.le_succ k) _ _⟩
theorem mkKep_le (d : Nat) (x : KepR) (k : Nat) : k ≤ (mkKep d x k).2 := by have := mkKep_ge d x k; omega

set_option maxRecDepth 100000 in
set_option maxHeartbeats 4000000 in
theorem mark_kept (d : Nat) : MarkRow5 (OKept d) 35 24 (mkKep d) := by
  intro lo hi k v xs w h hhi h0 h1
  have HO := Lib.hid h
  have HM := Lib.hid (MarkAt.start (mkKep d) xs k)
  obtain ⟨A, cap, rfl, hlc, hcm⟩ := h.len_
  unfold maxLen at hcm
  clear h
  go_enter Try.func24, Try.ntmps24
  go_wp2
  go_loopw [5, 1] (fun i kk wr => ∃ (j kj : Nat) (done : List KepR), j ≤ xs.length ∧ i = .int .i64 j ∧ kk = .int .i64 kj ∧ 0 < kj ∧ Hid (MarkAt (mkKep d) xs k done j kj) ∧ Hid (Own (OKept d) 35 lo hi wr (.slice A xs.length cap) (done ++ xs.drop j)) ∧ Hid (Wrote lo hi w wr)) (fun i _ _ => xs.length - (intOf i).toNat)
  case atStart => exact ⟨0, k, [], Nat.zero_le _, rfl, rfl, h0, HM, HO, Wrote.refl _ _ _⟩
  case round =>
    obtain ⟨j, kj, done, hj, rfl, rfl, hk0, HMr, HOr, HWr⟩ := hrel
    by_cases hlt : j < xs.length
    · have hst := HMr.out.step hlt
      have hroom2 := hst.room (mkKep_le d)
      have hg := HMr.out.get_ hlt
      have hl := HMr.out.len hj
      obtain ⟨b, cap', cs, p, q, ds, hv, _, _, hb1, hb2, hB, hp, hq, hpq, hcell, hrd, hup⟩ := HOr.out.at hg.1
      rw [hg.2 hg.1] at hrd
      have hsz : (OKept d).cod.size = 5 := rfl
      rw [hsz] at hcell hup
      obtain ⟨a, pa, rfl, ho64, hty, hn, m, hm1, hm2, hOp, hOq⟩ := hrd
      rw [hl] at hv
      obtain ⟨rfl, rfl⟩ : A = some ⟨b, 0, none⟩ ∧ cap = cap' := by simpa using hv
      obtain ⟨Aa, ca, rfl, ha1, ha2⟩ := hOp.len_
      obtain ⟨Ab, cb, rfl, hb1', hb2'⟩ := hOq.len_
      unfold maxLen at ha2 hb2'
      have c0 : cs[j * 5]? = some (.int .i64 xs[j].o) := hcell 0 _ rfl
      have c1 : cs[j * 5 + 1]? = some (.string xs[j].v.ty) := hcell 1 _ rfl
      have c2 : cs[j * 5 + 2]? = some (.int .i64 xs[j].v.n) := hcell 2 _ rfl
      have c3 : cs[j * 5 + 3]? = some (.slice Aa xs[j].v.parts.length ca) := hcell 3 _ rfl
      have c4 : cs[j * 5 + 4]? = some (.slice Ab xs[j].v.path.length cb) := hcell 4 _ rfl
      have hjc : j * 5 + 4 < cs.size := (Array.getElem?_eq_some_iff.1 c4).1
      have hle := mkKep_ge d xs[j] kj
      have Hup := Lib.hid hup
      have Hst := Lib.hid hst
      have hsw := HWr.out.size
      have hbl : b < wr.heap.size := by omega
      have hk1 : kj + 3 ≤ 100000000 := by omega
      have hk2 : (markL (mkV d) xs[j].v.parts (kj + 3)).2 ≤ 100000000 := by omega
      have hk3 : (markL mkI xs[j].v.path (markL (mkV d) xs[j].v.parts (kj + 3)).2).2 ≤ 100000000 := by have : (mkKep d xs[j] kj).2 = (markL mkI xs[j].v.path (markL (mkV d) xs[j].v.parts (kj + 3)).2).2 := rfl; omega
      have hkp : 0 < (markL (mkV d) xs[j].v.parts (kj + 3)).2 := by omega
      have hd0 := hB.cell (j * 5)
      rw [c0] at hd0
      have hf0 := hB.frozen (j * 5)
      obtain ⟨wS, hwS⟩ : ∃ wS, wS = wr.setCell ⟨b, j * 5, none⟩ (.int .i64 kj) := ⟨_, rfl⟩
      have hBS : Blk wS b 35 (cs.setIfInBounds (j * 5) (.int .i64 kj)) := by rw [hwS]; exact hB.set_ (j * 5) _
      have hkS : ∀ b', b' ≠ b → wS.heap[b']? = wr.heap[b']? := fun b' g => by rw [hwS, Below.heap_setCell _ _ _ _ g]
      have hsS : wS.heap.size = wr.heap.size := by rw [hwS]; simp [World.setCell]
      have HWS := Lib.hid (show Wrote lo hi wr wS by rw [hwS]; exact Wrote.set_ hb1 hb2 _)
      have hT := markText_any (kj + 1) wS (by omega) (by omega)
      rw [show ((kj + 1 : Nat) : Int) = (kj : Int) + 1 by omega] at hT
      have HT := Lib.hid hT
      have HBS := Lib.hid hBS
      have HKS := Lib.hid hkS
      have HsS := Lib.hid hsS
      have HwS := Lib.hid hwS
      have HOp := Lib.hid hOp
      have HOq := Lib.hid hOq
      clear hv hB hcell hup hst hg hl hOp hOq hroom2 hBS hkS hsS hwS hT
      go_wp2_with fail
      rw [← HwS.out]
      refine HT.out.mono ?_
      rintro e w1 ⟨rfl, hbe⟩
      have hzS := HsS.out
      have hB1 := HBS.out.below hbe (by omega)
      have hd1 := hB1.cell (j * 5 + 1)
      rw [Array.getElem?_setIfInBounds_ne (by omega), c1] at hd1
      have hf1 := hB1.frozen (j * 5 + 1)
      have hB2 := hB1.set_ (j * 5 + 1) (.string (mt (kj + 1)))
      have hd2 := hB2.cell (j * 5 + 2)
      rw [Array.getElem?_setIfInBounds_ne (by omega), Array.getElem?_setIfInBounds_ne (by omega), c2] at hd2
      have hf2 := hB2.frozen (j * 5 + 2)
      have hB3 := hB2.set_ (j * 5 + 2) (.int .i64 ((kj : Int) + 1 + 1))
      have hd3 := hB3.cell (j * 5 + 3)
      rw [Array.getElem?_setIfInBounds_ne (by omega), Array.getElem?_setIfInBounds_ne (by omega), Array.getElem?_setIfInBounds_ne (by omega), c3] at hd3
      obtain ⟨w3, hw3⟩ : ∃ w3, w3 = (w1.setCell ⟨b, j * 5 + 1, none⟩ (.string (mt (kj + 1)))).setCell ⟨b, j * 5 + 2, none⟩ (.int .i64 ((kj : Int) + 1 + 1)) := ⟨_, rfl⟩
      have hk3' : ∀ b', b' < wr.heap.size → b' ≠ b → w3.heap[b']? = wr.heap[b']? := fun b' g1 g2 => by
        rw [hw3, Below.heap_setCell _ _ _ _ (by simp; omega), Below.heap_setCell _ _ _ _ (by simp; omega), hbe.block b' (by omega)]
        exact HKS.out b' g2
      have hs3 : wr.heap.size ≤ w3.heap.size := by rw [hw3]; have := hbe.size; simp [World.setCell]; omega
      have hB3' : Blk w3 b 35 (((cs.setIfInBounds (j * 5) (.int .i64 kj)).setIfInBounds (j * 5 + 1) (.string (mt (kj + 1)))).setIfInBounds (j * 5 + 2) (.int .i64 ((kj : Int) + 1 + 1))) := by rw [hw3]; exact hB3
      have hOp3 := HOp.out.keep (w' := w3) fun b' g1 g2 => hk3' b' (by omega) (by omega)
      have hOq3 := HOq.out.keep (w' := w3) fun b' g1 g2 => hk3' b' (by omega) (by omega)
      have hC : Calls Try.prog 63 #[.slice Aa xs[j].v.parts.length ca, .int .i64 ((kj : Int) + 1 + 1 + 1)] w3 (MarkD (OCod.val 31 3 d) 31 p m w3 (.slice Aa xs[j].v.parts.length ca) (markL (mkV d) xs[j].v.parts (kj + 3)).1 (markL (mkV d) xs[j].v.parts (kj + 3)).2) := by
        have := markValueS_any d p m (kj + 3) _ xs[j].v.parts w3 hOp3 (by omega) (by omega) hk2
        rw [show ((kj + 3 : Nat) : Int) = (kj : Int) + 1 + 1 + 1 by omega] at this
        exact this
      have hW3 : Wrote lo hi wr w3 := by
        rw [hw3]
        exact ((HWS.out.trans (Wrote.of_below hbe)).trans (Wrote.set_ hb1 hb2 _)).trans (Wrote.set_ hb1 hb2 _)
      have HK3 := Lib.hid hk3'
      have HOq3 := Lib.hid hOq3
      have HBv := Lib.hid hB3'
      have HW3 := Lib.hid hW3
      have HC := Lib.hid hC
      have Hw3 := Lib.hid hw3
      clear hbe hB1 hB2 hB3 hk3' hB3' hOp3 hOq3 hW3 hC hw3 hzS
      clear HOp HOq HT
      go_wp2_with fail
      rw [← Hw3.out]
      refine HC.out.mono ?_
      rintro e w4 ⟨rfl, hO4, hW4⟩
      have hB4 := (hW4.block b (by omega) (by omega)).trans HBv.out
      have hd4 := (show Blk w4 b 35 _ from hB4).cell (j * 5 + 4)
      rw [Array.getElem?_setIfInBounds_ne (by omega), Array.getElem?_setIfInBounds_ne (by omega), Array.getElem?_setIfInBounds_ne (by omega), c4] at hd4
      have hs4 := hW4.size
      have HO4 := Lib.hid hO4
      have HW4 := Lib.hid hW4
      have HB4 := Lib.hid hB4
      have HM4 := Lib.hid (markIntS_any m q (markL (mkV d) xs[j].v.parts (kj + 3)).2 _ xs[j].v.path w4 (HOq3.out.keep fun b' g1 g2 => hW4.block b' (by omega) (by omega)) hkp hk3)
      clear hO4 hW4 hB4 HC hd0 hf0 hd1 hf1 hd2 hf2 hd3
      go_wp2_with fail
      refine HM4.out.mono ?_
      rintro e w5 ⟨rfl, hO5, hW5⟩
      have hs5 := hW5.size
      have HO5 := Lib.hid hO5
      have HW5 := Lib.hid hW5
      clear hO5 hW5 HM4
      go_wp2
      go_roundw
      case rel =>
        refine ⟨j + 1, (mkKep d xs[j] kj).2, done ++ [(mkKep d xs[j] kj).1], by omega, by go_num, rfl, by omega, Hst, ?_, ?_⟩
        · have hB5 := (HW5.out.block b (by omega) (by omega)).trans HB4.out
          have hV : OV (OCod.val 31 3 d) 31 3 p q w5 (.slice Aa xs[j].v.parts.length ca) (.slice Ab xs[j].v.path.length cb) (mkKep d xs[j] kj).1.v :=
            ⟨mt_size (by omega), by show I64 ((kj + 2 : Nat) : Int); unfold I64; omega, m, hm1, hm2, HO4.out.keep fun b' g1 g2 => HW5.out.block b' (by omega) (by omega), HO5.out⟩
          have := Hup.out w5 _ [.int .i64 kj, .string (mt (kj + 1)), .int .i64 ((kj + 2 : Nat) : Int), .slice Aa xs[j].v.parts.length ca, .slice Ab xs[j].v.path.length cb] (mkKep d xs[j] kj).1 hB5
            (fun i hi => by rw [Array.getElem?_setIfInBounds_ne (by omega), Array.getElem?_setIfInBounds_ne (by omega), Array.getElem?_setIfInBounds_ne (by omega)])
            (fun i u hu => ?_) ⟨_, _, rfl, (by show I64 (kj : Int); unfold I64; omega), hV⟩
            (fun b' g1 g2 g3 g4 => (HW5.out.block b' (by omega) (by omega)).trans ((HW4.out.block b' (by omega) (by omega)).trans (HK3.out b' (by omega) g4)))
          · rw [HMr.out.set_ hlt] at this
            exact this
          · match i, hu with
            | 0, hu => simp at hu; subst hu; rw [Array.getElem?_setIfInBounds_ne (by omega), Array.getElem?_setIfInBounds_ne (by omega), Nat.add_zero, Array.getElem?_setIfInBounds_self_of_lt (by omega)]
            | 1, hu => simp at hu; subst hu; rw [Array.getElem?_setIfInBounds_ne (by omega), Array.getElem?_setIfInBounds_self_of_lt (by simp; omega)]
            | 2, hu => simp at hu; subst hu; rw [Array.getElem?_setIfInBounds_self_of_lt (by simp; omega)]; first | rfl | (congr 1; congr 1; omega)
            | 3, hu => simp at hu; subst hu; rw [Array.getElem?_setIfInBounds_ne (by omega), Array.getElem?_setIfInBounds_ne (by omega), Array.getElem?_setIfInBounds_ne (by omega), c3]
            | 4, hu => simp at hu; subst hu; rw [Array.getElem?_setIfInBounds_ne (by omega), Array.getElem?_setIfInBounds_ne (by omega), Array.getElem?_setIfInBounds_ne (by omega), c4]
            | i + 5, hu => simp at hu
        · exact HWr.out.trans (HW3.out.trans ((HW4.out.mono (by omega) (by omega)).trans (HW5.out.mono (by omega) (by omega))))
      case measure => simp [intOf]; omega
    · obtain rfl : j = xs.length := by omega
      obtain ⟨e1, e2⟩ := HMr.out.end_ rfl
      have HQ := Lib.hid (show MarkD (OKept d) 35 lo hi w (.slice A xs.length cap) (markL (mkKep d) xs k).1 (markL (mkKep d) xs k).2 (.returned (.int .i64 kj)) wr from ⟨by rw [e2], by rw [← e1]; simpa using HOr.out, HWr.out⟩)
      clear e1 e2
      go_wp2
      go_ret
      exact HQ.out

set_option maxRecDepth 100000 in
set_option maxHeartbeats 4000000 in
theorem held_kept (d : Nat) : HeldRow5 (Cod.kept (Cod.val d)) 31 (mkKep d) := by
  intro F k v xs w h hF h0 h1
  have HO := Lib.hid h
  have HM := Lib.hid (MarkAt.start (mkKep d) xs k)
  obtain ⟨A, cap, rfl, hlc, hcm, hx_⟩ := h
  clear hx_
  unfold maxLen at hcm
  rw [markL_length] at hlc HO ⊢
  go_enter Try.func31, Try.ntmps31
  go_wp2
  go_loopw [5, 1] (fun i kk wr => ∃ (j kj : Nat) (done : List KepR), j ≤ xs.length ∧ i = .int .i64 j ∧ kk = .int .i64 kj ∧ 0 < kj ∧ Hid (MarkAt (mkKep d) xs k done j kj) ∧ Hid (Below w.heap.size w wr)) (fun i _ _ => xs.length - (intOf i).toNat)
  case atStart => exact ⟨0, k, [], Nat.zero_le _, rfl, rfl, h0, HM, Below.refl _ _⟩
  case round =>
    obtain ⟨j, kj, done, hj, rfl, rfl, hk0, HMr, HBe⟩ := hrel
    by_cases hlt : j < xs.length
    · have hst := HMr.out.step hlt
      have hroom2 := hst.room (mkKep_le d)
      obtain ⟨hh, hg⟩ := HMr.out.nth hlt
      have hle := mkKep_ge d xs[j] kj
      have HOr := Lib.hid (HO.out.keep (below_keeps HBe.out hF))
      obtain ⟨b, off, cap', Aa, ca, Ab, cb, hv, hFb, _, _, hc0, hc1, hc2, hc3, hc4, -, hV⟩ := HOr.out.kept_at hh
      rw [hg] at hc0 hc1 hc2 hc3 hc4 hV
      rw [markL_length] at hv
      obtain ⟨rfl, rfl⟩ : A = some ⟨b, off, none⟩ ∧ cap = cap' := by simpa using hv
      have l1 : (mkKep d xs[j] kj).1.v.parts.length = xs[j].v.parts.length := markL_length _ _ _
      have l2 : (mkKep d xs[j] kj).1.v.path.length = xs[j].v.path.length := markL_length _ _ _
      rw [l1] at hc3 hV
      rw [l2] at hc4 hV
      have d0 : wr.cell? ⟨b, off + j * 5, none⟩ = some (.int .i64 kj) := hc0
      have d1 : wr.cell? ⟨b, off + j * 5 + 1, none⟩ = some (.string (mt (kj + 1))) := hc1
      have d2 : wr.cell? ⟨b, off + j * 5 + 2, none⟩ = some (.int .i64 ((kj : Int) + 1 + 1)) := by
        rw [show (kj : Int) + 1 + 1 = ((kj + 2 : Nat) : Int) by omega]; exact hc2
      obtain ⟨_, _, hpe, hpe1, hpe2, hpe3⟩ := hV.parts
      obtain ⟨_, _, hqe, hqe1, hqe2, hqe3⟩ := hV.path
      simp only [Value.slice.injEq] at hpe hqe
      obtain ⟨rfl, hz1, rfl⟩ := hpe
      obtain ⟨rfl, hz2, rfl⟩ := hqe
      clear hpe3 hqe3 hz1 hz2
      rw [l1] at hpe1
      rw [l2] at hqe1
      unfold maxLen at hpe2 hqe2
      have hk1 : kj + 3 ≤ 100000000 := by omega
      have hk2 : (markL (mkV d) xs[j].v.parts (kj + 3)).2 ≤ 100000000 := by omega
      have hk3 : (markL mkI xs[j].v.path (markL (mkV d) xs[j].v.parts (kj + 3)).2).2 ≤ 100000000 := Nat.le_trans hroom2 h1
      have hkp : 0 < (markL (mkV d) xs[j].v.parts (kj + 3)).2 := by omega
      have hFr : ∀ b, F b → b < wr.heap.size := fun b hb => Nat.lt_of_lt_of_le (hF b hb) HBe.out.size
      have hbl := hFr b hFb
      have HV := Lib.hid hV
      have Hst := Lib.hid hst
      have HFr := Lib.hid hFr
      have hT := markText_any (kj + 1) wr.drew (by omega) (by omega)
      rw [show ((kj + 1 : Nat) : Int) = (kj : Int) + 1 by omega] at hT
      have HT := Lib.hid hT
      have hbd : b < wr.drew.heap.size := hbl
      have HBd := Lib.hid (show Below w.heap.size w wr.drew from HBe.out.drew)
      clear hv hc0 hc1 hc2 hst hg hV hFr hroom2 hle hT
      go_wp2_with fail
      go_region_with (go_at_call 62; (with_reducible refine HT.out.mono ?_); rintro e w1 ⟨rfl, hb1⟩; go_must (have HB1 := Lib.hid hb1; have y1 : w1.cell? ⟨b, off + j * 5 + 1, none⟩ = some (.string (mt (kj + 1))) := (hb1.cell (p := ⟨b, off + j * 5 + 1, none⟩) hbd).trans d1; have y2 : w1.cell? ⟨b, off + j * 5 + 2, none⟩ = some (.int .i64 ((kj : Int) + 1 + 1)) := (hb1.cell (p := ⟨b, off + j * 5 + 2, none⟩) hbd).trans d2; have y3 : w1.cell? ⟨b, off + j * 5 + 3, none⟩ = some (.slice Aa xs[j].v.parts.length ca) := (hb1.cell (p := ⟨b, off + j * 5 + 3, none⟩) hbd).trans hc3; have y4 : w1.cell? ⟨b, off + j * 5 + 4, none⟩ = some (.slice Ab xs[j].v.path.length cb) := (hb1.cell (p := ⟨b, off + j * 5 + 4, none⟩) hbd).trans hc4; clear hb1))
      all_goals
        have HE1 := Lib.hid (HBd.out.trans (HB1.out.mono HBd.out.size))
        have HV1 := Lib.hid ((HV.out.drew).keep (w' := w1) (fun b hb => HB1.out.block b (HFr.out b hb)))
        have HF1 := Lib.hid (show ∀ b, F b → b < w1.heap.size from fun b hb => Nat.lt_of_lt_of_le (HFr.out b hb) HB1.out.size)
        have hC : Calls Try.prog 65 #[.slice Aa xs[j].v.parts.length ca, .int .i64 ((kj : Int) + 1 + 1 + 1)] w1 fun e w' => e = .returned (.int .i64 (markL (mkV d) xs[j].v.parts (kj + 3)).2) ∧ Below w1.heap.size w1 w' := by
          have := heldValueS_any d F (kj + 3) (.slice Aa xs[j].v.parts.length ca) xs[j].v.parts w1 HV1.out.parts HF1.out (by omega) hk2
          rw [show ((kj + 3 : Nat) : Int) = (kj : Int) + 1 + 1 + 1 by omega] at this
          exact this
        have HC := Lib.hid hC
        clear hC
        go_wp2_with fail
        refine HC.out.mono ?_
        rintro e w2 ⟨rfl, hb2⟩
        have z4 : w2.cell? ⟨b, off + j * 5 + 4, none⟩ = some (.slice Ab xs[j].v.path.length cb) := (hb2.cell (p := ⟨b, off + j * 5 + 4, none⟩) (HF1.out b hFb)).trans y4
        have HC2 := Lib.hid (heldIntS_any F (markL (mkV d) xs[j].v.parts (kj + 3)).2 (.slice Ab xs[j].v.path.length cb) xs[j].v.path w2 (HV1.out.path.keep (below_keeps hb2 HF1.out)) hkp hk3)
        have HE2 := Lib.hid (HE1.out.trans (hb2.mono HE1.out.size))
        clear hb2 HC y1 y2 y3 y4
        go_wp2_with (go_at_call 66; refine HC2.out.mono ?_; rintro e w3 ⟨rfl, rfl⟩)
        go_roundw
        case rel => exact ⟨j + 1, (mkKep d xs[j] kj).2, _, by omega, by go_num, rfl, by have := mkKep_ge d xs[j] kj; omega, Hst, HE2⟩
        case measure => simp [intOf]; omega
    · obtain rfl : j = xs.length := by omega
      obtain ⟨e1, e2⟩ := HMr.out.end_ rfl
      have HQ := Lib.hid e2
      clear e1 e2
      go_wp2
      go_ret
      exact ⟨ret_int (by rw [HQ.out]), HBe.out⟩
end Go.Proofs.Ytemlpiokdoeeeaa
