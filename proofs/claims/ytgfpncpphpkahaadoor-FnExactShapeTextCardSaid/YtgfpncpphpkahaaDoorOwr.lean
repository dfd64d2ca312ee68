/- Kinds of a call's own: marked. -/
import Derived.Test.YtgfpncpphpkahaaDoorOwp
namespace Go.Proofs.YtgfpncpphpkahaaDoor
open Go.RowKit

def mkR (r : Rec) (k : Nat) : Rec × Nat := (⟨(k : Int), (markL mkS r.fields (k + 1)).1⟩, (markL mkS r.fields (k + 1)).2)
def mkRS (rs : List Rec) (k : Nat) : List Rec × Nat := markL mkR rs k
theorem mkS_le (x : ByteArray) (k : Nat) : k ≤ (mkS x k).2 := Nat.le_succ k
theorem mkR_le (x : Rec) (k : Nat) : k ≤ (mkR x k).2 := by have := markL_le mkS_le x.fields (k + 1); show k ≤ (markL mkS x.fields (k + 1)).2; omega
theorem mkRS_le (x : List Rec) (k : Nat) : k ≤ (mkRS x k).2 := markL_le mkR_le x k

set_option maxRecDepth 100000 in
set_option maxHeartbeats 2000000 in
theorem markRecordS_any (lo hi k : Nat) (v : Value) (xs : List Rec) (w : World) (h : Own (OCod.rec_ 9) 113 lo hi w v xs) (hhi : hi ≤ w.heap.size) (h0 : 0 < k) (h1 : (markL mkR xs k).2 ≤ 100000000) :
    Calls Tryd.prog 32 #[v, .int .i64 k] w (MarkD (OCod.rec_ 9) 113 lo hi w v (markL mkR xs k).1 (markL mkR xs k).2) := by
  have HO := Lib.hid h
  have HM := Lib.hid (MarkAt.start mkR xs k)
  obtain ⟨A, cap, rfl, hlc, hcm⟩ := h.len_
  unfold maxLen at hcm
  clear h
  go_enter Tryd.func32, Tryd.ntmps32
  go_wp2
  go_loopw [5, 1] (fun i kk wr => ∃ (j kj : Nat) (done : List Rec), j ≤ xs.length ∧ i = .int .i64 j ∧ kk = .int .i64 kj ∧ 0 < kj ∧ Hid (MarkAt mkR xs k done j kj) ∧ Hid (Own (OCod.rec_ 9) 113 lo hi wr (.slice A xs.length cap) (done ++ xs.drop j)) ∧ Hid (Wrote lo hi w wr)) (fun i _ _ => xs.length - (intOf i).toNat)
  case atStart => exact ⟨0, k, [], Nat.zero_le _, rfl, rfl, h0, HM, HO, Wrote.refl _ _ _⟩
  case round =>
    obtain ⟨j, kj, done, hj, rfl, rfl, hk0, HMr, HOr, HWr⟩ := hrel
    by_cases hlt : j < xs.length
    · have hst := HMr.out.step hlt
      have hroom2 := hst.room mkR_le
      have hg := HMr.out.get_ hlt
      have hl := HMr.out.len hj
      obtain ⟨b, cap', cs, p, q, ds, hv, _, _, hb1, hb2, hB, hp, hq, hpq, hcell, hrd, hup⟩ := HOr.out.at hg.1
      rw [hg.2 hg.1] at hrd
      have hsz : (OCod.rec_ 9).cod.size = 2 := rfl
      rw [hsz] at hcell hup
      obtain ⟨a, rfl, hn, hOp⟩ := hrd
      rw [hl] at hv
      obtain ⟨rfl, rfl⟩ : A = some ⟨b, 0, none⟩ ∧ cap = cap' := by simpa using hv
      obtain ⟨Aa, ca, rfl, ha1, ha2⟩ := hOp.len_
      unfold maxLen at ha2
      have c0 : cs[j * 2]? = some (.int .i64 xs[j].able) := hcell 0 _ rfl
      have c1 := hcell 1 _ rfl
      have hjc : j * 2 + 1 < cs.size := (Array.getElem?_eq_some_iff.1 c1).1
      have hle := markL_le mkS_le xs[j].fields (kj + 1)
      have hk2 : (markL mkS xs[j].fields (kj + 1)).2 ≤ 100000000 := Nat.le_trans hroom2 h1
      have Hup := Lib.hid hup
      have HB := Lib.hid hB
      have Hst := Lib.hid hst
      have hsw := HWr.out.size
      have hbl : b < wr.heap.size := by omega
      have hd0 := hB.cell (j * 2)
      rw [c0] at hd0
      have hf0 := hB.frozen (j * 2)
      have hB3 := hB.set_ (j * 2) (.int .i64 kj)
      have hd2 := hB3.cell (j * 2 + 1)
      rw [Array.getElem?_setIfInBounds_ne (by omega), c1] at hd2
      obtain ⟨w3, hw3⟩ : ∃ w3, w3 = wr.setCell ⟨b, j * 2, none⟩ (.int .i64 kj) := ⟨_, rfl⟩
      have hk3' : ∀ b', b' ≠ b → w3.heap[b']? = wr.heap[b']? := fun b' g2 => by
        rw [hw3, Below.heap_setCell _ _ _ _ (by simp; omega)]
      have hs3 : wr.heap.size ≤ w3.heap.size := by rw [hw3]; simp [World.setCell]
      have hB3' : Blk w3 b 113 (cs.setIfInBounds (j * 2) (.int .i64 kj)) := by rw [hw3]; exact hB3
      have hOp3 : Own OCod.str 9 p q w3 (.slice Aa xs[j].fields.length ca) xs[j].fields := hOp.keep fun b' g1 g2 => hk3' b' (by omega)
      have hC : Calls Tryd.prog 70 #[.slice Aa xs[j].fields.length ca, .int .i64 ((kj : Int) + 1)] w3 (MarkD OCod.str 9 p q w3 (.slice Aa xs[j].fields.length ca) (markL mkS xs[j].fields (kj + 1)).1 (markL mkS xs[j].fields (kj + 1)).2) :=
        markStringS_any p q (kj + 1) _ xs[j].fields w3 hOp3 (by omega) (by omega) hk2
      have hW3 : Wrote lo hi wr w3 := by rw [hw3]; exact Wrote.set_ hb1 hb2 _
      have HK3 := Lib.hid hk3'
      have HBv := Lib.hid hB3'
      have HW3 := Lib.hid hW3
      have HC := Lib.hid hC
      clear hv hB hcell hup hst hg hl hOp hB3 hk3' hB3' hOp3 hC hW3 hroom2
      go_wp2_with fail
      rw [← hw3]
      refine HC.out.mono ?_
      rintro e w4 ⟨rfl, hO4, hW4⟩
      have hs4 := hW4.size
      have HO4 := Lib.hid hO4
      have HW4 := Lib.hid hW4
      clear hO4 hW4 HC hd0 hf0 hd2
      go_wp2
      go_roundw
      case rel =>
        refine ⟨j + 1, (mkR xs[j] kj).2, done ++ [(mkR xs[j] kj).1], by omega, by go_num, rfl, by show 0 < (markL mkS xs[j].fields (kj + 1)).2; omega, Hst, ?_, ?_⟩
        · have hB5 : Blk w4 b 113 (cs.setIfInBounds (j * 2) (.int .i64 kj)) := (HW4.out.block b (by omega) (by omega)).trans HBv.out
          have := Hup.out w4 _ [.int .i64 kj, .slice Aa xs[j].fields.length ca] (mkR xs[j] kj).1 hB5
            (fun i hi => by rw [Array.getElem?_setIfInBounds_ne (by omega)])
            (fun i u hu => ?_) ⟨_, rfl, by show I64 (kj : Int); unfold I64; omega, HO4.out⟩
            (fun b' g1 g2 g3 g4 => (HW4.out.block b' (by omega) (by omega)).trans (HK3.out b' g4))
          · rw [HMr.out.set_ hlt] at this
            exact this
          · match i, hu with
            | 0, hu => simp at hu; subst hu; show (cs.setIfInBounds (j * 2) _)[j * 2]? = _; rw [Array.getElem?_setIfInBounds_self_of_lt (by omega)]
            | 1, hu => simp at hu; subst hu; rw [Array.getElem?_setIfInBounds_ne (by omega), c1]
            | i + 2, hu => simp at hu
        · exact HWr.out.trans (HW3.out.trans (HW4.out.mono (by omega) (by omega)))
      case measure => simp [intOf]; omega
    · obtain rfl : j = xs.length := by omega
      obtain ⟨e1, e2⟩ := HMr.out.end_ rfl
      have HQ := Lib.hid (show MarkD (OCod.rec_ 9) 113 lo hi w (.slice A xs.length cap) (markL mkR xs k).1 (markL mkR xs k).2 (.returned (.int .i64 kj)) wr from ⟨by rw [e2], by rw [← e1]; simpa using HOr.out, HWr.out⟩)
      clear e1 e2
      go_wp2
      go_ret
      exact HQ.out

end Go.Proofs.YtgfpncpphpkahaaDoor
