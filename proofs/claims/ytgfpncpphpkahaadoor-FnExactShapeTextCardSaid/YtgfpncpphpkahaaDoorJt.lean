/- The functions that copy arguments, at marks and shapes: what they hand back is the call's own. -/
import Derived.Test.YtgfpncpphpkahaaDoorJz
import Derived.Test.YtgfpncpphpkahaaDoorGt
namespace Go.Proofs.YtgfpncpphpkahaaDoor
open Go.RowKit


theorem info_markr : (Tryd.prog.info? 65).map (fun i => (i.zero, i.size, i.bytes)) = some (some (.agg #[.string ⟨#[]⟩, .slice none 0 0]), 2, 40) := by kernel_rfl
def ToMarkrD (x : MarkR) (w : World) (e : Ending) (w' : World) : Prop := ∃ A1' c1', e = .returned (.agg #[.string x.ty, .slice A1' x.fr.length c1']) ∧ MarkRo w.heap.size w'.heap.size w' (.slice A1' x.fr.length c1') x ∧ Below w.heap.size w w'

set_option maxRecDepth 100000 in
set_option maxHeartbeats 2000000 in
theorem toMarkr_one (F : Nat → Prop) (A1 : Option Addr) (n1 c1 : Nat) (x : MarkR) (w : World) (h : MarkRd F w (.slice A1 n1 c1) x) (hF : ∀ b, F b → b < w.heap.size) (hsm : SmolMarkr x) :
    Calls Tryd.prog 76 #[.agg #[.string x.ty, .slice A1 n1 c1]] w (ToMarkrD x w) := by
  obtain ⟨w0, hw0⟩ : ∃ w0, w0 = ((w.alloc (.cells #[.string x.ty, .slice A1 n1 c1] 118)).alloc (.cells #[.string ⟨#[]⟩, .slice none 0 0] 65)).alloc (.cells #[.string x.ty, .slice none 0 0] 65) := ⟨_, rfl⟩
  have hs0 : w0.heap.size = w.heap.size + 3 := by rw [hw0]; simp
  have HP0 := Lib.hid (show Blk w0 w.heap.size 118 #[.string x.ty, .slice A1 n1 c1] by rw [hw0]; exact ((Blk.new w _ _).alloc _).alloc _)
  have HR0 := Lib.hid (show Blk w0 (w.heap.size + 1) 65 #[.string ⟨#[]⟩, .slice none 0 0] by rw [hw0]; have := (Blk.new (w.alloc (.cells #[.string x.ty, .slice A1 n1 c1] 118)) 65 #[.string ⟨#[]⟩, .slice none 0 0]).alloc (.cells #[.string x.ty, .slice none 0 0] 65); simpa using this)
  have HO0 := Lib.hid (show Blk w0 (w.heap.size + 1 + 1) 65 #[.string x.ty, .slice none 0 0] by rw [hw0]; have := Blk.new ((w.alloc (.cells #[.string x.ty, .slice A1 n1 c1] 118)).alloc (.cells #[.string ⟨#[]⟩, .slice none 0 0] 65)) 65 #[.string x.ty, .slice none 0 0]; simpa using this)
  have HW0 := Lib.hid (show Below w.heap.size w w0 by rw [hw0]; exact (((Below.refl _ _).alloc (Nat.le_refl _) _).alloc (by simp) _).alloc (by simp; omega) _)
  have HV := Lib.hid h
  have HF := Lib.hid hF
  have Hw0 := Lib.hid hw0
  have Hs0 := Lib.hid hs0
  have HSm := Lib.hid hsm
  clear h hF hw0 hs0 hsm
  go_enter Tryd.func76, Tryd.ntmps76
  have hB0 := HW0.out
  have HC0 := Lib.hid (to_i64 F _ x.fr w0 (HV.out.fr.keep (below_keeps hB0 HF.out)) (fun b hb => Nat.lt_of_lt_of_le (HF.out b hb) hB0.size) (HSm.out) (fun _ _ => trivial))
  clear hB0
  go_wp2_with fail
  rw [← Hw0.out]
  refine HC0.out.mono ?_
  rintro e w1 ⟨A1', c1', rfl, hM1⟩
  have hsz0 := HW0.out.size
  have hz0 := Hs0.out
  have hs1 := hM1.2.size
  obtain ⟨wE, hwE⟩ : ∃ wE, wE = ((w1.setCell ⟨w.heap.size + 1 + 1, 1, none⟩ (.slice A1' x.fr.length c1')).setCell ⟨w.heap.size + 1, 0, none⟩ (.string x.ty)).setCell ⟨w.heap.size + 1, 1, none⟩ (.slice A1' x.fr.length c1') := ⟨_, rfl⟩
  have hP := HP0.out.below hM1.2 (by omega)
  have hR := HR0.out.below hM1.2 (by omega)
  have hO := HO0.out.below hM1.2 (by omega)
  obtain ⟨x0, x1⟩ := hR.g2
  obtain ⟨y0, y1⟩ := hR.h2
  obtain ⟨z0, z1⟩ := hO.g2
  obtain ⟨t0, t1⟩ := hO.h2
  have HRE := Lib.hid (show Blk wE (w.heap.size + 1) 65 #[.string x.ty, .slice A1' x.fr.length c1'] by rw [hwE]; exact (((hR.far (p := ⟨w.heap.size + 1 + 1, 1, none⟩) (by simp) (.slice A1' x.fr.length c1')).set_ 0 (.string x.ty)).set_ 1 (.slice A1' x.fr.length c1')))
  have hkE : ∀ b, b ≠ w.heap.size + 1 → b ≠ w.heap.size + 1 + 1 → wE.heap[b]? = w1.heap[b]? := fun b h1 h2 => by rw [hwE, Below.heap_setCell _ _ _ _ h1, Below.heap_setCell _ _ _ _ h1, Below.heap_setCell _ _ _ _ h2]
  have hsE : wE.heap.size = w1.heap.size := by rw [hwE]; simp [World.setCell]
  have HWE := Lib.hid (show Below w.heap.size w wE from by rw [hwE]; exact ((((HW0.out.trans (hM1.2.mono hsz0)).setCell (by simp; omega) _).setCell (by simp) _).setCell (by simp) _))
  have HX1_1 := Lib.hid (hM1.1.keep (w' := wE) fun b g1 g2 => hkE b (by omega) (by omega))
  have HQ := Lib.hid (show ToMarkrD x w (.returned (.agg #[.string x.ty, .slice A1' x.fr.length c1'])) wE from ⟨A1', c1', rfl, ⟨HV.out.ty, HX1_1.out.mono (by omega) (by omega)⟩, HWE.out⟩)
  have HwE := Lib.hid hwE
  clear hM1 hwE hkE hP hR hO HC0
  go_wp2
  rw [← HwE.out]
  obtain ⟨r0, r1⟩ := HRE.out.g2
  exact bodyPost_ret (v := .agg #[.string x.ty, .slice A1' x.fr.length c1']) (by simp [results, Tryd.results76, go_sem, r0, r1]) rfl HQ.out

set_option maxRecDepth 100000 in
set_option maxHeartbeats 2000000 in
theorem to_markr : ToRow OCod.markr 65 39 SmolMarkr := by
  intro F v xs w h hF hn hm
  have HS : Hid (Cod.markr.Sl F w v xs) := Lib.hid h
  have Hm := Lib.hid hm
  clear hm
  obtain ⟨A, cap, rfl, hlc, hcm, _⟩ := h
  unfold maxLen at hcm
  have hmk := make_len (P := Tryd.prog) 24 65 _ 2 40 Tryd.underlying24 info_markr (by omega) xs.length hn
  go_enter Tryd.func39, Tryd.ntmps39
  go_wp2
  go_loopw [4] (fun i wr => ∃ (k : Nat) (cs : Array Value), k ≤ xs.length ∧ i = .int .i64 k ∧ Blk wr w.heap.size 65 cs ∧ cs.size = xs.length * 2 ∧ OPart OCod.markr w.heap.size wr cs k xs ∧ Below w.heap.size w wr) (fun i _ => xs.length - (intOf i).toNat)
  case atStart => exact ⟨0, _, Nat.zero_le _, rfl, Blk.new _ _ _, by simp [madeCells], OPart.zero (by simp), (Below.refl _ _).alloc (Nat.le_refl _) _⟩
  case round =>
    obtain ⟨k, cs, hk, rfl, HB, hsz, HP, hb⟩ := hrel
    have HBl := HB.lt
    by_cases hlt : k < xs.length
    · have HSr := Lib.hid (HS.out.keep (below_keeps hb hF))
      obtain ⟨b, off, cap', A1, c1, hv, hFb, _, _, hc0, hc1, hV⟩ := HSr.out.markr_at hlt
      obtain ⟨rfl, rfl⟩ : A = some ⟨b, off, none⟩ ∧ cap = cap' := by simpa using hv
      have HB' := Lib.hid HB
      have HP' := Lib.hid HP
      have Hsz := Lib.hid hsz
      have hws := hb.size
      have HC := Lib.hid (toMarkr_one F _ _ _ xs[k] wr hV (fun b hb' => Nat.lt_of_lt_of_le (hF b hb') hws) (Hm.out xs[k] (List.getElem_mem hlt)))
      clear hv HB HP hsz hmk hV
      go_wp2_with fail
      refine HC.out.mono ?_
      rintro e w1 ⟨A1', c1', rfl, hO, hbl⟩
      have HB1 := HB'.out.below hbl HBl
      obtain ⟨d0, hd0⟩ := HB1.holds Hsz.out (i := k * 2) (by omega)
      have hf0 := HB1.frozen (k * 2)
      obtain ⟨d1, hd1⟩ := HB1.holds Hsz.out (i := k * 2 + 1) (by omega)
      have hf1 := HB1.frozen (k * 2 + 1)
      have HBB := Lib.hid HB1
      have hw1 := hbl.size
      have HO := Lib.hid hO
      have HBe := Lib.hid hbl
      clear HB1 hO hbl HC
      go_wp2
      go_roundw
      case rel =>
        obtain ⟨wE, hwE⟩ : ∃ wE, wE = ((w1).setCell ⟨w.heap.size, k * 2, none⟩ (.string xs[k].ty)).setCell ⟨w.heap.size, k * 2 + 1, none⟩ (.slice A1' xs[k].fr.length c1') := ⟨_, rfl⟩
        rw [← hwE]
        have hk1 : ∀ b, w.heap.size < b → wE.heap[b]? = w1.heap[b]? := fun b hb' => by
          rw [hwE, Below.heap_setCell _ _ _ _ (by simp; omega), Below.heap_setCell _ _ _ _ (by simp; omega)]
        have hse : wE.heap.size = w1.heap.size := by rw [hwE]; simp [World.setCell]
        refine ⟨k + 1, _, by omega, by go_num, by rw [hwE]; exact (HBB.out.set_ _ _).set_ _ _, by simp only [Array.size_setIfInBounds]; exact Hsz.out, ?_, ?_⟩
        · refine HP'.out.next (news := [.string xs[k].ty, .slice A1' xs[k].fr.length c1']) hlt (fun i h1 h2 => (hk1 i h1).trans (HBe.out.block i h2)) (by rw [hse]; exact hw1)
            (fun i hi => by
              have hi' : i < k * 2 := hi
              simp only [Array.getElem?_setIfInBounds]
              rw [if_neg (by omega), if_neg (by omega)]) (fun j u hu => ?_)
            ⟨_, rfl, (HO.out.keep fun b g1 g2 => hk1 b (by omega)).mono (Nat.le_refl _) (by omega)⟩
          show _[k * 2 + j]? = _
          have hsz2 := Hsz.out
          match j, hu with
          | 0, hu => simp at hu; subst hu; simp [Array.getElem?_setIfInBounds]; omega
          | 1, hu => simp at hu; subst hu; simp [Array.getElem?_setIfInBounds]; omega
          | j + 2, hu => simp at hu
        · rw [hwE]; exact (((hb.trans (HBe.out.mono hws)).setCell (by simp) _).setCell (by simp) _)
      case measure => simp [intOf]; omega
    · obtain rfl : k = xs.length := by omega
      have HM : MadeO OCod.markr 65 w wr (.slice (some ⟨w.heap.size, 0, none⟩) xs.length xs.length) xs := ⟨HP.own HB (Nat.le_refl _) (Nat.le_refl _) (by unfold maxLen; omega), hb⟩
      clear hmk HB HP
      go_wp2
      go_ret
      exact ⟨_, _, rfl, HM⟩
theorem info_shaper : (Tryd.prog.info? 26).map (fun i => (i.zero, i.size, i.bytes)) = some (some (.agg #[.slice none 0 0, .slice none 0 0]), 2, 48) := by kernel_rfl
def ToShaperD (x : ShapeR) (w : World) (e : Ending) (w' : World) : Prop := ∃ A0' c0' A1' c1', e = .returned (.agg #[.slice A0' x.stack.length c0', .slice A1' x.places.length c1']) ∧ ShapeRo w.heap.size w'.heap.size w' (.slice A0' x.stack.length c0') (.slice A1' x.places.length c1') x ∧ Below w.heap.size w w'

set_option maxRecDepth 100000 in
set_option maxHeartbeats 2000000 in
theorem toShaper_one (F : Nat → Prop) (A0 A1 : Option Addr) (n0 c0 n1 c1 : Nat) (x : ShapeR) (w : World) (h : ShapeRd F w (.slice A0 n0 c0) (.slice A1 n1 c1) x) (hF : ∀ b, F b → b < w.heap.size) (hsm : SmolShaper x) :
    Calls Tryd.prog 17 #[.agg #[.slice A0 n0 c0, .slice A1 n1 c1]] w (ToShaperD x w) := by
  obtain ⟨w0, hw0⟩ : ∃ w0, w0 = ((w.alloc (.cells #[.slice A0 n0 c0, .slice A1 n1 c1] 38)).alloc (.cells #[.slice none 0 0, .slice none 0 0] 26)).alloc (.cells #[.slice none 0 0, .slice none 0 0] 26) := ⟨_, rfl⟩
  have hs0 : w0.heap.size = w.heap.size + 3 := by rw [hw0]; simp
  have HP0 := Lib.hid (show Blk w0 w.heap.size 38 #[.slice A0 n0 c0, .slice A1 n1 c1] by rw [hw0]; exact ((Blk.new w _ _).alloc _).alloc _)
  have HR0 := Lib.hid (show Blk w0 (w.heap.size + 1) 26 #[.slice none 0 0, .slice none 0 0] by rw [hw0]; have := (Blk.new (w.alloc (.cells #[.slice A0 n0 c0, .slice A1 n1 c1] 38)) 26 #[.slice none 0 0, .slice none 0 0]).alloc (.cells #[.slice none 0 0, .slice none 0 0] 26); simpa using this)
  have HO0 := Lib.hid (show Blk w0 (w.heap.size + 1 + 1) 26 #[.slice none 0 0, .slice none 0 0] by rw [hw0]; have := Blk.new ((w.alloc (.cells #[.slice A0 n0 c0, .slice A1 n1 c1] 38)).alloc (.cells #[.slice none 0 0, .slice none 0 0] 26)) 26 #[.slice none 0 0, .slice none 0 0]; simpa using this)
  have HW0 := Lib.hid (show Below w.heap.size w w0 by rw [hw0]; exact (((Below.refl _ _).alloc (Nat.le_refl _) _).alloc (by simp) _).alloc (by simp; omega) _)
  have HV := Lib.hid h
  have HF := Lib.hid hF
  have Hw0 := Lib.hid hw0
  have Hs0 := Lib.hid hs0
  have HSm := Lib.hid hsm
  clear h hF hw0 hs0 hsm
  go_enter Tryd.func17, Tryd.ntmps17
  have hB0 := HW0.out
  have HC0 := Lib.hid (to_markr F _ x.stack w0 (HV.out.stack.keep (below_keeps hB0 HF.out)) (fun b hb => Nat.lt_of_lt_of_le (HF.out b hb) hB0.size) (HSm.out.1) (HSm.out.2.2.1))
  clear hB0
  go_wp2_with fail
  rw [← Hw0.out]
  refine HC0.out.mono ?_
  rintro e w1 ⟨A0', c0', rfl, hM1⟩
  have hsz0 := HW0.out.size
  have hz0 := Hs0.out
  have hs1 := hM1.2.size
  obtain ⟨p1_0, p1_1⟩ := (HP0.out.below hM1.2 (by omega)).g2
  obtain ⟨o1_0, o1_1⟩ := (HO0.out.below hM1.2 (by omega)).g2
  obtain ⟨f1_0, f1_1⟩ := (HO0.out.below hM1.2 (by omega)).h2
  obtain ⟨u1, hu1⟩ : ∃ u, u = w1.setCell ⟨w.heap.size + 1 + 1, 0, none⟩ (.slice A0' x.stack.length c0') := ⟨_, rfl⟩
  have hus1 : u1.heap.size = w1.heap.size := by rw [hu1]; simp [World.setCell]
  have hk1 : ∀ b, b ≠ w.heap.size + 1 + 1 → u1.heap[b]? = w1.heap[b]? := fun b hb => by rw [hu1, Below.heap_setCell _ _ _ _ (by simp; omega)]
  have HP1 := Lib.hid (show Blk u1 w.heap.size 38 #[.slice A0 n0 c0, .slice A1 n1 c1] from (hk1 _ (by omega)).trans (HP0.out.below hM1.2 (by omega)))
  have HR1 := Lib.hid (show Blk u1 (w.heap.size + 1) 26 #[.slice none 0 0, .slice none 0 0] from (hk1 _ (by omega)).trans (HR0.out.below hM1.2 (by omega)))
  have HO1 := Lib.hid (show Blk u1 (w.heap.size + 1 + 1) 26 #[.slice A0' x.stack.length c0', .slice none 0 0] from by rw [hu1]; exact (HO0.out.below hM1.2 (by omega)).set_ 0 _)
  have HW1 := Lib.hid (show Below w.heap.size w u1 from by rw [hu1]; exact (HW0.out.trans (hM1.2.mono hsz0)).setCell (by simp; omega) _)
  have Hs1 := Lib.hid (show w.heap.size + 3 ≤ u1.heap.size by omega)
  have HX0_1 := Lib.hid (hM1.1.keep (w' := u1) fun b g1 g2 => hk1 b (by omega))
  have Hu1 := Lib.hid hu1
  clear hM1 hu1 hk1 HC0
  have hB1 := HW1.out
  have HC1 := Lib.hid (to_markr F _ x.places u1 (HV.out.places.keep (below_keeps hB1 HF.out)) (fun b hb => Nat.lt_of_lt_of_le (HF.out b hb) hB1.size) (HSm.out.2.1) (HSm.out.2.2.2))
  clear hB1
  go_wp2_with fail
  rw [← Hu1.out]
  refine HC1.out.mono ?_
  rintro e w2 ⟨A1', c1', rfl, hM2⟩
  clear p1_0 p1_1 o1_0 o1_1 f1_0 f1_1
  have hsz1 := HW1.out.size
  have hz1 := Hs1.out
  have hs2 := hM2.2.size
  obtain ⟨wE, hwE⟩ : ∃ wE, wE = ((w2.setCell ⟨w.heap.size + 1 + 1, 1, none⟩ (.slice A1' x.places.length c1')).setCell ⟨w.heap.size + 1, 0, none⟩ (.slice A0' x.stack.length c0')).setCell ⟨w.heap.size + 1, 1, none⟩ (.slice A1' x.places.length c1') := ⟨_, rfl⟩
  have hP := HP1.out.below hM2.2 (by omega)
  have hR := HR1.out.below hM2.2 (by omega)
  have hO := HO1.out.below hM2.2 (by omega)
  obtain ⟨x0, x1⟩ := hR.g2
  obtain ⟨y0, y1⟩ := hR.h2
  obtain ⟨z0, z1⟩ := hO.g2
  obtain ⟨t0, t1⟩ := hO.h2
  have HRE := Lib.hid (show Blk wE (w.heap.size + 1) 26 #[.slice A0' x.stack.length c0', .slice A1' x.places.length c1'] by rw [hwE]; exact (((hR.far (p := ⟨w.heap.size + 1 + 1, 1, none⟩) (by simp) (.slice A1' x.places.length c1')).set_ 0 (.slice A0' x.stack.length c0')).set_ 1 (.slice A1' x.places.length c1')))
  have hkE : ∀ b, b ≠ w.heap.size + 1 → b ≠ w.heap.size + 1 + 1 → wE.heap[b]? = w2.heap[b]? := fun b h1 h2 => by rw [hwE, Below.heap_setCell _ _ _ _ h1, Below.heap_setCell _ _ _ _ h1, Below.heap_setCell _ _ _ _ h2]
  have hsE : wE.heap.size = w2.heap.size := by rw [hwE]; simp [World.setCell]
  have HWE := Lib.hid (show Below w.heap.size w wE from by rw [hwE]; exact ((((HW1.out.trans (hM2.2.mono hsz1)).setCell (by simp; omega) _).setCell (by simp) _).setCell (by simp) _))
  have HX1_2 := Lib.hid (hM2.1.keep (w' := wE) fun b g1 g2 => hkE b (by omega) (by omega))
  have HX0_2 := Lib.hid (HX0_1.out.keep (w' := wE) fun b g1 g2 => (hkE b (by omega) (by omega)).trans (hM2.2.block b (by omega)))
  have HQ := Lib.hid (show ToShaperD x w (.returned (.agg #[.slice A0' x.stack.length c0', .slice A1' x.places.length c1'])) wE from ⟨A0', c0', A1', c1', rfl, ⟨u1.heap.size, by omega, by omega, HX0_2.out.mono (by omega) (by omega), HX1_2.out.mono (by omega) (by omega)⟩, HWE.out⟩)
  have HwE := Lib.hid hwE
  clear hM2 hwE hkE hP hR hO HC1
  go_wp2
  rw [← HwE.out]
  obtain ⟨r0, r1⟩ := HRE.out.g2
  exact bodyPost_ret (v := .agg #[.slice A0' x.stack.length c0', .slice A1' x.places.length c1']) (by simp [results, Tryd.results17, go_sem, r0, r1]) rfl HQ.out

end Go.Proofs.YtgfpncpphpkahaaDoor
