/- Marks copied: of the program. -/
import Derived.Test.YtmomdflfjcboiaaDoorGk
import Derived.Test.YtmomdflfjcboiaaDoorJd
namespace Go.Proofs.YtmomdflfjcboiaaDoor
open Go.RowKit

def CopyMD (x : MarkR) (w : World) (e : Ending) (w' : World) : Prop :=
  ∃ A' c', e = .returned (.agg #[.string x.ty, .slice A' x.fr.length c']) ∧ MarkRo w.heap.size w'.heap.size w' (.slice A' x.fr.length c') x ∧ Below w.heap.size w w'

set_option maxRecDepth 100000 in
set_option maxHeartbeats 4000000 in
theorem copyMark_any (F : Nat → Prop) (A1 : Option Addr) (n1 c1 : Nat) (x : MarkR) (w : World) (h : MarkRd F w (.slice A1 n1 c1) x) (hF : ∀ b, F b → b < w.heap.size) (hsm : SmolMarkr x) :
    Calls Tryd.prog 50 #[.agg #[.string x.ty, .slice A1 n1 c1]] w (CopyMD x w) := by
  obtain ⟨w0, hw0⟩ : ∃ w0, w0 = (w.alloc (.cells #[.string x.ty, .slice A1 n1 c1] 57)).alloc (.cells #[.string ⟨#[]⟩, .slice none 0 0] 57) := ⟨_, rfl⟩
  have hb0 : Below w.heap.size w w0 := by rw [hw0]; exact ((Below.refl _ _).alloc (Nat.le_refl _) _).alloc (by simp) _
  have hs0 : w0.heap.size = w.heap.size + 2 := by rw [hw0]; simp
  have HB0 := Lib.hid (show Blk w0.drew w.heap.size 57 #[.string x.ty, .slice A1 n1 c1] from (show Blk w0 _ _ _ by rw [hw0]; exact (Blk.new _ _ _).alloc _))
  have HR0 := Lib.hid (show Blk w0.drew (w.heap.size + 1) 57 #[.string ⟨#[]⟩, .slice none 0 0] from (show Blk w0 _ _ _ by rw [hw0]; have := Blk.new (w.alloc (.cells #[.string x.ty, .slice A1 n1 c1] 57)) 57 #[.string ⟨#[]⟩, .slice none 0 0]; simpa only [World.size_alloc] using this))
  have hV := h.keep (w' := w0.drew) fun b hb => hb0.block b (hF b hb)
  have hm := h.ty
  have Hty := Lib.hid hm
  have HC := Lib.hid (clone_i64 F (.slice A1 n1 c1) x.fr w0.drew hV.fr (fun b hb => by have := hF b hb; show b < w0.heap.size; omega) hsm)
  have HE := Lib.hid (show Below w.heap.size w w0.drew from hb0.drew)
  have hd0 : w.heap.size < w0.drew.heap.size := by show _ < w0.heap.size; omega
  have hd1 : w.heap.size + 1 < w0.drew.heap.size := by show _ < w0.heap.size; omega
  have hl0 : w.heap.size < w0.heap.size := hd0
  have Hs0 := Lib.hid hs0
  have Hw0 := Lib.hid hw0
  obtain ⟨x0, x1⟩ := HB0.out.g2
  have y0 : w0.cell? ⟨w.heap.size, 0, none⟩ = some (.string x.ty) := x0
  have y1 : w0.cell? ⟨w.heap.size, 1, none⟩ = some (.slice A1 n1 c1) := x1
  clear h hF hsm hb0 hs0 hw0 hV hm
  go_enter Tryd.func50, Tryd.ntmps50
  go_upto_region 1 with fail
  rw [← Hw0.out]
  go_region_with (go_at_call 42; (with_reducible refine HC.out.mono ?_); rintro e w1 ⟨A', c', rfl, hM⟩; go_must (obtain ⟨z0, z1⟩ := (HB0.out.below hM.2 hd0).g2; have hR := HR0.out.below hM.2 hd1; obtain ⟨r0, r1⟩ := hR.g2; obtain ⟨f0, f1⟩ := hR.h2; have HR1 := Lib.hid hR; have HM := Lib.hid hM; have hs1 := hM.2.size; clear hM hR))
  all_goals
    obtain ⟨wE, hwE⟩ : ∃ wE, wE = (w1.setCell ⟨w.heap.size + 1, 0, none⟩ (.string x.ty)).setCell ⟨w.heap.size + 1, 1, none⟩ (.slice A' x.fr.length c') := ⟨_, rfl⟩
    have HRE := Lib.hid (show Blk wE (w.heap.size + 1) 57 #[.string x.ty, .slice A' x.fr.length c'] by rw [hwE]; exact (HR1.out.set_ 0 _).set_ 1 _)
    have hkE : ∀ b, b ≠ w.heap.size + 1 → wE.heap[b]? = w1.heap[b]? := fun b h1 => by rw [hwE, Below.heap_setCell _ _ _ _ h1, Below.heap_setCell _ _ _ _ h1]
    have hsE : wE.heap.size = w1.heap.size := by rw [hwE]; simp [World.setCell]
    have hsd : w0.drew.heap.size = w.heap.size + 2 := Hs0.out
    have HQ := Lib.hid (show CopyMD x w (.returned (.agg #[.string x.ty, .slice A' x.fr.length c'])) wE from
      ⟨A', c', rfl, ⟨Hty.out, (HM.out.1.keep fun b g1 g2 => hkE b (by omega)).mono (by omega) (by omega)⟩, by rw [hwE]; exact ((HE.out.trans (HM.out.2.mono HE.out.size)).setCell (by simp) _).setCell (by simp) _⟩)
    have HwE := Lib.hid hwE
    clear hwE hkE hsd hsE
    go_wp2
    rw [← HwE.out]
    obtain ⟨q0, q1⟩ := HRE.out.g2
    exact bodyPost_ret (v := .agg #[.string x.ty, .slice A' x.fr.length c']) (by simp [results, Tryd.results50, go_sem, q0, q1]) rfl HQ.out
/-- Two rows, the first one empty, and a pair of them in a block. -/
def TwoE (t te : TypeId) (C : Array Value) (w0 : World) (m : Nat) (s : Value) (w : World) : Prop := ∃ p g1 g2, s = .pointer (some ⟨p, 0, none⟩) ∧
  Blk w p t #[.slice (some ⟨g1, 0, none⟩) 0 0, .slice (some ⟨g2, 0, none⟩) m m] ∧ Blk w g2 te C ∧ Below w0.heap.size w0 w ∧ w0.heap.size ≤ p ∧ w0.heap.size ≤ g2 ∧ p ≠ g2
def EachMD (ps : List MarkR) (w : World) (e : Ending) (w' : World) : Prop :=
  ∃ a0 A' c', e = .returned (.agg #[.slice a0 0 0, .slice A' ps.length c']) ∧ Own OCod.markr 57 w.heap.size w'.heap.size w' (.slice A' ps.length c') ps ∧ Below w.heap.size w w'

set_option maxRecDepth 100000 in
set_option maxHeartbeats 8000000 in
theorem eachMark_any (F : Nat → Prop) (A0 A1 : Option Addr) (c0 c1 : Nat) (ps : List MarkR) (w : World) (h : Cod.markr.Sl F w (.slice A1 ps.length c1) ps) (hF : ∀ b, F b → b < w.heap.size) (hn1 : ps.length ≤ 2000000) (hsm : ∀ y ∈ ps, SmolMarkr y) :
    Calls Tryd.prog 49 #[.agg #[.slice A0 0 c0, .slice A1 ps.length c1], .func (.func 50) #[] #[]] w (EachMD ps w) := by
  obtain ⟨w0, hw0⟩ : ∃ w0, w0 = (w.alloc (.cells #[.slice A0 0 c0, .slice A1 ps.length c1] 26)).alloc (.cells #[.slice none 0 0, .slice none 0 0] 88) := ⟨_, rfl⟩
  have hb0 : Below w.heap.size w w0 := by rw [hw0]; exact ((Below.refl _ _).alloc (Nat.le_refl _) _).alloc (by simp) _
  have hs0 : w0.heap.size = w.heap.size + 2 := by rw [hw0]; simp
  have HB0 := Lib.hid (show Blk w0 w.heap.size 26 #[.slice A0 0 c0, .slice A1 ps.length c1] by rw [hw0]; exact (Blk.new _ _ _).alloc _)
  have hmk0 : ∀ w : World, (Instr.makeSlice 24 (.int .i64 0) (.int .i64 0)).run Tryd.prog w = .ok (.slice (some ⟨w.heap.size, 0, none⟩) 0 0) (w.alloc (.cells #[] 57)) := fun w => by
    have := make_len (P := Tryd.prog) 24 57 _ 2 40 Tryd.underlying24 info_markr (by omega) 0 (by omega) w
    have e : ∀ z : Array Value, madeCells z (0 * 2) = #[] := fun z => Array.eq_empty_of_size_eq_zero (by simp [madeCells])
    rw [e] at this
    exact this
  have hmk1 := make_len (P := Tryd.prog) 24 57 _ 2 40 Tryd.underlying24 info_markr (by omega) ps.length hn1
  have HR0 := Lib.hid (show Blk w0 (w.heap.size + 1) 88 #[.slice none 0 0, .slice none 0 0] by rw [hw0]; have := Blk.new (w.alloc (.cells #[.slice A0 0 c0, .slice A1 ps.length c1] 26)) 88 #[.slice none 0 0, .slice none 0 0]; simpa only [World.size_alloc] using this)
  obtain ⟨x0, x1⟩ := HB0.out.g2
  have Hw0 := Lib.hid hw0
  have Hs0 := Lib.hid hs0
  have hlt : w.heap.size < w0.heap.size := by omega
  have HV := Lib.hid (h.keep (below_keeps hb0 hF))
  have HF0 := Lib.hid (show ∀ b, F b → b < w0.heap.size from fun b hb => by have := hF b hb; omega)
  have HE := Lib.hid hb0
  have HSm := Lib.hid hsm
  clear hw0 hs0 h hF hb0 hsm
  go_enter Tryd.func49, Tryd.ntmps49
  go_upto_region 1 with fail
  rw [← Hw0.out]
  go_cut [5] from 10 to 18 (fun s5 wx => TwoE 88 57 (madeCells #[.string ⟨#[]⟩, .slice none 0 0] (ps.length * 2)) w0 ps.length s5 wx)
  case first =>
    go_region
    all_goals
      go_wp2
      go_meet
      first
        | exact ⟨w0.heap.size, w0.heap.size + 1, w0.heap.size + 1 + 1, rfl, (three_blocks w0 _ _ _).1, (three_blocks w0 _ _ _).2.2.1, (three_blocks w0 _ _ _).2.2.2, by omega, by omega, by omega⟩
        | exact ⟨w0.heap.size, w0.heap.size + 1 + 1, w0.heap.size + 1, rfl, (three_blocks w0 _ _ _).1, (three_blocks w0 _ _ _).2.1, (three_blocks w0 _ _ _).2.2.2, by omega, by omega, by omega⟩
        | exact ⟨w0.heap.size + 1, w0.heap.size, w0.heap.size + 1 + 1, rfl, (three_blocks w0 _ _ _).2.1, (three_blocks w0 _ _ _).2.2.1, (three_blocks w0 _ _ _).2.2.2, by omega, by omega, by omega⟩
        | exact ⟨w0.heap.size + 1, w0.heap.size + 1 + 1, w0.heap.size, rfl, (three_blocks w0 _ _ _).2.1, (three_blocks w0 _ _ _).1, (three_blocks w0 _ _ _).2.2.2, by omega, by omega, by omega⟩
        | exact ⟨w0.heap.size + 1 + 1, w0.heap.size, w0.heap.size + 1, rfl, (three_blocks w0 _ _ _).2.2.1, (three_blocks w0 _ _ _).2.1, (three_blocks w0 _ _ _).2.2.2, by omega, by omega, by omega⟩
        | exact ⟨w0.heap.size + 1 + 1, w0.heap.size + 1, w0.heap.size, rfl, (three_blocks w0 _ _ _).2.2.1, (three_blocks w0 _ _ _).1, (three_blocks w0 _ _ _).2.2.2, by omega, by omega, by omega⟩
  case rest =>
  obtain ⟨p, g1, g2, rfl, h5, h2, hb, hp, hg2, hne2⟩ := hcut
  have hp' := h5.lt
  have hg2' := h2.lt
  have H5 := Lib.hid h5
  have H2 := Lib.hid h2
  have HBc := Lib.hid hb
  obtain ⟨u0, u1⟩ := (HB0.out.below hb (by omega)).g2
  clear h5 h2 hb x0 x1 hmk0 hmk1
  go_wp2
  go_loopw [22] (fun i wr => i = .int .i64 0 ∧ wc = wr) (fun i _ => 0)
  case atStart => exact ⟨rfl, rfl⟩
  case round =>
  obtain ⟨rfl, hwr⟩ := hrel
  subst hwr
  go_wp2
  go_loopw [38] (fun i wr => ∃ (k : Nat) (cs : Array Value), k ≤ ps.length ∧ i = .int .i64 k ∧ Hid (Blk wr g2 57 cs) ∧ Hid (cs.size = ps.length * 2) ∧ Hid (OPart OCod.markr g2 wr cs k ps) ∧ Hid (Blk wr p 88 #[.slice (some ⟨g1, 0, none⟩) 0 0, .slice (some ⟨g2, 0, none⟩) ps.length ps.length]) ∧ Hid (Below w0.heap.size w0 wr) ∧ wc.heap.size ≤ wr.heap.size) (fun i _ => ps.length - (intOf i).toNat)
  case atStart => exact ⟨0, _, Nat.zero_le _, rfl, H2, Lib.hid (by simp [madeCells]), Lib.hid (OPart.zero hg2'), H5, HBc, Nat.le_refl _⟩
  case round =>
    obtain ⟨k, cs, hk, rfl, HG, HZ, HP, H5r, HBr, hwc⟩ := hrel
    by_cases hlk : k < ps.length
    · have HSr := Lib.hid (HV.out.keep (below_keeps HBr.out HF0.out))
      obtain ⟨b, off, cp, A2, e2, hv, hFb, _, _, hc0, hc1, hV⟩ := HSr.out.markr_at hlk
      obtain ⟨rfl, rfl⟩ : A1 = some ⟨b, off, none⟩ ∧ c1 = cp := by simpa using hv
      have hfb := HF0.out b hFb
      have hss := HBr.out.size
      have i0 : (0 : Int) ≤ k := by omega
      have i1 : (k : Int) < ps.length := by omega
      obtain ⟨wa, hwa⟩ : ∃ wa, wa = (wr.alloc (.cells #[.string ps[k].ty, .slice A2 ps[k].fr.length e2] 57)) := ⟨_, rfl⟩
      have hbr1 : Below wr.heap.size wr wa := by rw [hwa]; exact (Below.refl _ _).alloc (Nat.le_refl _) _
      have hbrd : Below wr.heap.size wr wa.drew := hbr1.drew
      have hsa : wa.heap.size = wr.heap.size + 1 := by rw [hwa]; simp
      have hgl := HG.out.lt
      have hpl := H5r.out.lt
      have HM0 := Lib.hid (show Blk wa wr.heap.size 57 #[.string ps[k].ty, .slice A2 ps[k].fr.length e2] by rw [hwa]; exact Blk.new _ _ _)
      have HG0 := Lib.hid (show Blk wa.drew g2 57 cs from HG.out.below hbrd hgl)
      have H50 := Lib.hid (show Blk wa.drew p 88 #[.slice (some ⟨g1, 0, none⟩) 0 0, .slice (some ⟨g2, 0, none⟩) ps.length ps.length] from H5r.out.below hbrd hpl)
      have HBa := Lib.hid (show Below w0.heap.size w0 wa.drew from (HBr.out.trans (hbr1.mono hss)).drew)
      have HC := Lib.hid (copyMark_any F A2 _ e2 ps[k] wa.drew (hV.keep (w' := wa.drew) (below_keeps hbrd fun b hb => by have := HF0.out b hb; omega)) (fun b hb => by have := HF0.out b hb; show b < wa.heap.size; omega) (HSm.out _ (List.getElem_mem hlk)))
      have Hrd := Lib.hid hbrd
      obtain ⟨z0, z1⟩ := HM0.out.g2
      obtain ⟨y0, y1⟩ := H50.out.g2
      have y0' : wa.cell? ⟨p, 0, none⟩ = some (.slice (some ⟨g1, 0, none⟩) 0 0) := y0
      have y1' : wa.cell? ⟨p, 1, none⟩ = some (.slice (some ⟨g2, 0, none⟩) ps.length ps.length) := y1
      have Hwa := Lib.hid hwa
      have hpd : p < wa.drew.heap.size := by show p < wa.heap.size; omega
      have hgd : g2 < wa.drew.heap.size := by show g2 < wa.heap.size; omega
      have hsd : wa.drew.heap.size = wr.heap.size + 1 := hsa
      clear hv hV hwa hbr1 hbrd hsa
      go_wp2_with fail
      rw [← Hwa.out]
      go_region_with (go_at_call 50; (with_reducible refine HC.out.mono ?_); rintro e w1 ⟨A', c', rfl, hO, hb1⟩; go_must (obtain ⟨q0, q1⟩ := (H50.out.below hb1 hpd).g2; have hG1 := HG0.out.below hb1 hgd; obtain ⟨d0, hd0⟩ := hG1.holds HZ.out (i := k * 2) (by omega); obtain ⟨d1, hd1⟩ := hG1.holds HZ.out (i := k * 2 + 1) (by omega); have hf0 := hG1.frozen (k * 2); have hf1 := hG1.frozen (k * 2 + 1); have HG1 := Lib.hid hG1; have H51 := Lib.hid (H50.out.below hb1 hpd); have HB1 := Lib.hid (HBa.out.trans (hb1.mono HBa.out.size)); have hw1s := hb1.size; have HO := Lib.hid hO; have Hb1 := Lib.hid (Hrd.out.trans (hb1.mono Hrd.out.size)); clear hG1 hb1 hO))
      all_goals
        go_wp2
        go_roundw
        case rel =>
          obtain ⟨wE, hwE⟩ : ∃ wE, wE = (w1.setCell ⟨g2, k * 2, none⟩ (.string ps[k].ty)).setCell ⟨g2, k * 2 + 1, none⟩ (.slice A' ps[k].fr.length c') := ⟨_, rfl⟩
          rw [← hwE]
          have hk1 : ∀ b, b ≠ g2 → wE.heap[b]? = w1.heap[b]? := fun b hb' => by rw [hwE, Below.heap_setCell _ _ _ _ (by simp; omega), Below.heap_setCell _ _ _ _ (by simp; omega)]
          have hse : wE.heap.size = w1.heap.size := by rw [hwE]; simp [World.setCell]
          refine ⟨k + 1, _, by omega, by go_num, Lib.hid (by rw [hwE]; exact (HG1.out.set_ _ _).set_ _ _), Lib.hid (by simp only [Array.size_setIfInBounds]; exact HZ.out), Lib.hid ?_, Lib.hid ((hk1 p (by omega)).trans H51.out), Lib.hid ?_, by omega⟩
          · refine HP.out.next (news := [.string ps[k].ty, .slice A' ps[k].fr.length c']) hlk (fun i h1 h2 => (hk1 i (by omega)).trans (Hb1.out.block i h2)) (by omega)
              (fun i hi => by
                have hi' : i < k * 2 := hi
                simp only [Array.getElem?_setIfInBounds]
                rw [if_neg (by omega), if_neg (by omega)]) (fun j u hu => ?_)
              ⟨_, rfl, (HO.out.keep fun b g3 g4 => hk1 b (by omega)).mono (by omega) (by omega)⟩
            show _[k * 2 + j]? = _
            have hsz2 := HZ.out
            match j, hu with
            | 0, hu => simp at hu; subst hu; simp [Array.getElem?_setIfInBounds]; omega
            | 1, hu => simp at hu; subst hu; simp [Array.getElem?_setIfInBounds]; omega
            | j + 2, hu => simp at hu
          · rw [hwE]; exact (HB1.out.setCell (by simp; omega) _).setCell (by simp; omega) _
        case measure => simp [intOf]; omega
    · obtain rfl : k = ps.length := by omega
      have HOw := Lib.hid (HP.out.own HG.out (Nat.le_refl g2) (Nat.le_refl _) (by unfold maxLen; omega))
      obtain ⟨q0, q1⟩ := H5r.out.g2
      have hR := HR0.out.below HBr.out (by have := Hs0.out; omega)
      obtain ⟨r0, r1⟩ := hR.g2
      obtain ⟨f0, f1⟩ := hR.h2
      have hsr := HBr.out.size
      obtain ⟨wE, hwE⟩ : ∃ wE, wE = (wr.setCell ⟨w.heap.size + 1, 0, none⟩ (.slice (some ⟨g1, 0, none⟩) 0 0)).setCell ⟨w.heap.size + 1, 1, none⟩ (.slice (some ⟨g2, 0, none⟩) ps.length ps.length) := ⟨_, rfl⟩
      have HRE := Lib.hid (show Blk wE (w.heap.size + 1) 88 #[.slice (some ⟨g1, 0, none⟩) 0 0, .slice (some ⟨g2, 0, none⟩) ps.length ps.length] by rw [hwE]; exact (hR.set_ 0 _).set_ 1 _)
      have hkE : ∀ b, b ≠ w.heap.size + 1 → wE.heap[b]? = wr.heap[b]? := fun b h1 => by rw [hwE, Below.heap_setCell _ _ _ _ h1, Below.heap_setCell _ _ _ _ h1]
      have hsE : wE.heap.size = wr.heap.size := by rw [hwE]; simp [World.setCell]
      have HQ := Lib.hid (show EachMD ps w (.returned (.agg #[.slice (some ⟨g1, 0, none⟩) 0 0, .slice (some ⟨g2, 0, none⟩) ps.length ps.length])) wE from
        ⟨_, _, _, rfl, (HOw.out.keep fun b h1 h2 => hkE _ (by have := Hs0.out; omega)).mono (by have := Hs0.out; omega) (by omega),
          by rw [hwE]; exact ((HE.out.trans (HBr.out.mono (by have := Hs0.out; omega))).setCell (by simp) _).setCell (by simp) _⟩)
      have HwE := Lib.hid hwE
      clear hwE hkE hR
      go_wp2
      rw [← HwE.out]
      obtain ⟨z0, z1⟩ := HRE.out.g2
      exact bodyPost_ret (v := .agg #[.slice (some ⟨g1, 0, none⟩) 0 0, .slice (some ⟨g2, 0, none⟩) ps.length ps.length]) (by simp [results, Tryd.results49, go_sem, z0, z1]) rfl HQ.out

def CopySD (ps : List MarkR) (w : World) (e : Ending) (w' : World) : Prop :=
  ∃ a0 A' c', e = .returned (.agg #[.slice a0 0 0, .slice A' ps.length c']) ∧ ShapeRo w.heap.size w'.heap.size w' (.slice a0 0 0) (.slice A' ps.length c') ⟨[], ps⟩ ∧ Below w.heap.size w w'

set_option maxRecDepth 100000 in
set_option maxHeartbeats 4000000 in
theorem copyShape_any (F : Nat → Prop) (A0 A1 : Option Addr) (c0 c1 : Nat) (ps : List MarkR) (w : World) (h : Cod.markr.Sl F w (.slice A1 ps.length c1) ps) (hF : ∀ b, F b → b < w.heap.size) (hn1 : ps.length ≤ 2000000) (hsm : ∀ y ∈ ps, SmolMarkr y) :
    Calls Tryd.prog 21 #[.agg #[.slice A0 0 c0, .slice A1 ps.length c1]] w (CopySD ps w) := by
  obtain ⟨w0, hw0⟩ : ∃ w0, w0 = (w.alloc (.cells #[.slice A0 0 c0, .slice A1 ps.length c1] 26)).alloc (.cells #[.slice none 0 0, .slice none 0 0] 26) := ⟨_, rfl⟩
  have hb0 : Below w.heap.size w w0 := by rw [hw0]; exact ((Below.refl _ _).alloc (Nat.le_refl _) _).alloc (by simp) _
  have hs0 : w0.heap.size = w.heap.size + 2 := by rw [hw0]; simp
  have HB0 := Lib.hid (show Blk w0 w.heap.size 26 #[.slice A0 0 c0, .slice A1 ps.length c1] by rw [hw0]; exact (Blk.new _ _ _).alloc _)
  have HR0 := Lib.hid (show Blk w0 (w.heap.size + 1) 26 #[.slice none 0 0, .slice none 0 0] by rw [hw0]; have := Blk.new (w.alloc (.cells #[.slice A0 0 c0, .slice A1 ps.length c1] 26)) 26 #[.slice none 0 0, .slice none 0 0]; simpa only [World.size_alloc] using this)
  have HC := Lib.hid (eachMark_any F A0 A1 c0 c1 ps w0 (h.keep (below_keeps hb0 hF)) (fun b hb => Nat.lt_of_lt_of_le (hF b hb) hb0.size) hn1 hsm)
  have HE := Lib.hid hb0
  have Hs0 := Lib.hid hs0
  have Hw0 := Lib.hid hw0
  clear h hF hw0 hs0 hb0 hsm
  go_enter Tryd.func21, Tryd.ntmps21
  go_wp2_with fail
  rw [← Hw0.out]
  refine HC.out.mono ?_
  rintro e w1 ⟨a0, A', c', rfl, hO, hb1⟩
  have hR := HR0.out.below hb1 (by have := Hs0.out; omega)
  obtain ⟨r0, r1⟩ := hR.g2
  obtain ⟨f0, f1⟩ := hR.h2
  have hs1 := hb1.size
  obtain ⟨wE, hwE⟩ : ∃ wE, wE = (w1.setCell ⟨w.heap.size + 1, 0, none⟩ (.slice a0 0 0)).setCell ⟨w.heap.size + 1, 1, none⟩ (.slice A' ps.length c') := ⟨_, rfl⟩
  have HRE := Lib.hid (show Blk wE (w.heap.size + 1) 26 #[.slice a0 0 0, .slice A' ps.length c'] by rw [hwE]; exact (hR.set_ 0 _).set_ 1 _)
  have hkE : ∀ b, b ≠ w.heap.size + 1 → wE.heap[b]? = w1.heap[b]? := fun b h1 => by rw [hwE, Below.heap_setCell _ _ _ _ h1, Below.heap_setCell _ _ _ _ h1]
  have hsE : wE.heap.size = w1.heap.size := by rw [hwE]; simp [World.setCell]
  have hs2 := Hs0.out
  have HQ := Lib.hid (show CopySD ps w (.returned (.agg #[.slice a0 0 0, .slice A' ps.length c'])) wE from
    ⟨a0, A', c', rfl, ⟨⟨w.heap.size, Nat.le_refl _, by omega, ⟨a0, 0, rfl, Nat.le_refl _, Nat.zero_le _, fun h => absurd h (by simp)⟩, (hO.keep fun b g1 g2 => hkE b (by omega)).mono (by omega) (by omega)⟩⟩,
      by rw [hwE]; exact ((HE.out.trans (hb1.mono HE.out.size)).setCell (by simp) _).setCell (by simp) _⟩)
  have HwE := Lib.hid hwE
  clear hwE hkE hR hO hb1 HC hs2
  go_wp2
  rw [← HwE.out]
  obtain ⟨z0, z1⟩ := HRE.out.g2
  exact bodyPost_ret (v := .agg #[.slice a0 0 0, .slice A' ps.length c']) (by simp [results, Tryd.results21, go_sem, z0, z1]) rfl HQ.out
end Go.Proofs.YtmomdflfjcboiaaDoor
