/- The texts of all marks: of the program. -/
import Derived.Test.YtgfpncpphpkahaaDoorJk
namespace Go.Proofs.YtgfpncpphpkahaaDoor
open Go.RowKit

def EachD (x : ShapeR) (w : World) (e : Ending) (w' : World) : Prop :=
  ∃ v1 v2, e = .returned (.agg #[v1, v2]) ∧ Cod.str.Sl (Fresh w w') w' v1 (x.stack.map markT) ∧ Cod.str.Sl (Fresh w w') w' v2 (x.places.map markT) ∧ Below w.heap.size w w'

theorem three_blocks (w : World) (a b c : Obj) : ((((w.alloc a).alloc b).alloc c).drew).heap[w.heap.size]? = some a ∧ ((((w.alloc a).alloc b).alloc c).drew).heap[w.heap.size + 1]? = some b ∧ ((((w.alloc a).alloc b).alloc c).drew).heap[w.heap.size + 1 + 1]? = some c ∧
    Below w.heap.size w (((w.alloc a).alloc b).alloc c).drew := by
  refine ⟨?_, ?_, ?_, ((((Below.refl _ _).alloc (Nat.le_refl _) _).alloc (by simp) _).alloc (by simp; omega) _).drew⟩
  · show (((w.alloc a).alloc b).alloc c).heap[w.heap.size]? = _
    rw [Below.heap_alloc _ _ _ (by simp; omega), Below.heap_alloc _ _ _ (by simp)]
    exact heap_alloc_new w a
  · show (((w.alloc a).alloc b).alloc c).heap[w.heap.size + 1]? = _
    rw [Below.heap_alloc _ _ _ (by simp)]
    have := heap_alloc_new (w.alloc a) b
    simpa only [World.size_alloc] using this
  · show (((w.alloc a).alloc b).alloc c).heap[w.heap.size + 1 + 1]? = _
    have := heap_alloc_new ((w.alloc a).alloc b) c
    simpa only [World.size_alloc] using this
/-- Two rows, and a pair of them in a block. -/
def TwoR (t te : TypeId) (z : Array Value) (w0 : World) (n m : Nat) (s : Value) (w : World) : Prop := ∃ p g1 g2, s = .pointer (some ⟨p, 0, none⟩) ∧
  Blk w p t #[.slice (some ⟨g1, 0, none⟩) n n, .slice (some ⟨g2, 0, none⟩) m m] ∧ Blk w g1 te (madeCells z n) ∧ Blk w g2 te (madeCells z m) ∧ Below w0.heap.size w0 w ∧
  w0.heap.size ≤ p ∧ w0.heap.size ≤ g1 ∧ w0.heap.size ≤ g2 ∧ p ≠ g1 ∧ p ≠ g2 ∧ g1 ≠ g2
theorem map_at {α β : Type} {f : α → β} {xs : List α} {k : Nat} (h : k < xs.length) : (xs.map f)[k]'(by simpa using h) = f xs[k] := List.getElem_map f
theorem markT_few {x : MarkR} (h : I64s x.fr) (hw : markW x ≤ 2000000) : (markT x).size ≤ maxLen := by
  have := markT_size h
  unfold maxLen
  omega
theorem mark_le {xs : List MarkR} {k : Nat} (h : k < xs.length) : markW xs[k] ≤ (xs.map markW).sum := by
  induction xs generalizing k with
  | nil => simp at h
  | cons y r ih =>
    rw [List.map_cons, List.sum_cons]
    cases k with
    | zero => show markW y ≤ _; omega
    | succ k => have := ih (k := k) (by simpa using h); show markW (r[k]'_) ≤ _; omega

set_option maxRecDepth 100000 in
set_option maxHeartbeats 8000000 in
theorem eachStr_any (F : Nat → Prop) (A0 A1 : Option Addr) (c0 c1 : Nat) (x : ShapeR) (w : World) (h : ShapeRd F w (.slice A0 x.stack.length c0) (.slice A1 x.places.length c1) x) (hF : ∀ b, F b → b < w.heap.size) (hm : (x.stack.map markW).sum + (x.places.map markW).sum ≤ 1048576) (hn0 : x.stack.length ≤ 2000000) (hn1 : x.places.length ≤ 2000000) (htab : Lib.TabBelow Tryd.prog w.heap.size w tabN .u64 Lib.pow10Tab) :
    Calls Tryd.prog 41 #[.agg #[.slice A0 x.stack.length c0, .slice A1 x.places.length c1], .func (.func 42) #[] #[]] w (EachD x w) := by
  obtain ⟨w0, hw0⟩ : ∃ w0, w0 = (w.alloc (.cells #[.slice A0 x.stack.length c0, .slice A1 x.places.length c1] 26)).alloc (.cells #[.slice none 0 0, .slice none 0 0] 79) := ⟨_, rfl⟩
  have hb0 : Below w.heap.size w w0 := by rw [hw0]; exact ((Below.refl _ _).alloc (Nat.le_refl _) _).alloc (by simp) _
  have hs0 : w0.heap.size = w.heap.size + 2 := by rw [hw0]; simp
  have HB0 := Lib.hid (show Blk w0 w.heap.size 26 #[.slice A0 x.stack.length c0, .slice A1 x.places.length c1] by rw [hw0]; exact (Blk.new _ _ _).alloc _)
  have hmk0 := make_len (P := Tryd.prog) 53 9 _ 1 16 Tryd.underlying53 info_str (by omega) x.stack.length hn0
  have hmk1 := make_len (P := Tryd.prog) 53 9 _ 1 16 Tryd.underlying53 info_str (by omega) x.places.length hn1
  have HR0 := Lib.hid (show Blk w0 (w.heap.size + 1) 79 #[.slice none 0 0, .slice none 0 0] by rw [hw0]; have := Blk.new (w.alloc (.cells #[.slice A0 x.stack.length c0, .slice A1 x.places.length c1] 26)) 79 #[.slice none 0 0, .slice none 0 0]; simpa only [World.size_alloc] using this)
  obtain ⟨x0, x1⟩ := HB0.out.g2
  have Hw0 := Lib.hid hw0
  have Hs0 := Lib.hid hs0
  have hlt : w.heap.size < w0.heap.size := by omega
  have HV := Lib.hid (h.keep (below_keeps hb0 hF))
  have HF0 := Lib.hid (show ∀ b, F b → b < w0.heap.size from fun b hb => by have := hF b hb; omega)
  have HT := Lib.hid htab
  have HE := Lib.hid hb0
  clear hw0 hs0 h hF htab hb0
  go_enter Tryd.func41, Tryd.ntmps41
  go_upto_region 1 with fail
  rw [← Hw0.out]
  go_cut [5] from 10 to 18 (fun s5 wx => TwoR 79 9 #[.string ByteArray.empty] w0 x.stack.length x.places.length s5 wx)
  case first =>
    go_region
    all_goals
      go_wp2
      go_meet
      first
        | exact ⟨w0.heap.size, w0.heap.size + 1, w0.heap.size + 1 + 1, rfl, (three_blocks w0 _ _ _).1, (three_blocks w0 _ _ _).2.1, (three_blocks w0 _ _ _).2.2.1, (three_blocks w0 _ _ _).2.2.2, by omega, by omega, by omega, by omega, by omega, by omega⟩
        | exact ⟨w0.heap.size, w0.heap.size + 1 + 1, w0.heap.size + 1, rfl, (three_blocks w0 _ _ _).1, (three_blocks w0 _ _ _).2.2.1, (three_blocks w0 _ _ _).2.1, (three_blocks w0 _ _ _).2.2.2, by omega, by omega, by omega, by omega, by omega, by omega⟩
        | exact ⟨w0.heap.size + 1, w0.heap.size, w0.heap.size + 1 + 1, rfl, (three_blocks w0 _ _ _).2.1, (three_blocks w0 _ _ _).1, (three_blocks w0 _ _ _).2.2.1, (three_blocks w0 _ _ _).2.2.2, by omega, by omega, by omega, by omega, by omega, by omega⟩
        | exact ⟨w0.heap.size + 1, w0.heap.size + 1 + 1, w0.heap.size, rfl, (three_blocks w0 _ _ _).2.1, (three_blocks w0 _ _ _).2.2.1, (three_blocks w0 _ _ _).1, (three_blocks w0 _ _ _).2.2.2, by omega, by omega, by omega, by omega, by omega, by omega⟩
        | exact ⟨w0.heap.size + 1 + 1, w0.heap.size, w0.heap.size + 1, rfl, (three_blocks w0 _ _ _).2.2.1, (three_blocks w0 _ _ _).1, (three_blocks w0 _ _ _).2.1, (three_blocks w0 _ _ _).2.2.2, by omega, by omega, by omega, by omega, by omega, by omega⟩
        | exact ⟨w0.heap.size + 1 + 1, w0.heap.size + 1, w0.heap.size, rfl, (three_blocks w0 _ _ _).2.2.1, (three_blocks w0 _ _ _).2.1, (three_blocks w0 _ _ _).1, (three_blocks w0 _ _ _).2.2.2, by omega, by omega, by omega, by omega, by omega, by omega⟩
  case rest =>
  obtain ⟨p, g1, g2, rfl, h5, h1, h2, hb, hp, hg1, hg2, hne1, hne2, hne3⟩ := hcut
  have hp' := h5.lt
  have hg1' := h1.lt
  have hg2' := h2.lt
  have H5 := Lib.hid h5
  have H1 := Lib.hid h1
  have H2 := Lib.hid h2
  have HBc := Lib.hid hb
  obtain ⟨u0, u1⟩ := (HB0.out.below hb (by omega)).g2
  clear h5 h1 h2 hb x0 x1 hmk0 hmk1
  go_wp2
  go_loopw [22] (fun i wr => ∃ (k : Nat) (cs : Array Value), k ≤ x.stack.length ∧ i = .int .i64 k ∧ Hid (Blk wr g1 9 cs) ∧ Hid (cs.size = x.stack.length) ∧ Hid (Cod.str.Part NoB wr cs k (x.stack.map markT)) ∧ Hid (Blk wr p 79 #[.slice (some ⟨g1, 0, none⟩) x.stack.length x.stack.length, .slice (some ⟨g2, 0, none⟩) x.places.length x.places.length]) ∧ Hid (Blk wr g2 9 (madeCells #[.string ByteArray.empty] x.places.length)) ∧ Hid (Below w0.heap.size w0 wr) ∧ wc.heap.size ≤ wr.heap.size) (fun i _ => x.stack.length - (intOf i).toNat)
  case atStart => exact ⟨0, _, Nat.zero_le _, rfl, H1, Lib.hid (by simp [madeCells]), Lib.hid Cod.Part.zero, H5, H2, HBc, Nat.le_refl _⟩
  case round =>
    obtain ⟨k, cs, hk, rfl, HG, HZ, HP, H5r, HOr, HBr, hwc⟩ := hrel
    by_cases hlk : k < x.stack.length
    · have HSr := Lib.hid (HV.out.stack.keep (below_keeps HBr.out HF0.out))
      obtain ⟨b, off, cp, A2, e2, hv, hFb, _, _, hc0, hc1, hV⟩ := HSr.out.markr_at hlk
      obtain ⟨rfl, rfl⟩ : A0 = some ⟨b, off, none⟩ ∧ c0 = cp := by simpa using hv
      have hfb := HF0.out b hFb
      have hss := HBr.out.size
      have i0 : (0 : Int) ≤ k := by omega
      have i1 : (k : Int) < x.stack.length := by omega
      have hbr1 : Below wr.heap.size wr (wr.alloc (.cells #[.string x.stack[k].ty, .slice A2 x.stack[k].fr.length e2] 65)) := (Below.refl _ _).alloc (Nat.le_refl _) _
      obtain ⟨wa, hwa⟩ : ∃ wa, wa = (wr.alloc (.cells #[.string x.stack[k].ty, .slice A2 x.stack[k].fr.length e2] 65)) := ⟨_, rfl⟩
      rw [← hwa] at hbr1
      have hbrd : Below wr.heap.size wr wa.drew := hbr1.drew
      have hsa : wa.heap.size = wr.heap.size + 1 := by rw [hwa]; simp
      have hgl := HG.out.lt
      have hpl := H5r.out.lt
      have HM0 := Lib.hid (show Blk wa wr.heap.size 65 #[.string x.stack[k].ty, .slice A2 x.stack[k].fr.length e2] by rw [hwa]; exact Blk.new _ _ _)
      have HG0 := Lib.hid (show Blk wa.drew g1 9 cs from HG.out.below hbrd hgl)
      have H50 := Lib.hid (show Blk wa.drew p 79 #[.slice (some ⟨g1, 0, none⟩) x.stack.length x.stack.length, .slice (some ⟨g2, 0, none⟩) x.places.length x.places.length] from H5r.out.below hbrd hpl)
      have HO0 := Lib.hid (show Blk wa.drew g2 9 (madeCells #[.string ByteArray.empty] x.places.length) from HOr.out.below hbrd (by have := HOr.out.lt; omega))
      have HBa := Lib.hid (show Below w0.heap.size w0 wa.drew from (HBr.out.trans (hbr1.mono hss)).drew)
      have HC := Lib.hid (implMarkText_any F A2 e2 x.stack[k] wa.drew (hV.keep (w' := wa.drew) (below_keeps hbrd fun b hb => by have := HF0.out b hb; omega)) (fun b hb => by have := HF0.out b hb; show b < wa.heap.size; omega) (by have := mark_le hlk; omega) (tab_up HT.out (HE.out.trans (HBa.out.mono (by have := Hs0.out; omega))) (by have := Hs0.out; show _ ≤ wa.heap.size; omega)))
      have hmt : (markT x.stack[k]).size ≤ maxLen := markT_few hV.fr.i64s (by have := mark_le hlk; omega)
      have Hmt := Lib.hid hmt
      obtain ⟨z0, z1⟩ := HM0.out.g2
      obtain ⟨y0, y1⟩ := H50.out.g2
      have y0' : wa.cell? ⟨p, 0, none⟩ = some (.slice (some ⟨g1, 0, none⟩) x.stack.length x.stack.length) := y0
      have y1' : wa.cell? ⟨p, 1, none⟩ = some (.slice (some ⟨g2, 0, none⟩) x.places.length x.places.length) := y1
      have Hwa := Lib.hid hwa
      have hpd : p < wa.drew.heap.size := by show p < wa.heap.size; omega
      have hgd : g1 < wa.drew.heap.size := by show g1 < wa.heap.size; omega
      have hsd : wa.drew.heap.size = wr.heap.size + 1 := hsa
      clear hv hV hwa hmt hbr1 hbrd hsa
      go_wp2_with fail
      rw [← Hwa.out]
      go_region_with (go_at_call 42; (with_reducible refine HC.out.mono ?_); rintro e w1 ⟨rfl, hb1⟩; go_must (obtain ⟨q0, q1⟩ := (H50.out.below hb1 hpd).g2; have hG1 := HG0.out.below hb1 hgd; obtain ⟨d0, hd0⟩ := hG1.holds HZ.out hlk; have hf0 := hG1.frozen k; have HG1 := Lib.hid hG1; have H51 := Lib.hid (H50.out.below hb1 hpd); have HO := Lib.hid (show Blk w1 g2 9 (madeCells #[.string ByteArray.empty] x.places.length) from HO0.out.below hb1 (by omega)); have HB1 := Lib.hid (HBa.out.trans (hb1.mono HBa.out.size)); have hw1s := hb1.size; clear hG1 hb1))
      all_goals
        go_wp2
        go_roundw
        case rel =>
          refine ⟨k + 1, _, by omega, by go_num, Lib.hid (HG1.out.set_ k _), Lib.hid (by rw [Array.size_setIfInBounds]; exact HZ.out), Lib.hid ?_, Lib.hid (H51.out.far (p := ⟨g1, k, none⟩) (by simp; omega) _), Lib.hid ((HO.out.far (p := ⟨g1, k, none⟩) (by simp; omega) _)), Lib.hid (HB1.out.setCell (by simp; omega) _), by rw [size_setCell]; omega⟩
          have hP := (HP.out.keep (w' := w1.setCell ⟨g1, k, none⟩ (.string (markT x.stack[k]))) fun b hb => hb.elim)
          exact hP.one rfl (by simpa using hlk) (by rw [HZ.out]; simp) ⟨by rw [map_at hlk], by rw [map_at hlk]; exact Hmt.out⟩
        case measure => simp [intOf]; omega
    · obtain rfl : k = x.stack.length := by omega
      have HSl := Lib.hid (show Cod.str.Sl (fun b => b = g1) wr (.slice (some ⟨g1, 0, none⟩) x.stack.length x.stack.length) (x.stack.map markT) by
        have hp := HP.out
        rw [show x.stack.length = (x.stack.map markT).length by simp] at hp ⊢
        exact (hp.mono fun b hb => hb.elim).sl HG.out rfl (Nat.le_refl _) (by unfold maxLen; simp; omega))
      obtain ⟨v0, v1⟩ := (HB0.out.below HBr.out (by omega)).g2
      obtain ⟨wo, hwo⟩ : ∃ wo, wo = wr := ⟨_, rfl⟩
      clear u0 u1
      go_wp2
      go_loopw [38] (fun i wr => ∃ (k : Nat) (cs : Array Value), k ≤ x.places.length ∧ i = .int .i64 k ∧ Hid (Blk wr g2 9 cs) ∧ Hid (cs.size = x.places.length) ∧ Hid (Cod.str.Part NoB wr cs k (x.places.map markT)) ∧ Hid (Blk wr p 79 #[.slice (some ⟨g1, 0, none⟩) x.stack.length x.stack.length, .slice (some ⟨g2, 0, none⟩) x.places.length x.places.length]) ∧ Hid (Cod.str.Sl (fun b => b = g1) wr (.slice (some ⟨g1, 0, none⟩) x.stack.length x.stack.length) (x.stack.map markT)) ∧ Hid (Below w0.heap.size w0 wr) ∧ wc.heap.size ≤ wr.heap.size) (fun i _ => x.places.length - (intOf i).toNat)
      case atStart => exact ⟨0, _, Nat.zero_le _, rfl, HOr, Lib.hid (by simp [madeCells]), Lib.hid Cod.Part.zero, H5r, HSl, HBr, hwc⟩
      case round =>
        obtain ⟨k, cs, hk, rfl, HG, HZ, HP, H5r, HOr, HBr, hwc⟩ := hrel
        by_cases hlk : k < x.places.length
        · have HSr := Lib.hid (HV.out.places.keep (below_keeps HBr.out HF0.out))
          obtain ⟨b, off, cp, A2, e2, hv, hFb, _, _, hc0, hc1, hV⟩ := HSr.out.markr_at hlk
          obtain ⟨rfl, rfl⟩ : A1 = some ⟨b, off, none⟩ ∧ c1 = cp := by simpa using hv
          have hfb := HF0.out b hFb
          have hss := HBr.out.size
          have i0 : (0 : Int) ≤ k := by omega
          have i1 : (k : Int) < x.places.length := by omega
          have hbr1 : Below wr.heap.size wr (wr.alloc (.cells #[.string x.places[k].ty, .slice A2 x.places[k].fr.length e2] 65)) := (Below.refl _ _).alloc (Nat.le_refl _) _
          obtain ⟨wa, hwa⟩ : ∃ wa, wa = (wr.alloc (.cells #[.string x.places[k].ty, .slice A2 x.places[k].fr.length e2] 65)) := ⟨_, rfl⟩
          rw [← hwa] at hbr1
          have hbrd : Below wr.heap.size wr wa.drew := hbr1.drew
          have hsa : wa.heap.size = wr.heap.size + 1 := by rw [hwa]; simp
          have hgl := HG.out.lt
          have hpl := H5r.out.lt
          have HM0 := Lib.hid (show Blk wa wr.heap.size 65 #[.string x.places[k].ty, .slice A2 x.places[k].fr.length e2] by rw [hwa]; exact Blk.new _ _ _)
          have HG0 := Lib.hid (show Blk wa.drew g2 9 cs from HG.out.below hbrd hgl)
          have H50 := Lib.hid (show Blk wa.drew p 79 #[.slice (some ⟨g1, 0, none⟩) x.stack.length x.stack.length, .slice (some ⟨g2, 0, none⟩) x.places.length x.places.length] from H5r.out.below hbrd hpl)
          have HO0 := Lib.hid (show Cod.str.Sl (fun b => b = g1) wa.drew (.slice (some ⟨g1, 0, none⟩) x.stack.length x.stack.length) (x.stack.map markT) from HOr.out.keep fun b hb => by subst hb; exact hbrd.block _ (by omega))
          have HBa := Lib.hid (show Below w0.heap.size w0 wa.drew from (HBr.out.trans (hbr1.mono hss)).drew)
          have HC := Lib.hid (implMarkText_any F A2 e2 x.places[k] wa.drew (hV.keep (w' := wa.drew) (below_keeps hbrd fun b hb => by have := HF0.out b hb; omega)) (fun b hb => by have := HF0.out b hb; show b < wa.heap.size; omega) (by have := mark_le hlk; omega) (tab_up HT.out (HE.out.trans (HBa.out.mono (by have := Hs0.out; omega))) (by have := Hs0.out; show _ ≤ wa.heap.size; omega)))
          have hmt : (markT x.places[k]).size ≤ maxLen := markT_few hV.fr.i64s (by have := mark_le hlk; omega)
          have Hmt := Lib.hid hmt
          obtain ⟨z0, z1⟩ := HM0.out.g2
          obtain ⟨y0, y1⟩ := H50.out.g2
          have y0' : wa.cell? ⟨p, 0, none⟩ = some (.slice (some ⟨g1, 0, none⟩) x.stack.length x.stack.length) := y0
          have y1' : wa.cell? ⟨p, 1, none⟩ = some (.slice (some ⟨g2, 0, none⟩) x.places.length x.places.length) := y1
          have Hwa := Lib.hid hwa
          have hpd : p < wa.drew.heap.size := by show p < wa.heap.size; omega
          have hgd : g2 < wa.drew.heap.size := by show g2 < wa.heap.size; omega
          have hsd : wa.drew.heap.size = wr.heap.size + 1 := hsa
          clear hv hV hwa hmt hbr1 hbrd hsa
          go_wp2_with fail
          rw [← Hwa.out]
          go_region_with (go_at_call 42; (with_reducible refine HC.out.mono ?_); rintro e w1 ⟨rfl, hb1⟩; go_must (obtain ⟨q0, q1⟩ := (H50.out.below hb1 hpd).g2; have hG1 := HG0.out.below hb1 hgd; obtain ⟨d0, hd0⟩ := hG1.holds HZ.out hlk; have hf0 := hG1.frozen k; have HG1 := Lib.hid hG1; have H51 := Lib.hid (H50.out.below hb1 hpd); have HO := Lib.hid (show Cod.str.Sl (fun b => b = g1) w1 (.slice (some ⟨g1, 0, none⟩) x.stack.length x.stack.length) (x.stack.map markT) from HO0.out.keep fun b hb => by subst hb; exact hb1.block _ (by omega)); have HB1 := Lib.hid (HBa.out.trans (hb1.mono HBa.out.size)); have hw1s := hb1.size; clear hG1 hb1))
          all_goals
            go_wp2
            go_roundw
            case rel =>
              refine ⟨k + 1, _, by omega, by go_num, Lib.hid (HG1.out.set_ k _), Lib.hid (by rw [Array.size_setIfInBounds]; exact HZ.out), Lib.hid ?_, Lib.hid (H51.out.far (p := ⟨g2, k, none⟩) (by simp; omega) _), Lib.hid (HO.out.keep fun b hb => by subst hb; exact Below.heap_setCell _ _ _ _ (by simp; omega)), Lib.hid (HB1.out.setCell (by simp; omega) _), by rw [size_setCell]; omega⟩
              have hP := (HP.out.keep (w' := w1.setCell ⟨g2, k, none⟩ (.string (markT x.places[k]))) fun b hb => hb.elim)
              exact hP.one rfl (by simpa using hlk) (by rw [HZ.out]; simp) ⟨by rw [map_at hlk], by rw [map_at hlk]; exact Hmt.out⟩
            case measure => simp [intOf]; omega
        · obtain rfl : k = x.places.length := by omega
          have HSm := Lib.hid (show Cod.str.Sl (fun b => b = g2) wr (.slice (some ⟨g2, 0, none⟩) x.places.length x.places.length) (x.places.map markT) by
            have hp := HP.out
            rw [show x.places.length = (x.places.map markT).length by simp] at hp ⊢
            exact (hp.mono fun b hb => hb.elim).sl HG.out rfl (Nat.le_refl _) (by unfold maxLen; simp; omega))
          obtain ⟨q0, q1⟩ := H5r.out.g2
          have hR := HR0.out.below HBr.out (by have := Hs0.out; omega)
          obtain ⟨r0, r1⟩ := hR.g2
          obtain ⟨f0, f1⟩ := hR.h2
          have hsr := HBr.out.size
          obtain ⟨wE, hwE⟩ : ∃ wE, wE = (wr.setCell ⟨w.heap.size + 1, 0, none⟩ (.slice (some ⟨g1, 0, none⟩) x.stack.length x.stack.length)).setCell ⟨w.heap.size + 1, 1, none⟩ (.slice (some ⟨g2, 0, none⟩) x.places.length x.places.length) := ⟨_, rfl⟩
          have HRE := Lib.hid (show Blk wE (w.heap.size + 1) 79 #[.slice (some ⟨g1, 0, none⟩) x.stack.length x.stack.length, .slice (some ⟨g2, 0, none⟩) x.places.length x.places.length] by rw [hwE]; exact (hR.set_ 0 _).set_ 1 _)
          have hkE : ∀ b, b ≠ w.heap.size + 1 → wE.heap[b]? = wr.heap[b]? := fun b h1 => by rw [hwE, Below.heap_setCell _ _ _ _ h1, Below.heap_setCell _ _ _ _ h1]
          have hsE : wE.heap.size = wr.heap.size := by rw [hwE]; simp [World.setCell]
          have HQ := Lib.hid (show EachD x w (.returned (.agg #[.slice (some ⟨g1, 0, none⟩) x.stack.length x.stack.length, .slice (some ⟨g2, 0, none⟩) x.places.length x.places.length])) wE from
            ⟨_, _, rfl, (HOr.out.keep fun b hb => by subst hb; exact hkE _ (by have := Hs0.out; omega)).mono fun b hb => ⟨by have := Hs0.out; omega, by omega⟩, (HSm.out.keep fun b hb => by subst hb; exact hkE _ (by have := Hs0.out; omega)).mono fun b hb => ⟨by have := Hs0.out; omega, by omega⟩,
              by rw [hwE]; exact ((HE.out.trans (HBr.out.mono (by have := Hs0.out; omega))).setCell (by simp) _).setCell (by simp) _⟩)
          have HwE := Lib.hid hwE
          clear hwE hkE hR
          go_wp2
          rw [← HwE.out]
          obtain ⟨z0, z1⟩ := HRE.out.g2
          exact bodyPost_ret (v := .agg #[.slice (some ⟨g1, 0, none⟩) x.stack.length x.stack.length, .slice (some ⟨g2, 0, none⟩) x.places.length x.places.length]) (by simp [results, Tryd.results41, go_sem, z0, z1]) rfl HQ.out
end Go.Proofs.YtgfpncpphpkahaaDoor
