/- What is drawn for the laws of instructions. -/
import Derived.Test.YtbjnjdhkillbiaaDoorFj
namespace Go.Proofs.YtbjnjdhkillbiaaDoor
open Go.RowKit

/-- What is drawn: an instruction. -/
def DrawnI (W : World) (e : Ending) (w' : World) : Prop := ∃ (o : ByteArray) (x y : Int), o.size ≤ 8 ∧ -1 ≤ x ∧ x ≤ 2000000 ∧ -1 ≤ y ∧ y ≤ 1000 ∧ e = .returned (.agg #[.string o, .int .i64 x, .int .i64 y]) ∧ Below W.heap.size W w'
theorem InsAt.mono {g N M b2 b4 : Nat} {w : World} (h : InsAt g N b2 b4 w) (hm : N ≤ M) : InsAt g M b2 b4 w := by
  obtain ⟨o, x, y, q, h1, h2, h3, h4, h5, h6, h7⟩ := h
  exact ⟨o, x, y, q, h1, h2, h3, h4, h5, by omega, h7⟩

set_option maxRecDepth 100000 in
set_option maxHeartbeats 8000000 in
theorem drawInsOk_any (F : Nat → Prop) (v : Value) (xs : List Nat) (w : World) (hv : Cod.u8.Sl F w v xs) (hF : ∀ b, F b → b < w.heap.size) : Calls Tryd.prog 16 #[v] w (DrawnI w) := by
  have HZ0 := Lib.hid (Blk.new w 34 #[.string ⟨#[]⟩, .int .i64 0, .int .i64 0])
  have HW0 := Lib.hid ((Below.refl w.heap.size w).alloc (Nat.le_refl _) (.cells #[.string ⟨#[]⟩, .int .i64 0, .int .i64 0] 34))
  have Hw0 := Lib.hid (show (w.alloc (.cells #[.string ⟨#[]⟩, .int .i64 0, .int .i64 0] 34)).heap.size = w.heap.size + 1 by simp)
  have HV0 := Lib.hid (hv.keep (below_keeps HW0.out hF))
  obtain ⟨vA, vc, rfl, _, _, _⟩ := hv
  go_enter Tryd.func16, Tryd.ntmps16
  go_wp2_with fail
  refine (open_any F _ xs _ HV0.out (fun b hb => by rw [Hw0.out]; have := hF b hb; omega)).mono ?_
  rintro e w1 ⟨g, rfl, hg1, hr1, hb1⟩
  rw [Hw0.out] at hg1
  have HZ1 := Lib.hid (HZ0.out.below hb1 (by rw [Hw0.out]; omega))
  have HW1 := Lib.hid (HW0.out.trans (hb1.mono (by rw [Hw0.out]; omega)))
  have HR1 := Lib.hid hr1
  clear hb1 hr1
  go_wp2_with fail
  refine (l91Ins_any g 0 w1 HR1.out (by omega)).mono ?_
  rintro e w2 ⟨o, x, y, a1, a2, a3, a4, a5, rfl, ⟨q2, hq2, hr2⟩, hg2⟩
  have HZ2 : Hid (Blk w2 w.heap.size 34 #[.string ⟨#[]⟩, .int .i64 0, .int .i64 0]) := (hg2.block _ HZ1.out.lt (by simp; omega)).trans HZ1.out
  have HW2 := Lib.hid (HW1.out.trans (below_grown hg2 (by omega) HW1.out.size))
  have HR2 := Lib.hid hr2
  have hgl := hr2.lt
  clear hr2 hg2
  obtain ⟨w3, hw3⟩ : ∃ w3, w3 = w2.alloc (.cells #[.string o, .int .i64 x, .int .i64 y] 34) := ⟨_, rfl⟩
  have HI3 : Hid (InsAt g 3 w.heap.size w2.heap.size w3) := by
    show InsAt _ _ _ _ w3
    rw [hw3]
    exact ⟨o, x, y, q2, a1, a2, a3, a4, a5, by omega, HR2.out.keep (fun b hb => Below.heap_alloc _ _ _ hb) (by simp), HZ2.out.alloc _, Blk.new _ _ _⟩
  have HW3 : Hid (Below w.heap.size w w3) := by show Below _ _ w3; rw [hw3]; exact HW2.out.alloc HW2.out.size _
  have Hw3 := Lib.hid hw3
  clear hw3
  obtain ⟨b4, Hb4⟩ : ∃ b4, Hid (b4 = w2.heap.size) := ⟨_, rfl⟩
  have hb4g : g < b4 := by rw [Hb4.out]; exact hgl
  rw [← Hb4.out] at HI3
  obtain ⟨o, x, y, q, h1, h2, h3, h4, h5, h6, hr, hz, hb⟩ := HI3.out
  have HR := Lib.hid hr
  have HZ := Lib.hid hz
  have HB := Lib.hid hb
  have hlz := hz.lt
  have hlb := hb.lt
  clear hr hz hb a1 a2 a3 a4 a5 hgl
  go_upto_region 3 with fail
  rw [← Hw3.out]
  rw [← Hb4.out]
  go_upto_if 11 with (go_at_call 46; refine (pick_any g q _ w3 HR.out (by omega) (by omega)).mono ?_; rintro e wp ⟨k, rfl, hk, hrp, hgp, hsp⟩)
  have HRp := Lib.hid hrp
  have HZp : Hid (Blk wp w.heap.size 34 #[.string ⟨#[]⟩, .int .i64 0, .int .i64 0]) := (hgp.block _ hlz (by simp; omega)).trans HZ.out
  have HBp : Hid (Blk wp b4 34 #[.string o, .int .i64 x, .int .i64 y]) := (hgp.block _ hlb (by simp; omega)).trans HB.out
  have HWp := Lib.hid (HW3.out.trans (below_grown hgp (by omega) HW3.out.size))
  have hgw := HRp.out.lt
  have hlbp := HBp.out.lt
  have hlzp := HZp.out.lt
  clear hk hrp hgp hsp HR HZ HB HW3 hlz hlb
  go_cut [11] (fun _ wx => Hid (InsAt g 5 w.heap.size b4 wx) ∧ Hid (Below w.heap.size w wx))
  case first =>
    by_cases hk0 : k = 0
    · have b1 : ((k : Int) == 0) = true := by rw [beq_iff_eq]; omega
      obtain ⟨wl, hwl⟩ : ∃ wl, wl = wp.alloc (.cells #[.int .i64 (-1), .int .i64 3, .int .i64 6, .int .i64 40, .int .i64 39, .int .i64 1000000, .int .i64 1000001, .int .i64 0, .int .i64 5] 3) := ⟨_, rfl⟩
      have hBl : Blk wl wp.heap.size 3 #[.int .i64 (-1), .int .i64 3, .int .i64 6, .int .i64 40, .int .i64 39, .int .i64 1000000, .int .i64 1000001, .int .i64 0, .int .i64 5] := by rw [hwl]; exact Blk.new _ _ _
      have HRl : Rdr g (q + 1) wl := by rw [hwl]; exact HRp.out.keep (fun b hb => Below.heap_alloc _ _ _ hb) (by simp)
      have HZl : Hid (Blk wl w.heap.size 34 #[.string ⟨#[]⟩, .int .i64 0, .int .i64 0]) := by show Blk wl _ _ _; rw [hwl]; exact HZp.out.alloc _
      have HBl : Hid (Blk wl b4 34 #[.string o, .int .i64 x, .int .i64 y]) := by show Blk wl _ _ _; rw [hwl]; exact HBp.out.alloc _
      have HWl : Hid (Below w.heap.size w wl) := by show Below _ _ wl; rw [hwl]; exact HWp.out.alloc HWp.out.size _
      have HC := Lib.hid (num_any (fun b => b = wp.heap.size) g (q + 1) (.slice (some ⟨wp.heap.size, 0, none⟩) 9 9) ([-1, 3, 6, 40, 39, 1000000, 1000001, 0, 5] : List Int) wl HRl (by omega) (hBl.ints ([-1, 3, 6, 40, 39, 1000000, 1000001, 0, 5] : List Int) (by decide) (fun i x hi => by match i, hi with | 0, hi => (simp at hi; subst hi; rfl) | 1, hi => (simp at hi; subst hi; rfl) | 2, hi => (simp at hi; subst hi; rfl) | 3, hi => (simp at hi; subst hi; rfl) | 4, hi => (simp at hi; subst hi; rfl) | 5, hi => (simp at hi; subst hi; rfl) | 6, hi => (simp at hi; subst hi; rfl) | 7, hi => (simp at hi; subst hi; rfl) | 8, hi => (simp at hi; subst hi; rfl) | n + 9, hi => simp at hi)) (fun b hb => by rw [hb]; exact ⟨hBl.lt, by omega⟩) (by decide) (by decide))
      have Hwl := Lib.hid hwl
      clear hwl hBl HRl hk0
      go_wp2_with fail
      rw [← Hwl.out]
      refine HC.out.mono ?_
      rintro e wn ⟨s, hs, rfl, ⟨⟨qn, hqn, hrn⟩, hgn⟩, hsn⟩
      have HZn : Blk wn w.heap.size 34 #[.string ⟨#[]⟩, .int .i64 0, .int .i64 0] := (hgn.block _ HZl.out.lt (by simp; omega)).trans HZl.out
      have HBn : Blk wn b4 34 #[.string o, .int .i64 x, .int .i64 y] := (hgn.block _ HBl.out.lt (by simp; omega)).trans HBl.out
      have HWn := HWl.out.trans (below_grown hgn (by omega) HWl.out.size)
      have hsb : -1 ≤ s ∧ s ≤ 1000001 := by
        simp only [List.mem_cons, List.not_mem_nil, or_false] at hs
        omega
      have HQ := Lib.hid (show InsAt g 5 w.heap.size b4 (wn.setCell ⟨b4, 1, none⟩ (.int .i64 s)) from ⟨o, s, y, qn, h1, by omega, by omega, h4, h5, by omega, hrn.keep' fun b hb => Below.heap_setCell _ _ _ _ (by simp; omega), HZn.far (by simp; omega) _, HBn.set_ 1 _⟩)
      have HWq := Lib.hid (HWn.setCell (p := ⟨b4, 1, none⟩) (by simp; omega) (.int .i64 s))
      obtain ⟨z0, z1, z2⟩ := HBn.c3
      obtain ⟨d0, d1, d2⟩ := HBn.f3
      clear hs hrn hgn hsn HZn HBn HWn HC
      go_wp2_with fail
      go_meet
      exact ⟨HQ, HWq⟩
    · have b1 : ((k : Int) == 0) = false := by rw [beq_eq_false_iff_ne]; omega
      clear hk0
      go_wp2_with fail
      go_meet
      exact ⟨⟨o, x, y, q + 1, h1, h2, h3, h4, h5, by omega, HRp.out, HZp.out, HBp.out⟩, HWp⟩
  case rest =>
    obtain ⟨HIc, HWc⟩ := hcut
    clear HRp HZp HBp HWp h1 h2 h3 h4 h5 h6 hgw hlbp hlzp
    obtain ⟨o, x, y, q, h1, h2, h3, h4, h5, h6, hr, hz, hb⟩ := HIc.out
    have HR := Lib.hid hr
    have HZ := Lib.hid hz
    have HB := Lib.hid hb
    have HW3 := HWc
    have hlz := hz.lt
    have hlb := hb.lt
    clear hr hz hb HIc HWc
    go_upto_if 18 with (go_at_call 46; refine (pick_any g q _ wc HR.out (by omega) (by omega)).mono ?_; rintro e wp ⟨k, rfl, hk, hrp, hgp, hsp⟩)
    have HRp := Lib.hid hrp
    have HZp : Hid (Blk wp w.heap.size 34 #[.string ⟨#[]⟩, .int .i64 0, .int .i64 0]) := (hgp.block _ hlz (by simp; omega)).trans HZ.out
    have HBp : Hid (Blk wp b4 34 #[.string o, .int .i64 x, .int .i64 y]) := (hgp.block _ hlb (by simp; omega)).trans HB.out
    have HWp := Lib.hid (HW3.out.trans (below_grown hgp (by omega) HW3.out.size))
    have hgw := HRp.out.lt
    have hlbp := HBp.out.lt
    have hlzp := HZp.out.lt
    clear hk hrp hgp hsp HR HZ HB HW3 hlz hlb
    go_cut [18] (fun _ wx => Hid (InsAt g 7 w.heap.size b4 wx) ∧ Hid (Below w.heap.size w wx))
    case first =>
      by_cases hk0 : k = 0
      · have b1 : ((k : Int) == 0) = true := by rw [beq_iff_eq]; omega
        obtain ⟨wl, hwl⟩ : ∃ wl, wl = wp.alloc (.cells #[.int .i64 (-1), .int .i64 1, .int .i64 4, .int .i64 3] 3) := ⟨_, rfl⟩
        have hBl : Blk wl wp.heap.size 3 #[.int .i64 (-1), .int .i64 1, .int .i64 4, .int .i64 3] := by rw [hwl]; exact Blk.new _ _ _
        have HRl : Rdr g (q + 1) wl := by rw [hwl]; exact HRp.out.keep (fun b hb => Below.heap_alloc _ _ _ hb) (by simp)
        have HZl : Hid (Blk wl w.heap.size 34 #[.string ⟨#[]⟩, .int .i64 0, .int .i64 0]) := by show Blk wl _ _ _; rw [hwl]; exact HZp.out.alloc _
        have HBl : Hid (Blk wl b4 34 #[.string o, .int .i64 x, .int .i64 y]) := by show Blk wl _ _ _; rw [hwl]; exact HBp.out.alloc _
        have HWl : Hid (Below w.heap.size w wl) := by show Below _ _ wl; rw [hwl]; exact HWp.out.alloc HWp.out.size _
        have HC := Lib.hid (num_any (fun b => b = wp.heap.size) g (q + 1) (.slice (some ⟨wp.heap.size, 0, none⟩) 4 4) ([-1, 1, 4, 3] : List Int) wl HRl (by omega) (hBl.ints ([-1, 1, 4, 3] : List Int) (by decide) (fun i x hi => by match i, hi with | 0, hi => (simp at hi; subst hi; rfl) | 1, hi => (simp at hi; subst hi; rfl) | 2, hi => (simp at hi; subst hi; rfl) | 3, hi => (simp at hi; subst hi; rfl) | n + 4, hi => simp at hi)) (fun b hb => by rw [hb]; exact ⟨hBl.lt, by omega⟩) (by decide) (by decide))
        have Hwl := Lib.hid hwl
        clear hwl hBl HRl hk0
        go_wp2_with fail
        rw [← Hwl.out]
        refine HC.out.mono ?_
        rintro e wn ⟨s, hs, rfl, ⟨⟨qn, hqn, hrn⟩, hgn⟩, hsn⟩
        have HZn : Blk wn w.heap.size 34 #[.string ⟨#[]⟩, .int .i64 0, .int .i64 0] := (hgn.block _ HZl.out.lt (by simp; omega)).trans HZl.out
        have HBn : Blk wn b4 34 #[.string o, .int .i64 x, .int .i64 y] := (hgn.block _ HBl.out.lt (by simp; omega)).trans HBl.out
        have HWn := HWl.out.trans (below_grown hgn (by omega) HWl.out.size)
        have hsb : -1 ≤ s ∧ s ≤ 4 := by
          simp only [List.mem_cons, List.not_mem_nil, or_false] at hs
          omega
        have HQ := Lib.hid (show InsAt g 7 w.heap.size b4 (wn.setCell ⟨b4, 2, none⟩ (.int .i64 s)) from ⟨o, x, s, qn, h1, h2, h3, by omega, by omega, by omega, hrn.keep' fun b hb => Below.heap_setCell _ _ _ _ (by simp; omega), HZn.far (by simp; omega) _, HBn.set_ 2 _⟩)
        have HWq := Lib.hid (HWn.setCell (p := ⟨b4, 2, none⟩) (by simp; omega) (.int .i64 s))
        obtain ⟨z0, z1, z2⟩ := HBn.c3
        obtain ⟨d0, d1, d2⟩ := HBn.f3
        clear hs hrn hgn hsn HZn HBn HWn HC
        go_wp2_with fail
        go_meet
        exact ⟨HQ, HWq⟩
      · have b1 : ((k : Int) == 0) = false := by rw [beq_eq_false_iff_ne]; omega
        clear hk0
        go_wp2_with fail
        go_meet
        exact ⟨⟨o, x, y, q + 1, h1, h2, h3, h4, h5, by omega, HRp.out, HZp.out, HBp.out⟩, HWp⟩
    case rest =>
      obtain ⟨HIc, HWc⟩ := hcut
      clear HRp HZp HBp HWp h1 h2 h3 h4 h5 h6 hgw hlbp hlzp
      obtain ⟨o, x, y, q, h1, h2, h3, h4, h5, h6, hr, hz, hb⟩ := HIc.out
      have HR := Lib.hid hr
      have HZ := Lib.hid hz
      have HB := Lib.hid hb
      have HW3 := HWc
      have hlz := hz.lt
      have hlb := hb.lt
      clear hr hz hb HIc HWc
      go_upto_if 25 with (go_at_call 46; refine (pick_any g q _ wc HR.out (by omega) (by omega)).mono ?_; rintro e wp ⟨k, rfl, hk, hrp, hgp, hsp⟩)
      have HRp := Lib.hid hrp
      have HZp : Hid (Blk wp w.heap.size 34 #[.string ⟨#[]⟩, .int .i64 0, .int .i64 0]) := (hgp.block _ hlz (by simp; omega)).trans HZ.out
      have HBp : Hid (Blk wp b4 34 #[.string o, .int .i64 x, .int .i64 y]) := (hgp.block _ hlb (by simp; omega)).trans HB.out
      have HWp := Lib.hid (HW3.out.trans (below_grown hgp (by omega) HW3.out.size))
      have hgw := HRp.out.lt
      have hlbp := HBp.out.lt
      have hlzp := HZp.out.lt
      clear hk hrp hgp hsp HR HZ HB HW3 hlz hlb
      go_cut [25] (fun _ wx => Hid (InsAt g 9 w.heap.size b4 wx) ∧ Hid (Below w.heap.size w wx))
      case first =>
        by_cases hk0 : k = 0
        · have b1 : ((k : Int) == 0) = true := by rw [beq_iff_eq]; omega
          obtain ⟨wl, hwl⟩ : ∃ wl, wl = wp.alloc (.cells #[.string ⟨#[]⟩, .string ⟨#[78, 117, 109]⟩, .string ⟨#[103, 111, 116, 111]⟩] 9) := ⟨_, rfl⟩
          have hBl : Blk wl wp.heap.size 9 #[.string ⟨#[]⟩, .string ⟨#[78, 117, 109]⟩, .string ⟨#[103, 111, 116, 111]⟩] := by rw [hwl]; exact Blk.new _ _ _
          have HRl : Rdr g (q + 1) wl := by rw [hwl]; exact HRp.out.keep (fun b hb => Below.heap_alloc _ _ _ hb) (by simp)
          have HZl : Hid (Blk wl w.heap.size 34 #[.string ⟨#[]⟩, .int .i64 0, .int .i64 0]) := by show Blk wl _ _ _; rw [hwl]; exact HZp.out.alloc _
          have HBl : Hid (Blk wl b4 34 #[.string o, .int .i64 x, .int .i64 y]) := by show Blk wl _ _ _; rw [hwl]; exact HBp.out.alloc _
          have HWl : Hid (Below w.heap.size w wl) := by show Below _ _ wl; rw [hwl]; exact HWp.out.alloc HWp.out.size _
          have HC := Lib.hid (of_any (fun b => b = wp.heap.size) g (q + 1) (.slice (some ⟨wp.heap.size, 0, none⟩) 3 3) ([⟨#[]⟩, ⟨#[78, 117, 109]⟩, ⟨#[103, 111, 116, 111]⟩] : List ByteArray) wl HRl (by omega) (hBl.strs ([⟨#[]⟩, ⟨#[78, 117, 109]⟩, ⟨#[103, 111, 116, 111]⟩] : List ByteArray) (by decide) (fun i x hi => by match i, hi with | 0, hi => (simp at hi; subst hi; exact ⟨rfl, by decide⟩) | 1, hi => (simp at hi; subst hi; exact ⟨rfl, by decide⟩) | 2, hi => (simp at hi; subst hi; exact ⟨rfl, by decide⟩) | n + 3, hi => simp at hi)) (fun b hb => by rw [hb]; exact ⟨hBl.lt, by omega⟩) (by decide) (by decide))
          have Hwl := Lib.hid hwl
          clear hwl hBl HRl hk0
          go_wp2_with fail
          rw [← Hwl.out]
          refine HC.out.mono ?_
          rintro e wn ⟨s, hs, rfl, ⟨⟨qn, hqn, hrn⟩, hgn⟩, hsn⟩
          have HZn : Blk wn w.heap.size 34 #[.string ⟨#[]⟩, .int .i64 0, .int .i64 0] := (hgn.block _ HZl.out.lt (by simp; omega)).trans HZl.out
          have HBn : Blk wn b4 34 #[.string o, .int .i64 x, .int .i64 y] := (hgn.block _ HBl.out.lt (by simp; omega)).trans HBl.out
          have HWn := HWl.out.trans (below_grown hgn (by omega) HWl.out.size)
          have hsb : s.size ≤ 8 := by
            simp only [List.mem_cons, List.not_mem_nil, or_false] at hs
            rcases hs with rfl | rfl | rfl <;> decide
          have HQ := Lib.hid (show InsAt g 9 w.heap.size b4 (wn.setCell ⟨b4, 0, none⟩ (.string s)) from ⟨s, x, y, qn, hsb, h2, h3, h4, h5, by omega, hrn.keep' fun b hb => Below.heap_setCell _ _ _ _ (by simp; omega), HZn.far (by simp; omega) _, HBn.set_ 0 _⟩)
          have HWq := Lib.hid (HWn.setCell (p := ⟨b4, 0, none⟩) (by simp; omega) (.string s))
          obtain ⟨z0, z1, z2⟩ := HBn.c3
          obtain ⟨d0, d1, d2⟩ := HBn.f3
          clear hs hrn hgn hsn HZn HBn HWn HC
          go_wp2_with fail
          go_meet
          exact ⟨HQ, HWq⟩
        · have b1 : ((k : Int) == 0) = false := by rw [beq_eq_false_iff_ne]; omega
          clear hk0
          go_wp2_with fail
          go_meet
          exact ⟨⟨o, x, y, q + 1, h1, h2, h3, h4, h5, by omega, HRp.out, HZp.out, HBp.out⟩, HWp⟩
      case rest =>
        obtain ⟨HIc, HWc⟩ := hcut
        clear HRp HZp HBp HWp h1 h2 h3 h4 h5 h6 hgw hlbp hlzp
        obtain ⟨o, x, y, q, h1, h2, h3, h4, h5, h6, hr, hz, hb⟩ := HIc.out
        have HR := Lib.hid hr
        have HZ := Lib.hid hz
        have HB := Lib.hid hb
        have HW3 := HWc
        have hlz := hz.lt
        have hlb := hb.lt
        clear hr hz hb HIc HWc
        obtain ⟨x0, x1, x2⟩ := HB.out.c3
        obtain ⟨y0, y1, y2⟩ := HZ.out.c3
        obtain ⟨e0, e1, e2⟩ := HZ.out.f3
        obtain ⟨wF, hwF⟩ : ∃ wF, wF = ((wc.setCell ⟨w.heap.size, 0, none⟩ (.string o)).setCell ⟨w.heap.size, 1, none⟩ (.int .i64 x)).setCell ⟨w.heap.size, 2, none⟩ (.int .i64 y) := ⟨_, rfl⟩
        have HBF : Hid (Blk wF w.heap.size 34 #[.string o, .int .i64 x, .int .i64 y]) := by show Blk wF _ _ _; rw [hwF]; exact ((HZ.out.set_ 0 _).set_ 1 _).set_ 2 _
        have HWF : Hid (Below w.heap.size w wF) := by show Below _ _ wF; rw [hwF]; exact ((HW3.out.setCell (by simp) _).setCell (by simp) _).setCell (by simp) _
        have HwF := Lib.hid hwF
        clear hwF
        go_wp2_with fail
        rw [← HwF.out]
        obtain ⟨z0, z1, z2⟩ := HBF.out.c3
        exact bodyPost_ret (v := .agg #[.string o, .int .i64 x, .int .i64 y]) (by simp [results, Tryd.results16, go_sem, z0, z1, z2]) rfl ⟨o, x, y, h1, h2, h3, h4, h5, rfl, HWF.out⟩

set_option maxRecDepth 100000 in
set_option maxHeartbeats 8000000 in
theorem drawInsText_any (F : Nat → Prop) (v : Value) (xs : List Nat) (w : World) (hv : Cod.u8.Sl F w v xs) (hF : ∀ b, F b → b < w.heap.size) : Calls Tryd.prog 20 #[v] w (DrawnI w) := by
  have HZ0 := Lib.hid (Blk.new w 34 #[.string ⟨#[]⟩, .int .i64 0, .int .i64 0])
  have HW0 := Lib.hid ((Below.refl w.heap.size w).alloc (Nat.le_refl _) (.cells #[.string ⟨#[]⟩, .int .i64 0, .int .i64 0] 34))
  have Hw0 := Lib.hid (show (w.alloc (.cells #[.string ⟨#[]⟩, .int .i64 0, .int .i64 0] 34)).heap.size = w.heap.size + 1 by simp)
  have HV0 := Lib.hid (hv.keep (below_keeps HW0.out hF))
  obtain ⟨vA, vc, rfl, _, _, _⟩ := hv
  go_enter Tryd.func20, Tryd.ntmps20
  go_wp2_with fail
  refine (open_any F _ xs _ HV0.out (fun b hb => by rw [Hw0.out]; have := hF b hb; omega)).mono ?_
  rintro e w1 ⟨g, rfl, hg1, hr1, hb1⟩
  rw [Hw0.out] at hg1
  have HZ1 := Lib.hid (HZ0.out.below hb1 (by rw [Hw0.out]; omega))
  have HW1 := Lib.hid (HW0.out.trans (hb1.mono (by rw [Hw0.out]; omega)))
  have HR1 := Lib.hid hr1
  clear hb1 hr1
  go_wp2_with fail
  refine (l91Ins_any g 0 w1 HR1.out (by omega)).mono ?_
  rintro e w2 ⟨o, x, y, a1, a2, a3, a4, a5, rfl, ⟨q2, hq2, hr2⟩, hg2⟩
  have HZ2 : Hid (Blk w2 w.heap.size 34 #[.string ⟨#[]⟩, .int .i64 0, .int .i64 0]) := (hg2.block _ HZ1.out.lt (by simp; omega)).trans HZ1.out
  have HW2 := Lib.hid (HW1.out.trans (below_grown hg2 (by omega) HW1.out.size))
  have HR2 := Lib.hid hr2
  have hgl := hr2.lt
  clear hr2 hg2
  obtain ⟨w3, hw3⟩ : ∃ w3, w3 = w2.alloc (.cells #[.string o, .int .i64 x, .int .i64 y] 34) := ⟨_, rfl⟩
  have HI3 : Hid (InsAt g 3 w.heap.size w2.heap.size w3) := by
    show InsAt _ _ _ _ w3
    rw [hw3]
    exact ⟨o, x, y, q2, a1, a2, a3, a4, a5, by omega, HR2.out.keep (fun b hb => Below.heap_alloc _ _ _ hb) (by simp), HZ2.out.alloc _, Blk.new _ _ _⟩
  have HW3 : Hid (Below w.heap.size w w3) := by show Below _ _ w3; rw [hw3]; exact HW2.out.alloc HW2.out.size _
  have Hw3 := Lib.hid hw3
  clear hw3
  obtain ⟨b4, Hb4⟩ : ∃ b4, Hid (b4 = w2.heap.size) := ⟨_, rfl⟩
  have hb4g : g < b4 := by rw [Hb4.out]; exact hgl
  rw [← Hb4.out] at HI3
  obtain ⟨o, x, y, q, h1, h2, h3, h4, h5, h6, hr, hz, hb⟩ := HI3.out
  have HR := Lib.hid hr
  have HZ := Lib.hid hz
  have HB := Lib.hid hb
  have hlz := hz.lt
  have hlb := hb.lt
  clear hr hz hb a1 a2 a3 a4 a5 hgl
  go_upto_region 3 with fail
  rw [← Hw3.out]
  rw [← Hb4.out]
  go_upto_if 11 with (go_at_call 46; refine (pick_any g q _ w3 HR.out (by omega) (by omega)).mono ?_; rintro e wp ⟨k, rfl, hk, hrp, hgp, hsp⟩)
  have HRp := Lib.hid hrp
  have HZp : Hid (Blk wp w.heap.size 34 #[.string ⟨#[]⟩, .int .i64 0, .int .i64 0]) := (hgp.block _ hlz (by simp; omega)).trans HZ.out
  have HBp : Hid (Blk wp b4 34 #[.string o, .int .i64 x, .int .i64 y]) := (hgp.block _ hlb (by simp; omega)).trans HB.out
  have HWp := Lib.hid (HW3.out.trans (below_grown hgp (by omega) HW3.out.size))
  have hgw := HRp.out.lt
  have hlbp := HBp.out.lt
  have hlzp := HZp.out.lt
  clear hk hrp hgp hsp HR HZ HB HW3 hlz hlb
  go_cut [11] (fun _ wx => Hid (InsAt g 5 w.heap.size b4 wx) ∧ Hid (Below w.heap.size w wx))
  case first =>
    by_cases hk0 : k = 0
    · have b1 : ((k : Int) == 0) = true := by rw [beq_iff_eq]; omega
      obtain ⟨wl, hwl⟩ : ∃ wl, wl = wp.alloc (.cells #[.int .i64 (-1), .int .i64 3, .int .i64 40, .int .i64 1000000] 3) := ⟨_, rfl⟩
      have hBl : Blk wl wp.heap.size 3 #[.int .i64 (-1), .int .i64 3, .int .i64 40, .int .i64 1000000] := by rw [hwl]; exact Blk.new _ _ _
      have HRl : Rdr g (q + 1) wl := by rw [hwl]; exact HRp.out.keep (fun b hb => Below.heap_alloc _ _ _ hb) (by simp)
      have HZl : Hid (Blk wl w.heap.size 34 #[.string ⟨#[]⟩, .int .i64 0, .int .i64 0]) := by show Blk wl _ _ _; rw [hwl]; exact HZp.out.alloc _
      have HBl : Hid (Blk wl b4 34 #[.string o, .int .i64 x, .int .i64 y]) := by show Blk wl _ _ _; rw [hwl]; exact HBp.out.alloc _
      have HWl : Hid (Below w.heap.size w wl) := by show Below _ _ wl; rw [hwl]; exact HWp.out.alloc HWp.out.size _
      have HC := Lib.hid (num_any (fun b => b = wp.heap.size) g (q + 1) (.slice (some ⟨wp.heap.size, 0, none⟩) 4 4) ([-1, 3, 40, 1000000] : List Int) wl HRl (by omega) (hBl.ints ([-1, 3, 40, 1000000] : List Int) (by decide) (fun i x hi => by match i, hi with | 0, hi => (simp at hi; subst hi; rfl) | 1, hi => (simp at hi; subst hi; rfl) | 2, hi => (simp at hi; subst hi; rfl) | 3, hi => (simp at hi; subst hi; rfl) | n + 4, hi => simp at hi)) (fun b hb => by rw [hb]; exact ⟨hBl.lt, by omega⟩) (by decide) (by decide))
      have Hwl := Lib.hid hwl
      clear hwl hBl HRl hk0
      go_wp2_with fail
      rw [← Hwl.out]
      refine HC.out.mono ?_
      rintro e wn ⟨s, hs, rfl, ⟨⟨qn, hqn, hrn⟩, hgn⟩, hsn⟩
      have HZn : Blk wn w.heap.size 34 #[.string ⟨#[]⟩, .int .i64 0, .int .i64 0] := (hgn.block _ HZl.out.lt (by simp; omega)).trans HZl.out
      have HBn : Blk wn b4 34 #[.string o, .int .i64 x, .int .i64 y] := (hgn.block _ HBl.out.lt (by simp; omega)).trans HBl.out
      have HWn := HWl.out.trans (below_grown hgn (by omega) HWl.out.size)
      have hsb : -1 ≤ s ∧ s ≤ 1000000 := by
        simp only [List.mem_cons, List.not_mem_nil, or_false] at hs
        omega
      have HQ := Lib.hid (show InsAt g 5 w.heap.size b4 (wn.setCell ⟨b4, 1, none⟩ (.int .i64 s)) from ⟨o, s, y, qn, h1, by omega, by omega, h4, h5, by omega, hrn.keep' fun b hb => Below.heap_setCell _ _ _ _ (by simp; omega), HZn.far (by simp; omega) _, HBn.set_ 1 _⟩)
      have HWq := Lib.hid (HWn.setCell (p := ⟨b4, 1, none⟩) (by simp; omega) (.int .i64 s))
      obtain ⟨z0, z1, z2⟩ := HBn.c3
      obtain ⟨d0, d1, d2⟩ := HBn.f3
      clear hs hrn hgn hsn HZn HBn HWn HC
      go_wp2_with fail
      go_meet
      exact ⟨HQ, HWq⟩
    · have b1 : ((k : Int) == 0) = false := by rw [beq_eq_false_iff_ne]; omega
      clear hk0
      go_wp2_with fail
      go_meet
      exact ⟨⟨o, x, y, q + 1, h1, h2, h3, h4, h5, by omega, HRp.out, HZp.out, HBp.out⟩, HWp⟩
  case rest =>
    obtain ⟨HIc, HWc⟩ := hcut
    clear HRp HZp HBp HWp h1 h2 h3 h4 h5 h6 hgw hlbp hlzp
    obtain ⟨o, x, y, q, h1, h2, h3, h4, h5, h6, hr, hz, hb⟩ := HIc.out
    have HR := Lib.hid hr
    have HZ := Lib.hid hz
    have HB := Lib.hid hb
    have HW3 := HWc
    have hlz := hz.lt
    have hlb := hb.lt
    clear hr hz hb HIc HWc
    obtain ⟨x0, x1, x2⟩ := HB.out.c3
    obtain ⟨y0, y1, y2⟩ := HZ.out.c3
    obtain ⟨e0, e1, e2⟩ := HZ.out.f3
    obtain ⟨wF, hwF⟩ : ∃ wF, wF = ((wc.setCell ⟨w.heap.size, 0, none⟩ (.string o)).setCell ⟨w.heap.size, 1, none⟩ (.int .i64 x)).setCell ⟨w.heap.size, 2, none⟩ (.int .i64 y) := ⟨_, rfl⟩
    have HBF : Hid (Blk wF w.heap.size 34 #[.string o, .int .i64 x, .int .i64 y]) := by show Blk wF _ _ _; rw [hwF]; exact ((HZ.out.set_ 0 _).set_ 1 _).set_ 2 _
    have HWF : Hid (Below w.heap.size w wF) := by show Below _ _ wF; rw [hwF]; exact ((HW3.out.setCell (by simp) _).setCell (by simp) _).setCell (by simp) _
    have HwF := Lib.hid hwF
    clear hwF
    go_wp2_with fail
    rw [← HwF.out]
    obtain ⟨z0, z1, z2⟩ := HBF.out.c3
    exact bodyPost_ret (v := .agg #[.string o, .int .i64 x, .int .i64 y]) (by simp [results, Tryd.results20, go_sem, z0, z1, z2]) rfl ⟨o, x, y, h1, h2, h3, h4, h5, rfl, HWF.out⟩
end Go.Proofs.YtbjnjdhkillbiaaDoor
