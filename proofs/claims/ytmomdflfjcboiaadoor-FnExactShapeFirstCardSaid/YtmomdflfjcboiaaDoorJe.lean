/- The functions that compare, at marks and shapes. -/
import Derived.Test.YtmomdflfjcboiaaDoorJd
import Derived.Test.YtmomdflfjcboiaaDoorGe
namespace Go.Proofs.YtmomdflfjcboiaaDoor
open Go.RowKit



set_option maxRecDepth 100000 in
set_option maxHeartbeats 1000000 in
theorem eqMarkr_one (F : Nat → Prop) (A1 B1 : Option Addr) (n1 c1 m1 d1 : Nat) (x : MarkR) (w : World) (h : MarkRd F w (.slice A1 n1 c1) x) (h' : MarkRd F w (.slice B1 m1 d1) x) (hF : ∀ b, F b → b < w.heap.size) :
    Calls Tryd.prog 51 #[.agg #[.string x.ty, .slice A1 n1 c1], .agg #[.string x.ty, .slice B1 m1 d1]] w fun e w' => e = .returned (.bool true) ∧ Below w.heap.size w w' := by
  obtain ⟨w0, hw0⟩ : ∃ w0, w0 = (w.alloc (.cells #[.string x.ty, .slice A1 n1 c1] 57)).alloc (.cells #[.string x.ty, .slice B1 m1 d1] 57) := ⟨_, rfl⟩
  have HA0 := Lib.hid (show Blk w0 w.heap.size 57 #[.string x.ty, .slice A1 n1 c1] by rw [hw0]; exact (Blk.new _ _ _).alloc _)
  have HB0 := Lib.hid (show Blk w0 (w.heap.size + 1) 57 #[.string x.ty, .slice B1 m1 d1] by rw [hw0]; have := Blk.new (w.alloc (.cells #[.string x.ty, .slice A1 n1 c1] 57)) 57 #[.string x.ty, .slice B1 m1 d1]; simpa only [World.size_alloc] using this)
  have HW0 := Lib.hid (show Below w.heap.size w w0 by rw [hw0]; exact ((Below.refl _ _).alloc (Nat.le_refl _) _).alloc (by simp) _)
  have hs0 : w0.heap.size = w.heap.size + 2 := by rw [hw0]; simp
  have HV0 := Lib.hid (h.keep (w' := w0) fun b hb => HW0.out.block b (hF b hb))
  have HU0 := Lib.hid (h'.keep (w' := w0) fun b hb => HW0.out.block b (hF b hb))
  have HF0 := Lib.hid (show ∀ b, F b → b < w0.heap.size from fun b hb => by have := hF b hb; omega)
  have Hw0 := Lib.hid hw0
  have Hs0 := Lib.hid hs0
  clear h h' hw0 hs0 hF
  go_enter Tryd.func51, Tryd.ntmps51
  go_wp2_with fail
  rw [← Hw0.out]
  refine (eq_i64 F _ _ x.fr _ HV0.out.fr HU0.out.fr HF0.out).mono ?_
  rintro e w1 ⟨rfl, hb⟩
  have HE1 := Lib.hid (hb)
  clear hb
  go_wp2
  go_ret
  exact ⟨rfl, HW0.out.trans (HE1.out.mono (by have := Hs0.out; omega))⟩

set_option maxRecDepth 100000 in
set_option maxHeartbeats 1000000 in
theorem eq_markr : EqRow Cod.markr 22 := by
  intro F v v' xs w h h' hF
  have HS := Lib.hid h
  have HS' := Lib.hid h'
  obtain ⟨A, cap, rfl, hlc, hcm, _⟩ := h
  obtain ⟨A', cap', rfl, hlc', hcm', _⟩ := h'
  unfold maxLen at hcm hcm'
  go_enter Tryd.func22, Tryd.ntmps22
  go_wp2
  go_loopw [5] (fun i wr => ∃ (k : Nat), k ≤ xs.length ∧ i = .int .i64 k ∧ Below w.heap.size w wr) (fun i _ => xs.length - (intOf i).toNat)
  case atStart => exact ⟨0, Nat.zero_le _, rfl, Below.refl _ _⟩
  case round =>
    obtain ⟨k, hk, rfl, hb⟩ := hrel
    by_cases hlt : k < xs.length
    · have HSr := Lib.hid (HS.out.keep (below_keeps hb hF))
      have HSr' := Lib.hid (HS'.out.keep (below_keeps hb hF))
      obtain ⟨b, off, c1, A1', e1, hv, _, _, _, hc0, hc1, hV⟩ := HSr.out.markr_at hlt
      obtain ⟨rfl, rfl⟩ : A = some ⟨b, off, none⟩ ∧ cap = c1 := by simpa using hv
      obtain ⟨b', off', c1', B1', d1, hv', _, _, _, hd0, hd1, hV'⟩ := HSr'.out.markr_at hlt
      obtain ⟨rfl, rfl⟩ : A' = some ⟨b', off', none⟩ ∧ cap' = c1' := by simpa using hv'
      have hsz := hb.size
      have HC := Lib.hid (eqMarkr_one F _ _ _ _ _ _ xs[k] wr.drew (hV.keep (w := wr) (w' := wr.drew) fun _ _ => rfl) (hV'.keep (w := wr) (w' := wr.drew) fun _ _ => rfl) (fun b hb' => Nat.lt_of_lt_of_le (hF b hb') hsz))
      clear hv hv' hV hV'
      have i0 : (0 : Int) ≤ k := by omega
      have i1 : (k : Int) < xs.length := by omega
      go_wp2
      go_still_tail 8, (by kernel_rfl)
      change wpList _ _ _ _ _ wr.drew
      go_wp2_with fail
      refine HC.out.mono ?_
      rintro e' w1 ⟨rfl, hb1⟩
      go_wp2
      go_roundw
      case rel => exact ⟨k + 1, by omega, by go_num, hb.trans (Below.drew (Below.refl _ _) |>.trans (hb1.mono hsz))⟩
      case measure => simp [intOf]; omega
    · go_wp2
      go_ret
      exact ⟨rfl, hb⟩

set_option maxRecDepth 100000 in
set_option maxHeartbeats 1000000 in
theorem eqShaper_one (F : Nat → Prop) (A0 B0 A1 B1 : Option Addr) (n0 c0 m0 d0 n1 c1 m1 d1 : Nat) (x : ShapeR) (w : World) (h : ShapeRd F w (.slice A0 n0 c0) (.slice A1 n1 c1) x) (h' : ShapeRd F w (.slice B0 m0 d0) (.slice B1 m1 d1) x) (hF : ∀ b, F b → b < w.heap.size) :
    Calls Tryd.prog 8 #[.agg #[.slice A0 n0 c0, .slice A1 n1 c1], .agg #[.slice B0 m0 d0, .slice B1 m1 d1]] w fun e w' => e = .returned (.bool true) ∧ Below w.heap.size w w' := by
  obtain ⟨w0, hw0⟩ : ∃ w0, w0 = (w.alloc (.cells #[.slice A0 n0 c0, .slice A1 n1 c1] 26)).alloc (.cells #[.slice B0 m0 d0, .slice B1 m1 d1] 26) := ⟨_, rfl⟩
  have HA0 := Lib.hid (show Blk w0 w.heap.size 26 #[.slice A0 n0 c0, .slice A1 n1 c1] by rw [hw0]; exact (Blk.new _ _ _).alloc _)
  have HB0 := Lib.hid (show Blk w0 (w.heap.size + 1) 26 #[.slice B0 m0 d0, .slice B1 m1 d1] by rw [hw0]; have := Blk.new (w.alloc (.cells #[.slice A0 n0 c0, .slice A1 n1 c1] 26)) 26 #[.slice B0 m0 d0, .slice B1 m1 d1]; simpa only [World.size_alloc] using this)
  have HW0 := Lib.hid (show Below w.heap.size w w0 by rw [hw0]; exact ((Below.refl _ _).alloc (Nat.le_refl _) _).alloc (by simp) _)
  have hs0 : w0.heap.size = w.heap.size + 2 := by rw [hw0]; simp
  have HV0 := Lib.hid (h.keep (w' := w0) fun b hb => HW0.out.block b (hF b hb))
  have HU0 := Lib.hid (h'.keep (w' := w0) fun b hb => HW0.out.block b (hF b hb))
  have HF0 := Lib.hid (show ∀ b, F b → b < w0.heap.size from fun b hb => by have := hF b hb; omega)
  have Hw0 := Lib.hid hw0
  have Hs0 := Lib.hid hs0
  clear h h' hw0 hs0 hF
  go_enter Tryd.func8, Tryd.ntmps8
  go_wp2_with fail
  rw [← Hw0.out]
  refine (eq_markr F _ _ x.stack _ HV0.out.stack HU0.out.stack HF0.out).mono ?_
  rintro e w1 ⟨rfl, hb⟩
  have HE1 := Lib.hid (hb)
  have HV1 := Lib.hid (HV0.out.keep (below_keeps hb HF0.out))
  have HU1 := Lib.hid (HU0.out.keep (below_keeps hb HF0.out))
  have HF1 := Lib.hid (show ∀ b, F b → b < w1.heap.size from fun b hb' => Nat.lt_of_lt_of_le (HF0.out b hb') hb.size)
  obtain ⟨y0_0, y0_1⟩ := (HA0.out.below HE1.out (by have := Hs0.out; omega)).g2
  obtain ⟨z0_0, z0_1⟩ := (HB0.out.below HE1.out (by have := Hs0.out; omega)).g2
  clear hb
  go_wp2_with fail
  refine (eq_markr F _ _ x.places _ HV1.out.places HU1.out.places HF1.out).mono ?_
  rintro e w2 ⟨rfl, hb⟩
  have HE2 := Lib.hid (HE1.out.trans (hb.mono HE1.out.size))
  clear hb
  go_wp2
  go_ret
  exact ⟨rfl, HW0.out.trans (HE2.out.mono (by have := Hs0.out; omega))⟩

end Go.Proofs.YtmomdflfjcboiaaDoor
