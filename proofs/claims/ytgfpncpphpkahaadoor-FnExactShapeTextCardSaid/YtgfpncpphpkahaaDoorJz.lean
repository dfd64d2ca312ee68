/- The functions that reckon sizes, at marks and shapes. -/
import Derived.Test.YtgfpncpphpkahaaDoorJd
import Derived.Test.YtgfpncpphpkahaaDoorGz
namespace Go.Proofs.YtgfpncpphpkahaaDoor
open Go.RowKit



def szMarkr (x : MarkR) (l : Int) : Int := szThen (l - x.ty.size) fun l0 => szThen (szI x.fr l0) fun l1 => l1
theorem szMarkr_le (x : MarkR) (l : Int) (h : 0 ≤ l) : szMarkr x l ≤ l := by
  unfold szMarkr
  refine szThen_le h (by omega) fun l0 p0 q0 => ?_
  refine szThen_le h (by have := szI_le x.fr l0 (by omega); omega) fun l1 p1 q1 => ?_
  omega
def SmolMarkr (x : MarkR) : Prop := x.fr.length ≤ 2000000
theorem smol_markr {x : MarkR} {l : Int} (h0 : 0 ≤ l) (h1 : l ≤ 2000000) (h : 0 ≤ szMarkr x l) : SmolMarkr x := by
  unfold szMarkr at h
  obtain ⟨g0, h0'⟩ := szThen_pos h
  have le0 : l - x.ty.size ≤ l := by omega
  obtain ⟨l0, e0⟩ : ∃ l0, l0 = l - x.ty.size := ⟨_, rfl⟩
  rw [← e0] at g0 h0' le0
  obtain ⟨g1, h1'⟩ := szThen_pos h0'
  have le1 := szI_le x.fr l0 (by omega)
  have n1 := szI_len g1
  obtain ⟨l1, e1⟩ : ∃ l1, l1 = szI x.fr l0 := ⟨_, rfl⟩
  rw [← e1] at g1 h1' le1
  unfold SmolMarkr
  omega

set_option maxRecDepth 100000 in
set_option maxHeartbeats 1000000 in
theorem szMarkr_one (F : Nat → Prop) (A1 : Option Addr) (n1 c1 : Nat) (x : MarkR) (left : Int) (w : World) (h : MarkRd F w (.slice A1 n1 c1) x) (hF : ∀ b, F b → b < w.heap.size) (h0 : 0 ≤ left) (h1 : left ≤ 2000000) :
    Calls Tryd.prog 74 #[.agg #[.string x.ty, .slice A1 n1 c1], .int .i64 left] w fun e w' => e = .returned (.int .i64 (szMarkr x left)) ∧ Below w.heap.size w w' := by
  obtain ⟨w0, hw0⟩ : ∃ w0, w0 = w.alloc (.cells #[.string x.ty, .slice A1 n1 c1] 118) := ⟨_, rfl⟩
  have HB0 := Lib.hid (show Blk w0 w.heap.size 118 #[.string x.ty, .slice A1 n1 c1] by rw [hw0]; exact Blk.new _ _ _)
  have HW0 := Lib.hid (show Below w.heap.size w w0 by rw [hw0]; exact (Below.refl _ _).alloc (Nat.le_refl _) _)
  have hs0 : w0.heap.size = w.heap.size + 1 := by rw [hw0]; simp
  have HV0 := Lib.hid (h.keep (w' := w0) fun b hb => HW0.out.block b (hF b hb))
  have HF0 := Lib.hid (show ∀ b, F b → b < w0.heap.size from fun b hb => by have := hF b hb; omega)
  have Hw0 := Lib.hid hw0
  have Hs0 := Lib.hid hs0
  have hm0 := h.ty
  unfold maxLen at hm0
  clear h hw0 hs0 hF
  go_enter Tryd.func74, Tryd.ntmps74
  by_cases hn0 : left - x.ty.size < 0
  · have HR : Hid (szMarkr x left = -1) := by show _ = _; unfold szMarkr; rw [szThen_neg hn0]
    go_wp2
    go_ret
    exact ⟨ret_int HR.out.symm, by have := HW0.out; rw [Hw0.out] at this; exact this⟩
  · have p0 := hn0
    go_wp2_with fail
    rw [← Hw0.out]
    refine (sz_i64 F _ x.fr (left - x.ty.size) _ HV0.out.fr HF0.out (by omega) (by omega)).mono ?_
    rintro e w2 ⟨rfl, hb2⟩
    have HE2 := Lib.hid (hb2)
    clear hb2
    have hle1 := szI_le x.fr (left - x.ty.size) (by omega)
    obtain ⟨s1, hs1⟩ : ∃ s, s = szI x.fr ((left - x.ty.size)) := ⟨_, rfl⟩
    rw [← hs1] at hle1 ⊢
    have HQ1 := Lib.hid hs1
    clear hs1
    by_cases hn1 : s1 < 0
    · have HR : Hid (szMarkr x left = -1) := by show _ = _; unfold szMarkr; rw [szThen_go (by omega), ← HQ1.out, szThen_neg hn1]
      go_wp2
      go_ret
      exact ⟨ret_int HR.out.symm, HW0.out.trans (HE2.out.mono (by have := Hs0.out; omega))⟩
    · have HP1 := Lib.hid hn1
      have HR : Hid (szMarkr x left = s1) := by show _ = _; unfold szMarkr; rw [szThen_go (by omega), ← HQ1.out, szThen_go (by have := HP1.out; omega)]
      go_wp2
      go_ret
      exact ⟨ret_int HR.out.symm, HW0.out.trans (HE2.out.mono (by have := Hs0.out; omega))⟩

set_option maxRecDepth 100000 in
set_option maxHeartbeats 1000000 in
theorem sz_markr : SzRow Cod.markr 37 (szS szMarkr) := by
  intro F v xs left w h hF h0 h1
  have HS := Lib.hid h
  obtain ⟨A, cap, rfl, hlc, hcm, _⟩ := h
  unfold maxLen at hcm
  by_cases ht : left - xs.length < 0
  · go_enter Tryd.func37, Tryd.ntmps37
    go_wp2
    go_ret
    exact ⟨ret_int (szS_neg _ _ _ ht).symm, Below.refl _ _⟩
  · have HF := Lib.hid (szS_go szMarkr xs left ht)
    go_enter Tryd.func37, Tryd.ntmps37
    go_wp2
    go_loopw [1, 5] (fun l i wr => ∃ (k : Nat) (n : Int), k ≤ xs.length ∧ i = .int .i64 k ∧ l = .int .i64 n ∧ 0 ≤ n ∧ n ≤ 2000000 ∧ Hid (szList szMarkr (xs.drop k) n = szS szMarkr xs left) ∧ Below w.heap.size w wr) (fun _ i _ => xs.length - (intOf i).toNat)
    case atStart => exact ⟨0, _, Nat.zero_le _, rfl, rfl, by omega, by omega, HF.out, Below.refl _ _⟩
    case round =>
      obtain ⟨k, n, hk, rfl, rfl, hn0, hn1, HH, hb⟩ := hrel
      by_cases hlt : k < xs.length
      · have HSr := Lib.hid (HS.out.keep (below_keeps hb hF))
        obtain ⟨b, off, cap', A1, c1, hv, hFb, _, _, hc0, hc1, hV⟩ := HSr.out.markr_at hlt
        obtain ⟨rfl, rfl⟩ : A = some ⟨b, off, none⟩ ∧ cap = cap' := by simpa using hv
        have hle := szMarkr_le xs[k] n hn0
        have hsz := hb.size
        have HC := Lib.hid (szMarkr_one F _ _ _ xs[k] n wr hV (fun b hb' => Nat.lt_of_lt_of_le (hF b hb') hsz) hn0 hn1)
        clear hv hV
        by_cases hneg : szMarkr xs[k] n < 0
        · go_wp2_with (go_at_call 74; refine HC.out.mono ?_; rintro e w' ⟨rfl, hb1⟩)
          go_ret
          exact ⟨ret_int (szList_stop hlt HH.out hneg), hb.trans (hb1.mono hsz)⟩
        · go_wp2_with (go_at_call 74; refine HC.out.mono ?_; rintro e w' ⟨rfl, hb1⟩)
          go_roundw
          case rel => exact ⟨k + 1, _, by omega, by go_num, rfl, by omega, by omega, szList_step hlt HH.out (by omega), hb.trans (hb1.mono hsz)⟩
          case measure => simp [intOf]; omega
      · go_wp2
        go_ret
        exact ⟨ret_int (szList_end (by omega) HH.out), hb⟩

def szShaper (x : ShapeR) (l : Int) : Int := szThen (szS szMarkr x.stack l) fun l0 => szThen (szS szMarkr x.places l0) fun l1 => l1
theorem szShaper_le (x : ShapeR) (l : Int) (h : 0 ≤ l) : szShaper x l ≤ l := by
  unfold szShaper
  refine szThen_le h (by have := szS_le szMarkr_le x.stack l (by omega); omega) fun l0 p0 q0 => ?_
  refine szThen_le h (by have := szS_le szMarkr_le x.places l0 (by omega); omega) fun l1 p1 q1 => ?_
  omega
def SmolShaper (x : ShapeR) : Prop := x.stack.length ≤ 2000000 ∧ x.places.length ≤ 2000000 ∧ (∀ y ∈ x.stack, SmolMarkr y) ∧ (∀ y ∈ x.places, SmolMarkr y)
theorem smol_shaper {x : ShapeR} {l : Int} (h0 : 0 ≤ l) (h1 : l ≤ 2000000) (h : 0 ≤ szShaper x l) : SmolShaper x := by
  unfold szShaper at h
  obtain ⟨g0, h0'⟩ := szThen_pos h
  have le0 := szS_le szMarkr_le x.stack l (by omega)
  obtain ⟨n0, a0⟩ := szS_len (szMarkr_le) g0
  obtain ⟨l0, e0⟩ : ∃ l0, l0 = szS szMarkr x.stack l := ⟨_, rfl⟩
  rw [← e0] at g0 h0' le0
  obtain ⟨g1, h1'⟩ := szThen_pos h0'
  have le1 := szS_le szMarkr_le x.places l0 (by omega)
  obtain ⟨n1, a1⟩ := szS_len (szMarkr_le) g1
  obtain ⟨l1, e1⟩ : ∃ l1, l1 = szS szMarkr x.places l0 := ⟨_, rfl⟩
  rw [← e1] at g1 h1' le1
  exact ⟨by omega, by omega, fun y hy => by obtain ⟨l', z0, z1, z2⟩ := a0 y hy; exact smol_markr z0 (by omega) z2, fun y hy => by obtain ⟨l', z0, z1, z2⟩ := a1 y hy; exact smol_markr z0 (by omega) z2⟩

set_option maxRecDepth 100000 in
set_option maxHeartbeats 1000000 in
theorem szShaper_one (F : Nat → Prop) (A0 A1 : Option Addr) (n0 c0 n1 c1 : Nat) (x : ShapeR) (left : Int) (w : World) (h : ShapeRd F w (.slice A0 n0 c0) (.slice A1 n1 c1) x) (hF : ∀ b, F b → b < w.heap.size) (h0 : 0 ≤ left) (h1 : left ≤ 2000000) :
    Calls Tryd.prog 15 #[.agg #[.slice A0 n0 c0, .slice A1 n1 c1], .int .i64 left] w fun e w' => e = .returned (.int .i64 (szShaper x left)) ∧ Below w.heap.size w w' := by
  obtain ⟨w0, hw0⟩ : ∃ w0, w0 = w.alloc (.cells #[.slice A0 n0 c0, .slice A1 n1 c1] 38) := ⟨_, rfl⟩
  have HB0 := Lib.hid (show Blk w0 w.heap.size 38 #[.slice A0 n0 c0, .slice A1 n1 c1] by rw [hw0]; exact Blk.new _ _ _)
  have HW0 := Lib.hid (show Below w.heap.size w w0 by rw [hw0]; exact (Below.refl _ _).alloc (Nat.le_refl _) _)
  have hs0 : w0.heap.size = w.heap.size + 1 := by rw [hw0]; simp
  have HV0 := Lib.hid (h.keep (w' := w0) fun b hb => HW0.out.block b (hF b hb))
  have HF0 := Lib.hid (show ∀ b, F b → b < w0.heap.size from fun b hb => by have := hF b hb; omega)
  have Hw0 := Lib.hid hw0
  have Hs0 := Lib.hid hs0
  clear h hw0 hs0 hF
  go_enter Tryd.func15, Tryd.ntmps15
  go_wp2_with fail
  rw [← Hw0.out]
  refine (sz_markr F _ x.stack left _ HV0.out.stack HF0.out (by omega) (by omega)).mono ?_
  rintro e w1 ⟨rfl, hb1⟩
  have HE1 := Lib.hid (hb1)
  clear hb1
  have hle0 := szS_le szMarkr_le x.stack left (by omega)
  obtain ⟨s0, hs0⟩ : ∃ s, s = szS szMarkr x.stack left := ⟨_, rfl⟩
  rw [← hs0] at hle0 ⊢
  have HQ0 := Lib.hid hs0
  clear hs0
  by_cases hn0 : s0 < 0
  · have HR : Hid (szShaper x left = -1) := by show _ = _; unfold szShaper; rw [← HQ0.out, szThen_neg hn0]
    go_wp2
    go_ret
    exact ⟨ret_int HR.out.symm, HW0.out.trans (HE1.out.mono (by have := Hs0.out; omega))⟩
  · have HP0 := Lib.hid hn0
    obtain ⟨z0_0, z0_1⟩ := (HB0.out.below HE1.out (by have := Hs0.out; omega)).g2
    have HV1 := Lib.hid (HV0.out.keep (below_keeps HE1.out HF0.out))
    have HF1 := Lib.hid (show ∀ b, F b → b < w1.heap.size from fun b hb => Nat.lt_of_lt_of_le (HF0.out b hb) HE1.out.size)
    go_wp2_with fail
    refine (sz_markr F _ x.places s0 _ (HV1.out.places) HF1.out (by omega) (by omega)).mono ?_
    rintro e w2 ⟨rfl, hb2⟩
    have HE2 := Lib.hid (HE1.out.trans (hb2.mono HE1.out.size))
    clear hb2
    have hle1 := szS_le szMarkr_le x.places s0 (by omega)
    obtain ⟨s1, hs1⟩ : ∃ s, s = szS szMarkr x.places s0 := ⟨_, rfl⟩
    rw [← hs1] at hle1 ⊢
    have HQ1 := Lib.hid hs1
    clear hs1
    by_cases hn1 : s1 < 0
    · have HR : Hid (szShaper x left = -1) := by show _ = _; unfold szShaper; rw [← HQ0.out, szThen_go (by have := HP0.out; omega), ← HQ1.out, szThen_neg hn1]
      go_wp2
      go_ret
      exact ⟨ret_int HR.out.symm, HW0.out.trans (HE2.out.mono (by have := Hs0.out; omega))⟩
    · have HP1 := Lib.hid hn1
      have HR : Hid (szShaper x left = s1) := by show _ = _; unfold szShaper; rw [← HQ0.out, szThen_go (by have := HP0.out; omega), ← HQ1.out, szThen_go (by have := HP1.out; omega)]
      go_wp2
      go_ret
      exact ⟨ret_int HR.out.symm, HW0.out.trans (HE2.out.mono (by have := Hs0.out; omega))⟩

end Go.Proofs.YtgfpncpphpkahaaDoor
