/- How marks and shapes lie in memory, read through some blocks or a call's own. The functions that reckon sizes, at marks and shapes. The functions that copy arguments, at marks and shapes: what they hand back is the call's own. -/
import Derived.Test.YtgfpncpphpkahaaDoorGd
import Derived.Test.YtgfpncpphpkahaaDoorGz
namespace Go.Proofs.YtgfpncpphpkahaaDoor
open Go.RowKit

theorem Blk.g2 {a0 a1 : Value} {w : World} {g : Nat} {t : TypeId} (h : Blk w g t #[a0, a1]) : w.cell? ⟨g, 0, none⟩ = some a0 ∧ w.cell? ⟨g, 1, none⟩ = some a1 := ⟨h.cell 0, h.cell 1⟩
theorem Blk.h2 {w : World} {g : Nat} {t : TypeId} {cs : Array Value} (h : Blk w g t cs) : w.frozen? ⟨g, 0, none⟩ = false ∧ w.frozen? ⟨g, 1, none⟩ = false := ⟨h.frozen 0, h.frozen 1⟩

/-- A mark. -/
structure MarkR where
  ty : ByteArray
  fr : List Int
structure MarkRd (F : Nat → Prop) (w : World) (v1 : Value) (x : MarkR) : Prop where
  ty : x.ty.size ≤ maxLen
  fr : Cod.i64.Sl F w v1 x.fr
theorem MarkRd.keep {F : Nat → Prop} {w w' : World} {v1 : Value} {x : MarkR} (hk : ∀ b, F b → w'.heap[b]? = w.heap[b]?) (h : MarkRd F w v1 x) : MarkRd F w' v1 x := ⟨h.ty, h.fr.keep hk⟩
theorem MarkRd.mono {F G : Nat → Prop} {w : World} {v1 : Value} {x : MarkR} (hg : ∀ b, F b → G b) (h : MarkRd F w v1 x) : MarkRd G w v1 x := ⟨h.ty, h.fr.mono hg⟩
def Cod.markr : Cod MarkR where
  size := 2
  rd F w cs x := ∃ v1, cs = [.string x.ty, v1] ∧ MarkRd F w v1 x
  len h := by obtain ⟨v1, rfl, _⟩ := h; rfl
  keep hk h := by obtain ⟨v1, hc, h⟩ := h; exact ⟨v1, hc, h.keep hk⟩
  mono hg h := by obtain ⟨v1, hc, h⟩ := h; exact ⟨v1, hc, h.mono hg⟩
theorem Cod.Sl.markr_at {F : Nat → Prop} {w : World} {v : Value} {xs : List MarkR} (h : Cod.markr.Sl F w v xs) {k : Nat} (hk : k < xs.length) : ∃ b off cap A1 c1, v = .slice (some ⟨b, off, none⟩) xs.length cap ∧ F b ∧ xs.length ≤ cap ∧ cap ≤ maxLen ∧
    w.cell? ⟨b, off + k * 2, none⟩ = some (.string xs[k].ty) ∧
    w.cell? ⟨b, off + k * 2 + 1, none⟩ = some (.slice A1 xs[k].fr.length c1) ∧
    MarkRd F w (.slice A1 xs[k].fr.length c1) xs[k] := by
  obtain ⟨b, off, cap, cs, hv, hF, h1, h2, hcell, v1, rfl, hV⟩ := h.get hk
  obtain ⟨A1, c1, rfl, _⟩ := hV.fr
  exact ⟨b, off, cap, A1, c1, hv, hF, h1, h2, by simpa [Cod.markr] using hcell 0 _ rfl, by simpa [Cod.markr] using hcell 1 _ rfl, hV⟩
structure MarkRo (lo hi : Nat) (w : World) (v1 : Value) (x : MarkR) : Prop where
  ty : x.ty.size ≤ maxLen
  rows : Own OCod.i64 3 lo hi w v1 x.fr
theorem MarkRo.keep {lo hi : Nat} {w w' : World} {v1 : Value} {x : MarkR} (hk : ∀ b, lo ≤ b → b < hi → w'.heap[b]? = w.heap[b]?) (h : MarkRo lo hi w v1 x) : MarkRo lo hi w' v1 x := by
  obtain ⟨h0, o1⟩ := h
  exact ⟨h0, o1.keep fun b g1 g2 => hk b (by omega) (by omega)⟩
theorem MarkRo.mono {lo hi lo' hi' : Nat} {w : World} {v1 : Value} {x : MarkR} (g1 : lo' ≤ lo) (g2 : hi ≤ hi') (h : MarkRo lo hi w v1 x) : MarkRo lo' hi' w v1 x := by
  obtain ⟨h0, o1⟩ := h
  exact ⟨h0, o1.mono (by omega) (by omega)⟩
theorem MarkRo.rd {lo hi : Nat} {w : World} {v1 : Value} {x : MarkR} (h : MarkRo lo hi w v1 x) : MarkRd (fun b => lo ≤ b ∧ b < hi) w v1 x := by
  obtain ⟨h0, o1⟩ := h
  exact ⟨h0, o1.sl.mono fun b hb => ⟨by omega, by omega⟩⟩
def OCod.markr : OCod MarkR where
  cod := Cod.markr
  rd lo hi w cs x := ∃ v1, cs = [.string x.ty, v1] ∧ MarkRo lo hi w v1 x
  get h := by obtain ⟨v1, hc, h⟩ := h; exact ⟨v1, hc, h.rd⟩
  keep hk h := by obtain ⟨v1, hc, h⟩ := h; exact ⟨v1, hc, h.keep hk⟩
  mono h1 h2 h := by obtain ⟨v1, hc, h⟩ := h; exact ⟨v1, hc, h.mono h1 h2⟩

/-- A shape. -/
structure ShapeR where
  stack : List MarkR
  places : List MarkR
structure ShapeRd (F : Nat → Prop) (w : World) (v0 v1 : Value) (x : ShapeR) : Prop where
  stack : Cod.markr.Sl F w v0 x.stack
  places : Cod.markr.Sl F w v1 x.places
theorem ShapeRd.keep {F : Nat → Prop} {w w' : World} {v0 v1 : Value} {x : ShapeR} (hk : ∀ b, F b → w'.heap[b]? = w.heap[b]?) (h : ShapeRd F w v0 v1 x) : ShapeRd F w' v0 v1 x := ⟨h.stack.keep hk, h.places.keep hk⟩
theorem ShapeRd.mono {F G : Nat → Prop} {w : World} {v0 v1 : Value} {x : ShapeR} (hg : ∀ b, F b → G b) (h : ShapeRd F w v0 v1 x) : ShapeRd G w v0 v1 x := ⟨h.stack.mono hg, h.places.mono hg⟩
def Cod.shaper : Cod ShapeR where
  size := 2
  rd F w cs x := ∃ v0 v1, cs = [v0, v1] ∧ ShapeRd F w v0 v1 x
  len h := by obtain ⟨v0, v1, rfl, _⟩ := h; rfl
  keep hk h := by obtain ⟨v0, v1, hc, h⟩ := h; exact ⟨v0, v1, hc, h.keep hk⟩
  mono hg h := by obtain ⟨v0, v1, hc, h⟩ := h; exact ⟨v0, v1, hc, h.mono hg⟩
theorem Cod.Sl.shaper_at {F : Nat → Prop} {w : World} {v : Value} {xs : List ShapeR} (h : Cod.shaper.Sl F w v xs) {k : Nat} (hk : k < xs.length) : ∃ b off cap A0 c0 A1 c1, v = .slice (some ⟨b, off, none⟩) xs.length cap ∧ F b ∧ xs.length ≤ cap ∧ cap ≤ maxLen ∧
    w.cell? ⟨b, off + k * 2, none⟩ = some (.slice A0 xs[k].stack.length c0) ∧
    w.cell? ⟨b, off + k * 2 + 1, none⟩ = some (.slice A1 xs[k].places.length c1) ∧
    ShapeRd F w (.slice A0 xs[k].stack.length c0) (.slice A1 xs[k].places.length c1) xs[k] := by
  obtain ⟨b, off, cap, cs, hv, hF, h1, h2, hcell, v0, v1, rfl, hV⟩ := h.get hk
  obtain ⟨A0, c0, rfl, _⟩ := hV.stack
  obtain ⟨A1, c1, rfl, _⟩ := hV.places
  exact ⟨b, off, cap, A0, c0, A1, c1, hv, hF, h1, h2, by simpa [Cod.shaper] using hcell 0 _ rfl, by simpa [Cod.shaper] using hcell 1 _ rfl, hV⟩
structure ShapeRo (lo hi : Nat) (w : World) (v0 v1 : Value) (x : ShapeR) : Prop where
  rows : ∃ m1, lo ≤ m1 ∧ m1 ≤ hi ∧ Own OCod.markr 65 lo m1 w v0 x.stack ∧ Own OCod.markr 65 m1 hi w v1 x.places
theorem ShapeRo.keep {lo hi : Nat} {w w' : World} {v0 v1 : Value} {x : ShapeR} (hk : ∀ b, lo ≤ b → b < hi → w'.heap[b]? = w.heap[b]?) (h : ShapeRo lo hi w v0 v1 x) : ShapeRo lo hi w' v0 v1 x := by
  obtain ⟨m1, b0, b1, o0, o1⟩ := h
  exact ⟨m1, b0, b1, o0.keep fun b g1 g2 => hk b (by omega) (by omega), o1.keep fun b g1 g2 => hk b (by omega) (by omega)⟩
theorem ShapeRo.mono {lo hi lo' hi' : Nat} {w : World} {v0 v1 : Value} {x : ShapeR} (g1 : lo' ≤ lo) (g2 : hi ≤ hi') (h : ShapeRo lo hi w v0 v1 x) : ShapeRo lo' hi' w v0 v1 x := by
  obtain ⟨m1, b0, b1, o0, o1⟩ := h
  exact ⟨m1, by omega, by omega, o0.mono (by omega) (by omega), o1.mono (by omega) (by omega)⟩
theorem ShapeRo.rd {lo hi : Nat} {w : World} {v0 v1 : Value} {x : ShapeR} (h : ShapeRo lo hi w v0 v1 x) : ShapeRd (fun b => lo ≤ b ∧ b < hi) w v0 v1 x := by
  obtain ⟨m1, b0, b1, o0, o1⟩ := h
  exact ⟨o0.sl.mono fun b hb => ⟨by omega, by omega⟩, o1.sl.mono fun b hb => ⟨by omega, by omega⟩⟩
def OCod.shaper : OCod ShapeR where
  cod := Cod.shaper
  rd lo hi w cs x := ∃ v0 v1, cs = [v0, v1] ∧ ShapeRo lo hi w v0 v1 x
  get h := by obtain ⟨v0, v1, hc, h⟩ := h; exact ⟨v0, v1, hc, h.rd⟩
  keep hk h := by obtain ⟨v0, v1, hc, h⟩ := h; exact ⟨v0, v1, hc, h.keep hk⟩
  mono h1 h2 h := by obtain ⟨v0, v1, hc, h⟩ := h; exact ⟨v0, v1, hc, h.mono h1 h2⟩
theorem three_blocks (w : World) (a b c : Obj) : ((((w.alloc a).alloc b).alloc c).drew).heap[w.heap.size]? = some a ∧ ((((w.alloc a).alloc b).alloc c).drew).heap[w.heap.size + 1]? = some b ∧ ((((w.alloc a).alloc b).alloc c).drew).heap[w.heap.size + 1 + 1]? = some c ∧
    Below w.heap.size w (((w.alloc a).alloc b).alloc c).drew := by
  refine ⟨?_, ?_, ?_, ((((Below.refl _ _).alloc (Nat.le_refl _) _).alloc (by simp) _).alloc (by simp; omega) _).drew⟩
  · show (((w.alloc a).alloc b).alloc c).heap[w.heap.size]? = _
    rw [Below.heap_alloc _ _ _ (by simp; omega), Below.heap_alloc _ _ _ (by simp)]
    exact heap_alloc_new w a
  · show (((w.alloc a).alloc b).alloc c).heap[w.heap.size + 1]? = _
    rw [Below.heap_alloc _ _ _ (by simp)]
    have := heap_alloc_new (w.alloc a) b
    simpa only [World.size_alloc] using this
  · show (((w.alloc a).alloc b).alloc c).heap[w.heap.size + 1 + 1]? = _
    have := heap_alloc_new ((w.alloc a).alloc b) c
    simpa only [World.size_alloc] using this
end Go.Proofs.YtgfpncpphpkahaaDoor

namespace Go.Proofs.YtgfpncpphpkahaaDoor
open Go.RowKit



def szMarkr (x : MarkR) (l : Int) : Int := szThen (l - x.ty.size) fun l0 => szThen (szI x.fr l0) fun l1 => l1
theorem szMarkr_le (x : MarkR) (l : Int) (h : 0 ≤ l) : szMarkr x l ≤ l := by
  unfold szMarkr
  refine szThen_le h (by omega) fun l0 p0 q0 => ?_
  refine szThen_le h (by have := szI_le x.fr l0 (by omega); omega) fun l1 p1 q1 => ?_
  omega
def SmolMarkr (x : MarkR) : Prop := x.fr.length ≤ 2000000
theorem smol_markr {x : MarkR} {l : Int} (h0 : 0 ≤ l) (h1 : l ≤ 2000000) (h : 0 ≤ szMarkr x l) : SmolMarkr x := by
  unfold szMarkr at h
  obtain ⟨g0, h0'⟩ := szThen_pos h
  have le0 : l - x.ty.size ≤ l := by omega
  obtain ⟨l0, e0⟩ : ∃ l0, l0 = l - x.ty.size := ⟨_, rfl⟩
  rw [← e0] at g0 h0' le0
  obtain ⟨g1, h1'⟩ := szThen_pos h0'
  have le1 := szI_le x.fr l0 (by omega)
  have n1 := szI_len g1
  obtain ⟨l1, e1⟩ : ∃ l1, l1 = szI x.fr l0 := ⟨_, rfl⟩
  rw [← e1] at g1 h1' le1
  unfold SmolMarkr
  omega

set_option maxRecDepth 100000 in
set_option maxHeartbeats 1000000 in
theorem szMarkr_one (F : Nat → Prop) (A1 : Option Addr) (n1 c1 : Nat) (x : MarkR) (left : Int) (w : World) (h : MarkRd F w (.slice A1 n1 c1) x) (hF : ∀ b, F b → b < w.heap.size) (h0 : 0 ≤ left) (h1 : left ≤ 2000000) :
    Calls Tryd.prog 74 #[.agg #[.string x.ty, .slice A1 n1 c1], .int .i64 left] w fun e w' => e = .returned (.int .i64 (szMarkr x left)) ∧ Below w.heap.size w w' := by
  obtain ⟨w0, hw0⟩ : ∃ w0, w0 = w.alloc (.cells #[.string x.ty, .slice A1 n1 c1] 118) := ⟨_, rfl⟩
  have HB0 := Lib.hid (show Blk w0 w.heap.size 118 #[.string x.ty, .slice A1 n1 c1] by rw [hw0]; exact Blk.new _ _ _)
  have HW0 := Lib.hid (show Below w.heap.size w w0 by rw [hw0]; exact (Below.refl _ _).alloc (Nat.le_refl _) _)
  have hs0 : w0.heap.size = w.heap.size + 1 := by rw [hw0]; simp
  have HV0 := Lib.hid (h.keep (w' := w0) fun b hb => HW0.out.block b (hF b hb))
  have HF0 := Lib.hid (show ∀ b, F b → b < w0.heap.size from fun b hb => by have := hF b hb; omega)
  have Hw0 := Lib.hid hw0
  have Hs0 := Lib.hid hs0
  have hm0 := h.ty
  unfold maxLen at hm0
  clear h hw0 hs0 hF
  go_enter Tryd.func74, Tryd.ntmps74
  by_cases hn0 : left - x.ty.size < 0
  · have HR : Hid (szMarkr x left = -1) := by show _ = _; unfold szMarkr; rw [szThen_neg hn0]
    go_wp2
    go_ret
    exact ⟨ret_int HR.out.symm, by have := HW0.out; rw [Hw0.out] at this; exact this⟩
  · have p0 := hn0
    go_wp2_with fail
    rw [← Hw0.out]
    refine (sz_i64 F _ x.fr (left - x.ty.size) _ HV0.out.fr HF0.out (by omega) (by omega)).mono ?_
    rintro e w2 ⟨rfl, hb2⟩
    have HE2 := Lib.hid (hb2)
    clear hb2
    have hle1 := szI_le x.fr (left - x.ty.size) (by omega)
    obtain ⟨s1, hs1⟩ : ∃ s, s = szI x.fr ((left - x.ty.size)) := ⟨_, rfl⟩
    rw [← hs1] at hle1 ⊢
    have HQ1 := Lib.hid hs1
    clear hs1
    by_cases hn1 : s1 < 0
    · have HR : Hid (szMarkr x left = -1) := by show _ = _; unfold szMarkr; rw [szThen_go (by omega), ← HQ1.out, szThen_neg hn1]
      go_wp2
      go_ret
      exact ⟨ret_int HR.out.symm, HW0.out.trans (HE2.out.mono (by have := Hs0.out; omega))⟩
    · have HP1 := Lib.hid hn1
      have HR : Hid (szMarkr x left = s1) := by show _ = _; unfold szMarkr; rw [szThen_go (by omega), ← HQ1.out, szThen_go (by have := HP1.out; omega)]
      go_wp2
      go_ret
      exact ⟨ret_int HR.out.symm, HW0.out.trans (HE2.out.mono (by have := Hs0.out; omega))⟩

set_option maxRecDepth 100000 in
set_option maxHeartbeats 1000000 in
theorem sz_markr : SzRow Cod.markr 37 (szS szMarkr) := by
  intro F v xs left w h hF h0 h1
  have HS := Lib.hid h
  obtain ⟨A, cap, rfl, hlc, hcm, _⟩ := h
  unfold maxLen at hcm
  by_cases ht : left - xs.length < 0
  · go_enter Tryd.func37, Tryd.ntmps37
    go_wp2
    go_ret
    exact ⟨ret_int (szS_neg _ _ _ ht).symm, Below.refl _ _⟩
  · have HF := Lib.hid (szS_go szMarkr xs left ht)
    go_enter Tryd.func37, Tryd.ntmps37
    go_wp2
    go_loopw [1, 5] (fun l i wr => ∃ (k : Nat) (n : Int), k ≤ xs.length ∧ i = .int .i64 k ∧ l = .int .i64 n ∧ 0 ≤ n ∧ n ≤ 2000000 ∧ Hid (szList szMarkr (xs.drop k) n = szS szMarkr xs left) ∧ Below w.heap.size w wr) (fun _ i _ => xs.length - (intOf i).toNat)
    case atStart => exact ⟨0, _, Nat.zero_le _, rfl, rfl, by omega, by omega, HF.out, Below.refl _ _⟩
    case round =>
      obtain ⟨k, n, hk, rfl, rfl, hn0, hn1, HH, hb⟩ := hrel
      by_cases hlt : k < xs.length
      · have HSr := Lib.hid (HS.out.keep (below_keeps hb hF))
        obtain ⟨b, off, cap', A1, c1, hv, hFb, _, _, hc0, hc1, hV⟩ := HSr.out.markr_at hlt
        obtain ⟨rfl, rfl⟩ : A = some ⟨b, off, none⟩ ∧ cap = cap' := by simpa using hv
        have hle := szMarkr_le xs[k] n hn0
        have hsz := hb.size
        have HC := Lib.hid (szMarkr_one F _ _ _ xs[k] n wr hV (fun b hb' => Nat.lt_of_lt_of_le (hF b hb') hsz) hn0 hn1)
        clear hv hV
        by_cases hneg : szMarkr xs[k] n < 0
        · go_wp2_with (go_at_call 74; refine HC.out.mono ?_; rintro e w' ⟨rfl, hb1⟩)
          go_ret
          exact ⟨ret_int (szList_stop hlt HH.out hneg), hb.trans (hb1.mono hsz)⟩
        · go_wp2_with (go_at_call 74; refine HC.out.mono ?_; rintro e w' ⟨rfl, hb1⟩)
          go_roundw
          case rel => exact ⟨k + 1, _, by omega, by go_num, rfl, by omega, by omega, szList_step hlt HH.out (by omega), hb.trans (hb1.mono hsz)⟩
          case measure => simp [intOf]; omega
      · go_wp2
        go_ret
        exact ⟨ret_int (szList_end (by omega) HH.out), hb⟩

def szShaper (x : ShapeR) (l : Int) : Int := szThen (szS szMarkr x.stack l) fun l0 => szThen (szS szMarkr x.places l0) fun l1 => l1
theorem szShaper_le (x : ShapeR) (l : Int) (h : 0 ≤ l) : szShaper x l ≤ l := by
  unfold szShaper
  refine szThen_le h (by have := szS_le szMarkr_le x.stack l (by omega); omega) fun l0 p0 q0 => ?_
  refine szThen_le h (by have := szS_le szMarkr_le x.places l0 (by omega); omega) fun l1 p1 q1 => ?_
  omega
def SmolShaper (x : ShapeR) : Prop := x.stack.length ≤ 2000000 ∧ x.places.length ≤ 2000000 ∧ (∀ y ∈ x.stack, SmolMarkr y) ∧ (∀ y ∈ x.places, SmolMarkr y)
theorem smol_shaper {x : ShapeR} {l : Int} (h0 : 0 ≤ l) (h1 : l ≤ 2000000) (h : 0 ≤ szShaper x l) : SmolShaper x := by
  unfold szShaper at h
  obtain ⟨g0, h0'⟩ := szThen_pos h
  have le0 := szS_le szMarkr_le x.stack l (by omega)
  obtain ⟨n0, a0⟩ := szS_len (szMarkr_le) g0
  obtain ⟨l0, e0⟩ : ∃ l0, l0 = szS szMarkr x.stack l := ⟨_, rfl⟩
  rw [← e0] at g0 h0' le0
  obtain ⟨g1, h1'⟩ := szThen_pos h0'
  have le1 := szS_le szMarkr_le x.places l0 (by omega)
  obtain ⟨n1, a1⟩ := szS_len (szMarkr_le) g1
  obtain ⟨l1, e1⟩ : ∃ l1, l1 = szS szMarkr x.places l0 := ⟨_, rfl⟩
  rw [← e1] at g1 h1' le1
  exact ⟨by omega, by omega, fun y hy => by obtain ⟨l', z0, z1, z2⟩ := a0 y hy; exact smol_markr z0 (by omega) z2, fun y hy => by obtain ⟨l', z0, z1, z2⟩ := a1 y hy; exact smol_markr z0 (by omega) z2⟩

set_option maxRecDepth 100000 in
set_option maxHeartbeats 1000000 in
theorem szShaper_one (F : Nat → Prop) (A0 A1 : Option Addr) (n0 c0 n1 c1 : Nat) (x : ShapeR) (left : Int) (w : World) (h : ShapeRd F w (.slice A0 n0 c0) (.slice A1 n1 c1) x) (hF : ∀ b, F b → b < w.heap.size) (h0 : 0 ≤ left) (h1 : left ≤ 2000000) :
    Calls Tryd.prog 15 #[.agg #[.slice A0 n0 c0, .slice A1 n1 c1], .int .i64 left] w fun e w' => e = .returned (.int .i64 (szShaper x left)) ∧ Below w.heap.size w w' := by
  obtain ⟨w0, hw0⟩ : ∃ w0, w0 = w.alloc (.cells #[.slice A0 n0 c0, .slice A1 n1 c1] 38) := ⟨_, rfl⟩
  have HB0 := Lib.hid (show Blk w0 w.heap.size 38 #[.slice A0 n0 c0, .slice A1 n1 c1] by rw [hw0]; exact Blk.new _ _ _)
  have HW0 := Lib.hid (show Below w.heap.size w w0 by rw [hw0]; exact (Below.refl _ _).alloc (Nat.le_refl _) _)
  have hs0 : w0.heap.size = w.heap.size + 1 := by rw [hw0]; simp
  have HV0 := Lib.hid (h.keep (w' := w0) fun b hb => HW0.out.block b (hF b hb))
  have HF0 := Lib.hid (show ∀ b, F b → b < w0.heap.size from fun b hb => by have := hF b hb; omega)
  have Hw0 := Lib.hid hw0
  have Hs0 := Lib.hid hs0
  clear h hw0 hs0 hF
  go_enter Tryd.func15, Tryd.ntmps15
  go_wp2_with fail
  rw [← Hw0.out]
  refine (sz_markr F _ x.stack left _ HV0.out.stack HF0.out (by omega) (by omega)).mono ?_
  rintro e w1 ⟨rfl, hb1⟩
  have HE1 := Lib.hid (hb1)
  clear hb1
  have hle0 := szS_le szMarkr_le x.stack left (by omega)
  obtain ⟨s0, hs0⟩ : ∃ s, s = szS szMarkr x.stack left := ⟨_, rfl⟩
  rw [← hs0] at hle0 ⊢
  have HQ0 := Lib.hid hs0
  clear hs0
  by_cases hn0 : s0 < 0
  · have HR : Hid (szShaper x left = -1) := by show _ = _; unfold szShaper; rw [← HQ0.out, szThen_neg hn0]
    go_wp2
    go_ret
    exact ⟨ret_int HR.out.symm, HW0.out.trans (HE1.out.mono (by have := Hs0.out; omega))⟩
  · have HP0 := Lib.hid hn0
    obtain ⟨z0_0, z0_1⟩ := (HB0.out.below HE1.out (by have := Hs0.out; omega)).g2
    have HV1 := Lib.hid (HV0.out.keep (below_keeps HE1.out HF0.out))
    have HF1 := Lib.hid (show ∀ b, F b → b < w1.heap.size from fun b hb => Nat.lt_of_lt_of_le (HF0.out b hb) HE1.out.size)
    go_wp2_with fail
    refine (sz_markr F _ x.places s0 _ (HV1.out.places) HF1.out (by omega) (by omega)).mono ?_
    rintro e w2 ⟨rfl, hb2⟩
    have HE2 := Lib.hid (HE1.out.trans (hb2.mono HE1.out.size))
    clear hb2
    have hle1 := szS_le szMarkr_le x.places s0 (by omega)
    obtain ⟨s1, hs1⟩ : ∃ s, s = szS szMarkr x.places s0 := ⟨_, rfl⟩
    rw [← hs1] at hle1 ⊢
    have HQ1 := Lib.hid hs1
    clear hs1
    by_cases hn1 : s1 < 0
    · have HR : Hid (szShaper x left = -1) := by show _ = _; unfold szShaper; rw [← HQ0.out, szThen_go (by have := HP0.out; omega), ← HQ1.out, szThen_neg hn1]
      go_wp2
      go_ret
      exact ⟨ret_int HR.out.symm, HW0.out.trans (HE2.out.mono (by have := Hs0.out; omega))⟩
    · have HP1 := Lib.hid hn1
      have HR : Hid (szShaper x left = s1) := by show _ = _; unfold szShaper; rw [← HQ0.out, szThen_go (by have := HP0.out; omega), ← HQ1.out, szThen_go (by have := HP1.out; omega)]
      go_wp2
      go_ret
      exact ⟨ret_int HR.out.symm, HW0.out.trans (HE2.out.mono (by have := Hs0.out; omega))⟩

end Go.Proofs.YtgfpncpphpkahaaDoor

namespace Go.Proofs.YtgfpncpphpkahaaDoor
open Go.RowKit


theorem info_markr : (Tryd.prog.info? 65).map (fun i => (i.zero, i.size, i.bytes)) = some (some (.agg #[.string ⟨#[]⟩, .slice none 0 0]), 2, 40) := by kernel_rfl
def ToMarkrD (x : MarkR) (w : World) (e : Ending) (w' : World) : Prop := ∃ A1' c1', e = .returned (.agg #[.string x.ty, .slice A1' x.fr.length c1']) ∧ MarkRo w.heap.size w'.heap.size w' (.slice A1' x.fr.length c1') x ∧ Below w.heap.size w w'

set_option maxRecDepth 100000 in
set_option maxHeartbeats 2000000 in
theorem toMarkr_one (F : Nat → Prop) (A1 : Option Addr) (n1 c1 : Nat) (x : MarkR) (w : World) (h : MarkRd F w (.slice A1 n1 c1) x) (hF : ∀ b, F b → b < w.heap.size) (hsm : SmolMarkr x) :
    Calls Tryd.prog 76 #[.agg #[.string x.ty, .slice A1 n1 c1]] w (ToMarkrD x w) := by
  obtain ⟨w0, hw0⟩ : ∃ w0, w0 = ((w.alloc (.cells #[.string x.ty, .slice A1 n1 c1] 118)).alloc (.cells #[.string ⟨#[]⟩, .slice none 0 0] 65)).alloc (.cells #[.string x.ty, .slice none 0 0] 65) := ⟨_, rfl⟩
  have hs0 : w0.heap.size = w.heap.size + 3 := by rw [hw0]; simp
  have HP0 := Lib.hid (show Blk w0 w.heap.size 118 #[.string x.ty, .slice A1 n1 c1] by rw [hw0]; exact ((Blk.new w _ _).alloc _).alloc _)
  have HR0 := Lib.hid (show Blk w0 (w.heap.size + 1) 65 #[.string ⟨#[]⟩, .slice none 0 0] by rw [hw0]; have := (Blk.new (w.alloc (.cells #[.string x.ty, .slice A1 n1 c1] 118)) 65 #[.string ⟨#[]⟩, .slice none 0 0]).alloc (.cells #[.string x.ty, .slice none 0 0] 65); simpa using this)
  have HO0 := Lib.hid (show Blk w0 (w.heap.size + 1 + 1) 65 #[.string x.ty, .slice none 0 0] by rw [hw0]; have := Blk.new ((w.alloc (.cells #[.string x.ty, .slice A1 n1 c1] 118)).alloc (.cells #[.string ⟨#[]⟩, .slice none 0 0] 65)) 65 #[.string x.ty, .slice none 0 0]; simpa using this)
  have HW0 := Lib.hid (show Below w.heap.size w w0 by rw [hw0]; exact (((Below.refl _ _).alloc (Nat.le_refl _) _).alloc (by simp) _).alloc (by simp; omega) _)
  have HV := Lib.hid h
  have HF := Lib.hid hF
  have Hw0 := Lib.hid hw0
  have Hs0 := Lib.hid hs0
  have HSm := Lib.hid hsm
  clear h hF hw0 hs0 hsm
  go_enter Tryd.func76, Tryd.ntmps76
  have hB0 := HW0.out
  have HC0 := Lib.hid (to_i64 F _ x.fr w0 (HV.out.fr.keep (below_keeps hB0 HF.out)) (fun b hb => Nat.lt_of_lt_of_le (HF.out b hb) hB0.size) (HSm.out) (fun _ _ => trivial))
  clear hB0
  go_wp2_with fail
  rw [← Hw0.out]
  refine HC0.out.mono ?_
  rintro e w1 ⟨A1', c1', rfl, hM1⟩
  have hsz0 := HW0.out.size
  have hz0 := Hs0.out
  have hs1 := hM1.2.size
  obtain ⟨wE, hwE⟩ : ∃ wE, wE = ((w1.setCell ⟨w.heap.size + 1 + 1, 1, none⟩ (.slice A1' x.fr.length c1')).setCell ⟨w.heap.size + 1, 0, none⟩ (.string x.ty)).setCell ⟨w.heap.size + 1, 1, none⟩ (.slice A1' x.fr.length c1') := ⟨_, rfl⟩
  have hP := HP0.out.below hM1.2 (by omega)
  have hR := HR0.out.below hM1.2 (by omega)
  have hO := HO0.out.below hM1.2 (by omega)
  obtain ⟨x0, x1⟩ := hR.g2
  obtain ⟨y0, y1⟩ := hR.h2
  obtain ⟨z0, z1⟩ := hO.g2
  obtain ⟨t0, t1⟩ := hO.h2
  have HRE := Lib.hid (show Blk wE (w.heap.size + 1) 65 #[.string x.ty, .slice A1' x.fr.length c1'] by rw [hwE]; exact (((hR.far (p := ⟨w.heap.size + 1 + 1, 1, none⟩) (by simp) (.slice A1' x.fr.length c1')).set_ 0 (.string x.ty)).set_ 1 (.slice A1' x.fr.length c1')))
  have hkE : ∀ b, b ≠ w.heap.size + 1 → b ≠ w.heap.size + 1 + 1 → wE.heap[b]? = w1.heap[b]? := fun b h1 h2 => by rw [hwE, Below.heap_setCell _ _ _ _ h1, Below.heap_setCell _ _ _ _ h1, Below.heap_setCell _ _ _ _ h2]
  have hsE : wE.heap.size = w1.heap.size := by rw [hwE]; simp [World.setCell]
  have HWE := Lib.hid (show Below w.heap.size w wE from by rw [hwE]; exact ((((HW0.out.trans (hM1.2.mono hsz0)).setCell (by simp; omega) _).setCell (by simp) _).setCell (by simp) _))
  have HX1_1 := Lib.hid (hM1.1.keep (w' := wE) fun b g1 g2 => hkE b (by omega) (by omega))
  have HQ := Lib.hid (show ToMarkrD x w (.returned (.agg #[.string x.ty, .slice A1' x.fr.length c1'])) wE from ⟨A1', c1', rfl, ⟨HV.out.ty, HX1_1.out.mono (by omega) (by omega)⟩, HWE.out⟩)
  have HwE := Lib.hid hwE
  clear hM1 hwE hkE hP hR hO HC0
  go_wp2
  rw [← HwE.out]
  obtain ⟨r0, r1⟩ := HRE.out.g2
  exact bodyPost_ret (v := .agg #[.string x.ty, .slice A1' x.fr.length c1']) (by simp [results, Tryd.results76, go_sem, r0, r1]) rfl HQ.out

set_option maxRecDepth 100000 in
set_option maxHeartbeats 2000000 in
theorem to_markr : ToRow OCod.markr 65 39 SmolMarkr := by
  intro F v xs w h hF hn hm
  have HS : Hid (Cod.markr.Sl F w v xs) := Lib.hid h
  have Hm := Lib.hid hm
  clear hm
  obtain ⟨A, cap, rfl, hlc, hcm, _⟩ := h
  unfold maxLen at hcm
  have hmk := make_len (P := Tryd.prog) 24 65 _ 2 40 Tryd.underlying24 info_markr (by omega) xs.length hn
  go_enter Tryd.func39, Tryd.ntmps39
  go_wp2
  go_loopw [4] (fun i wr => ∃ (k : Nat) (cs : Array Value), k ≤ xs.length ∧ i = .int .i64 k ∧ Blk wr w.heap.size 65 cs ∧ cs.size = xs.length * 2 ∧ OPart OCod.markr w.heap.size wr cs k xs ∧ Below w.heap.size w wr) (fun i _ => xs.length - (intOf i).toNat)
  case atStart => exact ⟨0, _, Nat.zero_le _, rfl, Blk.new _ _ _, by simp [madeCells], OPart.zero (by simp), (Below.refl _ _).alloc (Nat.le_refl _) _⟩
  case round =>
    obtain ⟨k, cs, hk, rfl, HB, hsz, HP, hb⟩ := hrel
    have HBl := HB.lt
    by_cases hlt : k < xs.length
    · have HSr := Lib.hid (HS.out.keep (below_keeps hb hF))
      obtain ⟨b, off, cap', A1, c1, hv, hFb, _, _, hc0, hc1, hV⟩ := HSr.out.markr_at hlt
      obtain ⟨rfl, rfl⟩ : A = some ⟨b, off, none⟩ ∧ cap = cap' := by simpa using hv
      have HB' := Lib.hid HB
      have HP' := Lib.hid HP
      have Hsz := Lib.hid hsz
      have hws := hb.size
      have HC := Lib.hid (toMarkr_one F _ _ _ xs[k] wr hV (fun b hb' => Nat.lt_of_lt_of_le (hF b hb') hws) (Hm.out xs[k] (List.getElem_mem hlt)))
      clear hv HB HP hsz hmk hV
      go_wp2_with fail
      refine HC.out.mono ?_
      rintro e w1 ⟨A1', c1', rfl, hO, hbl⟩
      have HB1 := HB'.out.below hbl HBl
      obtain ⟨d0, hd0⟩ := HB1.holds Hsz.out (i := k * 2) (by omega)
      have hf0 := HB1.frozen (k * 2)
      obtain ⟨d1, hd1⟩ := HB1.holds Hsz.out (i := k * 2 + 1) (by omega)
      have hf1 := HB1.frozen (k * 2 + 1)
      have HBB := Lib.hid HB1
      have hw1 := hbl.size
      have HO := Lib.hid hO
      have HBe := Lib.hid hbl
      clear HB1 hO hbl HC
      go_wp2
      go_roundw
      case rel =>
        obtain ⟨wE, hwE⟩ : ∃ wE, wE = ((w1).setCell ⟨w.heap.size, k * 2, none⟩ (.string xs[k].ty)).setCell ⟨w.heap.size, k * 2 + 1, none⟩ (.slice A1' xs[k].fr.length c1') := ⟨_, rfl⟩
        rw [← hwE]
        have hk1 : ∀ b, w.heap.size < b → wE.heap[b]? = w1.heap[b]? := fun b hb' => by
          rw [hwE, Below.heap_setCell _ _ _ _ (by simp; omega), Below.heap_setCell _ _ _ _ (by simp; omega)]
        have hse : wE.heap.size = w1.heap.size := by rw [hwE]; simp [World.setCell]
        refine ⟨k + 1, _, by omega, by go_num, by rw [hwE]; exact (HBB.out.set_ _ _).set_ _ _, by simp only [Array.size_setIfInBounds]; exact Hsz.out, ?_, ?_⟩
        · refine HP'.out.next (news := [.string xs[k].ty, .slice A1' xs[k].fr.length c1']) hlt (fun i h1 h2 => (hk1 i h1).trans (HBe.out.block i h2)) (by rw [hse]; exact hw1)
            (fun i hi => by
              have hi' : i < k * 2 := hi
              simp only [Array.getElem?_setIfInBounds]
              rw [if_neg (by omega), if_neg (by omega)]) (fun j u hu => ?_)
            ⟨_, rfl, (HO.out.keep fun b g1 g2 => hk1 b (by omega)).mono (Nat.le_refl _) (by omega)⟩
          show _[k * 2 + j]? = _
          have hsz2 := Hsz.out
          match j, hu with
          | 0, hu => simp at hu; subst hu; simp [Array.getElem?_setIfInBounds]; omega
          | 1, hu => simp at hu; subst hu; simp [Array.getElem?_setIfInBounds]; omega
          | j + 2, hu => simp at hu
        · rw [hwE]; exact (((hb.trans (HBe.out.mono hws)).setCell (by simp) _).setCell (by simp) _)
      case measure => simp [intOf]; omega
    · obtain rfl : k = xs.length := by omega
      have HM : MadeO OCod.markr 65 w wr (.slice (some ⟨w.heap.size, 0, none⟩) xs.length xs.length) xs := ⟨HP.own HB (Nat.le_refl _) (Nat.le_refl _) (by unfold maxLen; omega), hb⟩
      clear hmk HB HP
      go_wp2
      go_ret
      exact ⟨_, _, rfl, HM⟩
theorem info_shaper : (Tryd.prog.info? 26).map (fun i => (i.zero, i.size, i.bytes)) = some (some (.agg #[.slice none 0 0, .slice none 0 0]), 2, 48) := by kernel_rfl
def ToShaperD (x : ShapeR) (w : World) (e : Ending) (w' : World) : Prop := ∃ A0' c0' A1' c1', e = .returned (.agg #[.slice A0' x.stack.length c0', .slice A1' x.places.length c1']) ∧ ShapeRo w.heap.size w'.heap.size w' (.slice A0' x.stack.length c0') (.slice A1' x.places.length c1') x ∧ Below w.heap.size w w'

set_option maxRecDepth 100000 in
set_option maxHeartbeats 2000000 in
theorem toShaper_one (F : Nat → Prop) (A0 A1 : Option Addr) (n0 c0 n1 c1 : Nat) (x : ShapeR) (w : World) (h : ShapeRd F w (.slice A0 n0 c0) (.slice A1 n1 c1) x) (hF : ∀ b, F b → b < w.heap.size) (hsm : SmolShaper x) :
    Calls Tryd.prog 17 #[.agg #[.slice A0 n0 c0, .slice A1 n1 c1]] w (ToShaperD x w) := by
  obtain ⟨w0, hw0⟩ : ∃ w0, w0 = ((w.alloc (.cells #[.slice A0 n0 c0, .slice A1 n1 c1] 38)).alloc (.cells #[.slice none 0 0, .slice none 0 0] 26)).alloc (.cells #[.slice none 0 0, .slice none 0 0] 26) := ⟨_, rfl⟩
  have hs0 : w0.heap.size = w.heap.size + 3 := by rw [hw0]; simp
  have HP0 := Lib.hid (show Blk w0 w.heap.size 38 #[.slice A0 n0 c0, .slice A1 n1 c1] by rw [hw0]; exact ((Blk.new w _ _).alloc _).alloc _)
  have HR0 := Lib.hid (show Blk w0 (w.heap.size + 1) 26 #[.slice none 0 0, .slice none 0 0] by rw [hw0]; have := (Blk.new (w.alloc (.cells #[.slice A0 n0 c0, .slice A1 n1 c1] 38)) 26 #[.slice none 0 0, .slice none 0 0]).alloc (.cells #[.slice none 0 0, .slice none 0 0] 26); simpa using this)
  have HO0 := Lib.hid (show Blk w0 (w.heap.size + 1 + 1) 26 #[.slice none 0 0, .slice none 0 0] by rw [hw0]; have := Blk.new ((w.alloc (.cells #[.slice A0 n0 c0, .slice A1 n1 c1] 38)).alloc (.cells #[.slice none 0 0, .slice none 0 0] 26)) 26 #[.slice none 0 0, .slice none 0 0]; simpa using this)
  have HW0 := Lib.hid (show Below w.heap.size w w0 by rw [hw0]; exact (((Below.refl _ _).alloc (Nat.le_refl _) _).alloc (by simp) _).alloc (by simp; omega) _)
  have HV := Lib.hid h
  have HF := Lib.hid hF
  have Hw0 := Lib.hid hw0
  have Hs0 := Lib.hid hs0
  have HSm := Lib.hid hsm
  clear h hF hw0 hs0 hsm
  go_enter Tryd.func17, Tryd.ntmps17
  have hB0 := HW0.out
  have HC0 := Lib.hid (to_markr F _ x.stack w0 (HV.out.stack.keep (below_keeps hB0 HF.out)) (fun b hb => Nat.lt_of_lt_of_le (HF.out b hb) hB0.size) (HSm.out.1) (HSm.out.2.2.1))
  clear hB0
  go_wp2_with fail
  rw [← Hw0.out]
  refine HC0.out.mono ?_
  rintro e w1 ⟨A0', c0', rfl, hM1⟩
  have hsz0 := HW0.out.size
  have hz0 := Hs0.out
  have hs1 := hM1.2.size
  obtain ⟨p1_0, p1_1⟩ := (HP0.out.below hM1.2 (by omega)).g2
  obtain ⟨o1_0, o1_1⟩ := (HO0.out.below hM1.2 (by omega)).g2
  obtain ⟨f1_0, f1_1⟩ := (HO0.out.below hM1.2 (by omega)).h2
  obtain ⟨u1, hu1⟩ : ∃ u, u = w1.setCell ⟨w.heap.size + 1 + 1, 0, none⟩ (.slice A0' x.stack.length c0') := ⟨_, rfl⟩
  have hus1 : u1.heap.size = w1.heap.size := by rw [hu1]; simp [World.setCell]
  have hk1 : ∀ b, b ≠ w.heap.size + 1 + 1 → u1.heap[b]? = w1.heap[b]? := fun b hb => by rw [hu1, Below.heap_setCell _ _ _ _ (by simp; omega)]
  have HP1 := Lib.hid (show Blk u1 w.heap.size 38 #[.slice A0 n0 c0, .slice A1 n1 c1] from (hk1 _ (by omega)).trans (HP0.out.below hM1.2 (by omega)))
  have HR1 := Lib.hid (show Blk u1 (w.heap.size + 1) 26 #[.slice none 0 0, .slice none 0 0] from (hk1 _ (by omega)).trans (HR0.out.below hM1.2 (by omega)))
  have HO1 := Lib.hid (show Blk u1 (w.heap.size + 1 + 1) 26 #[.slice A0' x.stack.length c0', .slice none 0 0] from by rw [hu1]; exact (HO0.out.below hM1.2 (by omega)).set_ 0 _)
  have HW1 := Lib.hid (show Below w.heap.size w u1 from by rw [hu1]; exact (HW0.out.trans (hM1.2.mono hsz0)).setCell (by simp; omega) _)
  have Hs1 := Lib.hid (show w.heap.size + 3 ≤ u1.heap.size by omega)
  have HX0_1 := Lib.hid (hM1.1.keep (w' := u1) fun b g1 g2 => hk1 b (by omega))
  have Hu1 := Lib.hid hu1
  clear hM1 hu1 hk1 HC0
  have hB1 := HW1.out
  have HC1 := Lib.hid (to_markr F _ x.places u1 (HV.out.places.keep (below_keeps hB1 HF.out)) (fun b hb => Nat.lt_of_lt_of_le (HF.out b hb) hB1.size) (HSm.out.2.1) (HSm.out.2.2.2))
  clear hB1
  go_wp2_with fail
  rw [← Hu1.out]
  refine HC1.out.mono ?_
  rintro e w2 ⟨A1', c1', rfl, hM2⟩
  clear p1_0 p1_1 o1_0 o1_1 f1_0 f1_1
  have hsz1 := HW1.out.size
  have hz1 := Hs1.out
  have hs2 := hM2.2.size
  obtain ⟨wE, hwE⟩ : ∃ wE, wE = ((w2.setCell ⟨w.heap.size + 1 + 1, 1, none⟩ (.slice A1' x.places.length c1')).setCell ⟨w.heap.size + 1, 0, none⟩ (.slice A0' x.stack.length c0')).setCell ⟨w.heap.size + 1, 1, none⟩ (.slice A1' x.places.length c1') := ⟨_, rfl⟩
  have hP := HP1.out.below hM2.2 (by omega)
  have hR := HR1.out.below hM2.2 (by omega)
  have hO := HO1.out.below hM2.2 (by omega)
  obtain ⟨x0, x1⟩ := hR.g2
  obtain ⟨y0, y1⟩ := hR.h2
  obtain ⟨z0, z1⟩ := hO.g2
  obtain ⟨t0, t1⟩ := hO.h2
  have HRE := Lib.hid (show Blk wE (w.heap.size + 1) 26 #[.slice A0' x.stack.length c0', .slice A1' x.places.length c1'] by rw [hwE]; exact (((hR.far (p := ⟨w.heap.size + 1 + 1, 1, none⟩) (by simp) (.slice A1' x.places.length c1')).set_ 0 (.slice A0' x.stack.length c0')).set_ 1 (.slice A1' x.places.length c1')))
  have hkE : ∀ b, b ≠ w.heap.size + 1 → b ≠ w.heap.size + 1 + 1 → wE.heap[b]? = w2.heap[b]? := fun b h1 h2 => by rw [hwE, Below.heap_setCell _ _ _ _ h1, Below.heap_setCell _ _ _ _ h1, Below.heap_setCell _ _ _ _ h2]
  have hsE : wE.heap.size = w2.heap.size := by rw [hwE]; simp [World.setCell]
  have HWE := Lib.hid (show Below w.heap.size w wE from by rw [hwE]; exact ((((HW1.out.trans (hM2.2.mono hsz1)).setCell (by simp; omega) _).setCell (by simp) _).setCell (by simp) _))
  have HX1_2 := Lib.hid (hM2.1.keep (w' := wE) fun b g1 g2 => hkE b (by omega) (by omega))
  have HX0_2 := Lib.hid (HX0_1.out.keep (w' := wE) fun b g1 g2 => (hkE b (by omega) (by omega)).trans (hM2.2.block b (by omega)))
  have HQ := Lib.hid (show ToShaperD x w (.returned (.agg #[.slice A0' x.stack.length c0', .slice A1' x.places.length c1'])) wE from ⟨A0', c0', A1', c1', rfl, ⟨u1.heap.size, by omega, by omega, HX0_2.out.mono (by omega) (by omega), HX1_2.out.mono (by omega) (by omega)⟩, HWE.out⟩)
  have HwE := Lib.hid hwE
  clear hM2 hwE hkE hP hR hO HC1
  go_wp2
  rw [← HwE.out]
  obtain ⟨r0, r1⟩ := HRE.out.g2
  exact bodyPost_ret (v := .agg #[.slice A0' x.stack.length c0', .slice A1' x.places.length c1']) (by simp [results, Tryd.results17, go_sem, r0, r1]) rfl HQ.out

end Go.Proofs.YtgfpncpphpkahaaDoor
