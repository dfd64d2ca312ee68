/- How marks and shapes lie in memory, read through some blocks or a call's own. The functions that reckon sizes, at marks and shapes. The functions that copy arguments, at marks and shapes: what they hand back is the call's own. -/
import Derived.Test.YtmomdflfjcboiaaDoorGd
import Derived.Test.YtmomdflfjcboiaaDoorGz
namespace Go.Proofs.YtmomdflfjcboiaaDoor
open Go.RowKit

theorem Blk.g2 {a0 a1 : Value} {w : World} {g : Nat} {t : TypeId} (h : Blk w g t #[a0, a1]) : w.cell? ⟨g, 0, none⟩ = some a0 ∧ w.cell? ⟨g, 1, none⟩ = some a1 := ⟨h.cell 0, h.cell 1⟩
theorem Blk.h2 {w : World} {g : Nat} {t : TypeId} {cs : Array Value} (h : Blk w g t cs) : w.frozen? ⟨g, 0, none⟩ = false ∧ w.frozen? ⟨g, 1, none⟩ = false := ⟨h.frozen 0, h.frozen 1⟩

/-- A mark. -/
structure MarkR where
  ty : ByteArray
  fr : List Int
structure MarkRd (F : Nat → Prop) (w : World) (v1 : Value) (x : MarkR) : Prop where
  ty : x.ty.size ≤ maxLen
  fr : Cod.i64.Sl F w v1 x.fr
theorem MarkRd.keep {F : Nat → Prop} {w w' : World} {v1 : Value} {x : MarkR} (hk : ∀ b, F b → w'.heap[b]? = w.heap[b]?) (h : MarkRd F w v1 x) : MarkRd F w' v1 x := ⟨h.ty, h.fr.keep hk⟩
theorem MarkRd.mono {F G : Nat → Prop} {w : World} {v1 : Value} {x : MarkR} (hg : ∀ b, F b → G b) (h : MarkRd F w v1 x) : MarkRd G w v1 x := ⟨h.ty, h.fr.mono hg⟩
def Cod.markr : Cod MarkR where
  size := 2
  rd F w cs x := ∃ v1, cs = [.string x.ty, v1] ∧ MarkRd F w v1 x
  len h := by obtain ⟨v1, rfl, _⟩ := h; rfl
  keep hk h := by obtain ⟨v1, hc, h⟩ := h; exact ⟨v1, hc, h.keep hk⟩
  mono hg h := by obtain ⟨v1, hc, h⟩ := h; exact ⟨v1, hc, h.mono hg⟩
theorem Cod.Sl.markr_at {F : Nat → Prop} {w : World} {v : Value} {xs : List MarkR} (h : Cod.markr.Sl F w v xs) {k : Nat} (hk : k < xs.length) : ∃ b off cap A1 c1, v = .slice (some ⟨b, off, none⟩) xs.length cap ∧ F b ∧ xs.length ≤ cap ∧ cap ≤ maxLen ∧
    w.cell? ⟨b, off + k * 2, none⟩ = some (.string xs[k].ty) ∧
    w.cell? ⟨b, off + k * 2 + 1, none⟩ = some (.slice A1 xs[k].fr.length c1) ∧
    MarkRd F w (.slice A1 xs[k].fr.length c1) xs[k] := by
  obtain ⟨b, off, cap, cs, hv, hF, h1, h2, hcell, v1, rfl, hV⟩ := h.get hk
  obtain ⟨A1, c1, rfl, _⟩ := hV.fr
  exact ⟨b, off, cap, A1, c1, hv, hF, h1, h2, by simpa [Cod.markr] using hcell 0 _ rfl, by simpa [Cod.markr] using hcell 1 _ rfl, hV⟩
structure MarkRo (lo hi : Nat) (w : World) (v1 : Value) (x : MarkR) : Prop where
  ty : x.ty.size ≤ maxLen
  rows : Own OCod.i64 3 lo hi w v1 x.fr
theorem MarkRo.keep {lo hi : Nat} {w w' : World} {v1 : Value} {x : MarkR} (hk : ∀ b, lo ≤ b → b < hi → w'.heap[b]? = w.heap[b]?) (h : MarkRo lo hi w v1 x) : MarkRo lo hi w' v1 x := by
  obtain ⟨h0, o1⟩ := h
  exact ⟨h0, o1.keep fun b g1 g2 => hk b (by omega) (by omega)⟩
theorem MarkRo.mono {lo hi lo' hi' : Nat} {w : World} {v1 : Value} {x : MarkR} (g1 : lo' ≤ lo) (g2 : hi ≤ hi') (h : MarkRo lo hi w v1 x) : MarkRo lo' hi' w v1 x := by
  obtain ⟨h0, o1⟩ := h
  exact ⟨h0, o1.mono (by omega) (by omega)⟩
theorem MarkRo.rd {lo hi : Nat} {w : World} {v1 : Value} {x : MarkR} (h : MarkRo lo hi w v1 x) : MarkRd (fun b => lo ≤ b ∧ b < hi) w v1 x := by
  obtain ⟨h0, o1⟩ := h
  exact ⟨h0, o1.sl.mono fun b hb => ⟨by omega, by omega⟩⟩
def OCod.markr : OCod MarkR where
  cod := Cod.markr
  rd lo hi w cs x := ∃ v1, cs = [.string x.ty, v1] ∧ MarkRo lo hi w v1 x
  get h := by obtain ⟨v1, hc, h⟩ := h; exact ⟨v1, hc, h.rd⟩
  keep hk h := by obtain ⟨v1, hc, h⟩ := h; exact ⟨v1, hc, h.keep hk⟩
  mono h1 h2 h := by obtain ⟨v1, hc, h⟩ := h; exact ⟨v1, hc, h.mono h1 h2⟩

/-- A shape. -/
structure ShapeR where
  stack : List MarkR
  places : List MarkR
structure ShapeRd (F : Nat → Prop) (w : World) (v0 v1 : Value) (x : ShapeR) : Prop where
  stack : Cod.markr.Sl F w v0 x.stack
  places : Cod.markr.Sl F w v1 x.places
theorem ShapeRd.keep {F : Nat → Prop} {w w' : World} {v0 v1 : Value} {x : ShapeR} (hk : ∀ b, F b → w'.heap[b]? = w.heap[b]?) (h : ShapeRd F w v0 v1 x) : ShapeRd F w' v0 v1 x := ⟨h.stack.keep hk, h.places.keep hk⟩
theorem ShapeRd.mono {F G : Nat → Prop} {w : World} {v0 v1 : Value} {x : ShapeR} (hg : ∀ b, F b → G b) (h : ShapeRd F w v0 v1 x) : ShapeRd G w v0 v1 x := ⟨h.stack.mono hg, h.places.mono hg⟩
def Cod.shaper : Cod ShapeR where
  size := 2
  rd F w cs x := ∃ v0 v1, cs = [v0, v1] ∧ ShapeRd F w v0 v1 x
  len h := by obtain ⟨v0, v1, rfl, _⟩ := h; rfl
  keep hk h := by obtain ⟨v0, v1, hc, h⟩ := h; exact ⟨v0, v1, hc, h.keep hk⟩
  mono hg h := by obtain ⟨v0, v1, hc, h⟩ := h; exact ⟨v0, v1, hc, h.mono hg⟩
theorem Cod.Sl.shaper_at {F : Nat → Prop} {w : World} {v : Value} {xs : List ShapeR} (h : Cod.shaper.Sl F w v xs) {k : Nat} (hk : k < xs.length) : ∃ b off cap A0 c0 A1 c1, v = .slice (some ⟨b, off, none⟩) xs.length cap ∧ F b ∧ xs.length ≤ cap ∧ cap ≤ maxLen ∧
    w.cell? ⟨b, off + k * 2, none⟩ = some (.slice A0 xs[k].stack.length c0) ∧
    w.cell? ⟨b, off + k * 2 + 1, none⟩ = some (.slice A1 xs[k].places.length c1) ∧
    ShapeRd F w (.slice A0 xs[k].stack.length c0) (.slice A1 xs[k].places.length c1) xs[k] := by
  obtain ⟨b, off, cap, cs, hv, hF, h1, h2, hcell, v0, v1, rfl, hV⟩ := h.get hk
  obtain ⟨A0, c0, rfl, _⟩ := hV.stack
  obtain ⟨A1, c1, rfl, _⟩ := hV.places
  exact ⟨b, off, cap, A0, c0, A1, c1, hv, hF, h1, h2, by simpa [Cod.shaper] using hcell 0 _ rfl, by simpa [Cod.shaper] using hcell 1 _ rfl, hV⟩
structure ShapeRo (lo hi : Nat) (w : World) (v0 v1 : Value) (x : ShapeR) : Prop where
  rows : ∃ m1, lo ≤ m1 ∧ m1 ≤ hi ∧ Own OCod.markr 57 lo m1 w v0 x.stack ∧ Own OCod.markr 57 m1 hi w v1 x.places
theorem ShapeRo.keep {lo hi : Nat} {w w' : World} {v0 v1 : Value} {x : ShapeR} (hk : ∀ b, lo ≤ b → b < hi → w'.heap[b]? = w.heap[b]?) (h : ShapeRo lo hi w v0 v1 x) : ShapeRo lo hi w' v0 v1 x := by
  obtain ⟨m1, b0, b1, o0, o1⟩ := h
  exact ⟨m1, b0, b1, o0.keep fun b g1 g2 => hk b (by omega) (by omega), o1.keep fun b g1 g2 => hk b (by omega) (by omega)⟩
theorem ShapeRo.mono {lo hi lo' hi' : Nat} {w : World} {v0 v1 : Value} {x : ShapeR} (g1 : lo' ≤ lo) (g2 : hi ≤ hi') (h : ShapeRo lo hi w v0 v1 x) : ShapeRo lo' hi' w v0 v1 x := by
  obtain ⟨m1, b0, b1, o0, o1⟩ := h
  exact ⟨m1, by omega, by omega, o0.mono (by omega) (by omega), o1.mono (by omega) (by omega)⟩
theorem ShapeRo.rd {lo hi : Nat} {w : World} {v0 v1 : Value} {x : ShapeR} (h : ShapeRo lo hi w v0 v1 x) : ShapeRd (fun b => lo ≤ b ∧ b < hi) w v0 v1 x := by
  obtain ⟨m1, b0, b1, o0, o1⟩ := h
  exact ⟨o0.sl.mono fun b hb => ⟨by omega, by omega⟩, o1.sl.mono fun b hb => ⟨by omega, by omega⟩⟩
def OCod.shaper : OCod ShapeR where
  cod := Cod.shaper
  rd lo hi w cs x := ∃ v0 v1, cs = [v0, v1] ∧ ShapeRo lo hi w v0 v1 x
  get h := by obtain ⟨v0, v1, hc, h⟩ := h; exact ⟨v0, v1, hc, h.rd⟩
  keep hk h := by obtain ⟨v0, v1, hc, h⟩ := h; exact ⟨v0, v1, hc, h.keep hk⟩
  mono h1 h2 h := by obtain ⟨v0, v1, hc, h⟩ := h; exact ⟨v0, v1, hc, h.mono h1 h2⟩
theorem three_blocks (w : World) (a b c : Obj) : ((((w.alloc a).alloc b).alloc c).drew).heap[w.heap.size]? = some a ∧ ((((w.alloc a).alloc b).alloc c).drew).heap[w.heap.size + 1]? = some b ∧ ((((w.alloc a).alloc b).alloc c).drew).heap[w.heap.size + 1 + 1]? = some c ∧
    Below w.heap.size w (((w.alloc a).alloc b).alloc c).drew := by
  refine ⟨?_, ?_, ?_, ((((Below.refl _ _).alloc (Nat.le_refl _) _).alloc (by simp) _).alloc (by simp; omega) _).drew⟩
  · show (((w.alloc a).alloc b).alloc c).heap[w.heap.size]? = _
    rw [Below.heap_alloc _ _ _ (by simp; omega), Below.heap_alloc _ _ _ (by simp)]
    exact heap_alloc_new w a
  · show (((w.alloc a).alloc b).alloc c).heap[w.heap.size + 1]? = _
    rw [Below.heap_alloc _ _ _ (by simp)]
    have := heap_alloc_new (w.alloc a) b
    simpa only [World.size_alloc] using this
  · show (((w.alloc a).alloc b).alloc c).heap[w.heap.size + 1 + 1]? = _
    have := heap_alloc_new ((w.alloc a).alloc b) c
    simpa only [World.size_alloc] using this
end Go.Proofs.YtmomdflfjcboiaaDoor

namespace Go.Proofs.YtmomdflfjcboiaaDoor
open Go.RowKit



def szMarkr (x : MarkR) (l : Int) : Int := szThen (l - x.ty.size) fun l0 => szThen (szI x.fr l0) fun l1 => l1
theorem szMarkr_le (x : MarkR) (l : Int) (h : 0 ≤ l) : szMarkr x l ≤ l := by
  unfold szMarkr
  refine szThen_le h (by omega) fun l0 p0 q0 => ?_
  refine szThen_le h (by have := szI_le x.fr l0 (by omega); omega) fun l1 p1 q1 => ?_
  omega
def SmolMarkr (x : MarkR) : Prop := x.fr.length ≤ 2000000
theorem smol_markr {x : MarkR} {l : Int} (h0 : 0 ≤ l) (h1 : l ≤ 2000000) (h : 0 ≤ szMarkr x l) : SmolMarkr x := by
  unfold szMarkr at h
  obtain ⟨g0, h0'⟩ := szThen_pos h
  have le0 : l - x.ty.size ≤ l := by omega
  obtain ⟨l0, e0⟩ : ∃ l0, l0 = l - x.ty.size := ⟨_, rfl⟩
  rw [← e0] at g0 h0' le0
  obtain ⟨g1, h1'⟩ := szThen_pos h0'
  have le1 := szI_le x.fr l0 (by omega)
  have n1 := szI_len g1
  obtain ⟨l1, e1⟩ : ∃ l1, l1 = szI x.fr l0 := ⟨_, rfl⟩
  rw [← e1] at g1 h1' le1
  unfold SmolMarkr
  omega

def szShaper (x : ShapeR) (l : Int) : Int := szThen (szS szMarkr x.stack l) fun l0 => szThen (szS szMarkr x.places l0) fun l1 => l1
theorem szShaper_le (x : ShapeR) (l : Int) (h : 0 ≤ l) : szShaper x l ≤ l := by
  unfold szShaper
  refine szThen_le h (by have := szS_le szMarkr_le x.stack l (by omega); omega) fun l0 p0 q0 => ?_
  refine szThen_le h (by have := szS_le szMarkr_le x.places l0 (by omega); omega) fun l1 p1 q1 => ?_
  omega
def SmolShaper (x : ShapeR) : Prop := x.stack.length ≤ 2000000 ∧ x.places.length ≤ 2000000 ∧ (∀ y ∈ x.stack, SmolMarkr y) ∧ (∀ y ∈ x.places, SmolMarkr y)
theorem smol_shaper {x : ShapeR} {l : Int} (h0 : 0 ≤ l) (h1 : l ≤ 2000000) (h : 0 ≤ szShaper x l) : SmolShaper x := by
  unfold szShaper at h
  obtain ⟨g0, h0'⟩ := szThen_pos h
  have le0 := szS_le szMarkr_le x.stack l (by omega)
  obtain ⟨n0, a0⟩ := szS_len (szMarkr_le) g0
  obtain ⟨l0, e0⟩ : ∃ l0, l0 = szS szMarkr x.stack l := ⟨_, rfl⟩
  rw [← e0] at g0 h0' le0
  obtain ⟨g1, h1'⟩ := szThen_pos h0'
  have le1 := szS_le szMarkr_le x.places l0 (by omega)
  obtain ⟨n1, a1⟩ := szS_len (szMarkr_le) g1
  obtain ⟨l1, e1⟩ : ∃ l1, l1 = szS szMarkr x.places l0 := ⟨_, rfl⟩
  rw [← e1] at g1 h1' le1
  exact ⟨by omega, by omega, fun y hy => by obtain ⟨l', z0, z1, z2⟩ := a0 y hy; exact smol_markr z0 (by omega) z2, fun y hy => by obtain ⟨l', z0, z1, z2⟩ := a1 y hy; exact smol_markr z0 (by omega) z2⟩

end Go.Proofs.YtmomdflfjcboiaaDoor

namespace Go.Proofs.YtmomdflfjcboiaaDoor
open Go.RowKit


theorem info_markr : (Tryd.prog.info? 57).map (fun i => (i.zero, i.size, i.bytes)) = some (some (.agg #[.string ⟨#[]⟩, .slice none 0 0]), 2, 40) := by kernel_rfl
def ToMarkrD (x : MarkR) (w : World) (e : Ending) (w' : World) : Prop := ∃ A1' c1', e = .returned (.agg #[.string x.ty, .slice A1' x.fr.length c1']) ∧ MarkRo w.heap.size w'.heap.size w' (.slice A1' x.fr.length c1') x ∧ Below w.heap.size w w'

theorem info_shaper : (Tryd.prog.info? 26).map (fun i => (i.zero, i.size, i.bytes)) = some (some (.agg #[.slice none 0 0, .slice none 0 0]), 2, 48) := by kernel_rfl
def ToShaperD (x : ShapeR) (w : World) (e : Ending) (w' : World) : Prop := ∃ A0' c0' A1' c1', e = .returned (.agg #[.slice A0' x.stack.length c0', .slice A1' x.places.length c1']) ∧ ShapeRo w.heap.size w'.heap.size w' (.slice A0' x.stack.length c0') (.slice A1' x.places.length c1') x ∧ Below w.heap.size w w'

end Go.Proofs.YtmomdflfjcboiaaDoor
