/- The kit of these proofs: what it says that memory reads as plain data (strings, records, slices of what is read), and that this goes on holding while other blocks turn. No program is named here. -/
import Derived.WalkKit
import Derived.WalkSpells
import Derived.WalkLawsBesides
import Derived.Lib.Hide
import Derived.Deep.QuietTactic
import Derived.BigQuiet
import Derived.Deep.Draws
import Derived.Deep.RegionHeld3
import Derived.Deep.LoopGhost
import Derived.StillTailTactics
namespace Go.Proofs.YthkdkefkgmmoiaaDoor
open Go.RowKit

theorem ret_int {k : IntKind} {a b : Int} (h : a = b) : Ending.returned (.int k a) = .returned (.int k b) := by rw [h]
theorem ret_bool {a b : Bool} (h : a = b) : Ending.returned (.bool a) = .returned (.bool b) := by rw [h]
theorem ret_str {a b : ByteArray} (h : a = b) : Ending.returned (.string a) = .returned (.string b) := by rw [h]
theorem drop_cons {α : Type} {xs : List α} {k : Nat} (h : k < xs.length) : xs.drop k = xs[k] :: xs.drop (k + 1) := List.drop_eq_getElem_cons h

/-- A number that an int holds. -/
def I64 (n : Int) : Prop := -9223372036854775808 ≤ n ∧ n ≤ 9223372036854775807

/-- How an element lies in cells, and what it reads as: through blocks of F alone. -/
structure Cod (α : Type) where
  size : Nat
  rd : (Nat → Prop) → World → List Value → α → Prop
  len : ∀ {F : Nat → Prop} {w : World} {cs : List Value} {x : α}, rd F w cs x → cs.length = size
  keep : ∀ {F : Nat → Prop} {w w' : World} {cs : List Value} {x : α}, (∀ b, F b → w'.heap[b]? = w.heap[b]?) → rd F w cs x → rd F w' cs x
  mono : ∀ {F G : Nat → Prop} {w : World} {cs : List Value} {x : α}, (∀ b, F b → G b) → rd F w cs x → rd G w cs x

/-- The slice value v reads as xs. -/
def Cod.Sl {α : Type} (c : Cod α) (F : Nat → Prop) (w : World) (v : Value) (xs : List α) : Prop :=
  ∃ A cap, v = .slice A xs.length cap ∧ xs.length ≤ cap ∧ cap ≤ maxLen ∧
    (0 < xs.length → ∃ b off, A = some ⟨b, off, none⟩ ∧ F b ∧ ∀ i x, xs[i]? = some x → ∃ cs, (∀ j u, cs[j]? = some u → w.cell? ⟨b, off + i * c.size + j, none⟩ = some u) ∧ c.rd F w cs x)

section
variable {α : Type} {c : Cod α} {F G : Nat → Prop} {w w' : World} {v : Value} {xs : List α}

theorem Cod.Sl.keep (hk : ∀ b, F b → w'.heap[b]? = w.heap[b]?) (h : c.Sl F w v xs) : c.Sl F w' v xs := by
  obtain ⟨A, cap, hv, h1, h2, h3⟩ := h
  refine ⟨A, cap, hv, h1, h2, fun hp => ?_⟩
  obtain ⟨b, off, hA, hF, hx⟩ := h3 hp
  refine ⟨b, off, hA, hF, fun i x hi => ?_⟩
  obtain ⟨cs, hcell, hrd⟩ := hx i x hi
  exact ⟨cs, fun j u hu => (World.cell?_of_block (w := w) (a := ⟨b, off + i * c.size + j, none⟩) (hk b hF)).trans (hcell j u hu), c.keep hk hrd⟩

theorem Cod.Sl.mono (hg : ∀ b, F b → G b) (h : c.Sl F w v xs) : c.Sl G w v xs := by
  obtain ⟨A, cap, hv, h1, h2, h3⟩ := h
  refine ⟨A, cap, hv, h1, h2, fun hp => ?_⟩
  obtain ⟨b, off, hA, hF, hx⟩ := h3 hp
  exact ⟨b, off, hA, hg b hF, fun i x hi => let ⟨cs, hcell, hrd⟩ := hx i x hi; ⟨cs, hcell, c.mono hg hrd⟩⟩

/-- nil, or a slice without elements. -/
theorem Cod.Sl.nil_ : c.Sl F w (.slice none 0 0) [] := ⟨none, 0, rfl, Nat.le_refl _, Nat.zero_le _, fun h => absurd h (by simp)⟩

/-- The k-th element. -/
theorem Cod.Sl.get (h : c.Sl F w v xs) {k : Nat} (hk : k < xs.length) : ∃ b off cap cs, v = .slice (some ⟨b, off, none⟩) xs.length cap ∧ F b ∧ xs.length ≤ cap ∧ cap ≤ maxLen ∧
    (∀ j u, cs[j]? = some u → w.cell? ⟨b, off + k * c.size + j, none⟩ = some u) ∧ c.rd F w cs xs[k] := by
  obtain ⟨A, cap, hv, h1, h2, h3⟩ := h
  obtain ⟨b, off, hA, hF, hx⟩ := h3 (by omega)
  obtain ⟨cs, hcell, hrd⟩ := hx k xs[k] (List.getElem?_eq_getElem hk)
  exact ⟨b, off, cap, cs, by rw [hv, hA], hF, h1, h2, hcell, hrd⟩
end

/-- A string. -/
def Cod.str : Cod ByteArray where
  size := 1
  rd _ _ cs s := cs = [.string s] ∧ s.size ≤ maxLen
  len h := by rw [h.1]; rfl
  keep _ h := h
  mono _ h := h

/-- A slice as an element. -/
def Cod.sl {α : Type} (c : Cod α) : Cod (List α) where
  size := 1
  rd F w cs xs := ∃ v, cs = [v] ∧ c.Sl F w v xs
  len h := by obtain ⟨v, rfl, _⟩ := h; rfl
  keep hk h := by obtain ⟨v, hv, h⟩ := h; exact ⟨v, hv, h.keep hk⟩
  mono hg h := by obtain ⟨v, hv, h⟩ := h; exact ⟨v, hv, h.mono hg⟩

/-- A kind of records. -/
structure Rec where
  able : Int
  fields : List ByteArray
  deriving DecidableEq

def Cod.rec_ : Cod Rec where
  size := 2
  rd F w cs r := ∃ v, cs = [.int .i64 r.able, v] ∧ I64 r.able ∧ Cod.str.Sl F w v r.fields
  len h := by obtain ⟨v, rfl, _⟩ := h; rfl
  keep hk h := by obtain ⟨v, hv, hi, h⟩ := h; exact ⟨v, hv, hi, h.keep hk⟩
  mono hg h := by obtain ⟨v, hv, hi, h⟩ := h; exact ⟨v, hv, hi, h.mono hg⟩

abbrev Cod.recs : Cod (List Rec) := Cod.rec_.sl

section
variable {F : Nat → Prop} {w : World} {v : Value}
theorem Cod.Sl.str_at {xs : List ByteArray} (h : Cod.str.Sl F w v xs) {k : Nat} (hk : k < xs.length) : ∃ b off cap, v = .slice (some ⟨b, off, none⟩) xs.length cap ∧ F b ∧ xs.length ≤ cap ∧ cap ≤ maxLen ∧
    w.cell? ⟨b, off + k, none⟩ = some (.string xs[k]) ∧ (xs[k]).size ≤ maxLen := by
  obtain ⟨b, off, cap, cs, hv, hF, h1, h2, hcell, rfl, hs⟩ := h.get hk
  exact ⟨b, off, cap, hv, hF, h1, h2, by simpa [Cod.str] using hcell 0 _ rfl, hs⟩
theorem Cod.Sl.sl_at {α : Type} {c : Cod α} {xs : List (List α)} (h : c.sl.Sl F w v xs) {k : Nat} (hk : k < xs.length) : ∃ b off cap u, v = .slice (some ⟨b, off, none⟩) xs.length cap ∧ F b ∧ xs.length ≤ cap ∧ cap ≤ maxLen ∧
    w.cell? ⟨b, off + k, none⟩ = some u ∧ c.Sl F w u xs[k] := by
  obtain ⟨b, off, cap, cs, hv, hF, h1, h2, hcell, u, rfl, hu⟩ := h.get hk
  exact ⟨b, off, cap, u, hv, hF, h1, h2, by simpa [Cod.sl] using hcell 0 _ rfl, hu⟩
theorem Cod.Sl.rec_at {xs : List Rec} (h : Cod.rec_.Sl F w v xs) {k : Nat} (hk : k < xs.length) : ∃ b off cap u, v = .slice (some ⟨b, off, none⟩) xs.length cap ∧ F b ∧ xs.length ≤ cap ∧ cap ≤ maxLen ∧
    w.cell? ⟨b, off + k * 2, none⟩ = some (.int .i64 (xs[k]).able) ∧ w.cell? ⟨b, off + k * 2 + 1, none⟩ = some u ∧ I64 (xs[k]).able ∧ Cod.str.Sl F w u (xs[k]).fields := by
  obtain ⟨b, off, cap, cs, hv, hF, h1, h2, hcell, u, rfl, hi, hu⟩ := h.get hk
  exact ⟨b, off, cap, u, hv, hF, h1, h2, by simpa [Cod.rec_] using hcell 0 _ rfl, by simpa [Cod.rec_] using hcell 1 _ rfl, hi, hu⟩
end

/-- Blocks that have come since W. -/
def Fresh (W w : World) (b : Nat) : Prop := W.heap.size ≤ b ∧ b < w.heap.size
/-- No block. -/
def NoB (_ : Nat) : Prop := False
/-- Blocks that were there. -/
def Old (W : World) (b : Nat) : Prop := b < W.heap.size

/-- Blocks below B are as they were, and so for each reading through such blocks. -/
theorem below_keeps {B : Nat} {w w' : World} (h : Below B w w') {F : Nat → Prop} (hF : ∀ b, F b → b < B) : ∀ b, F b → w'.heap[b]? = w.heap[b]? := fun b hb => h.block b (hF b hb)

theorem bcell {W w1 : World} (hb : Below W.heap.size W w1) : (∀ b o, b < W.heap.size → w1.cell? ⟨b, o, none⟩ = W.cell? ⟨b, o, none⟩) ∧ (∀ b o, b < W.heap.size → w1.frozen? ⟨b, o, none⟩ = W.frozen? ⟨b, o, none⟩) :=
  ⟨fun b o h => hb.cell (p := ⟨b, o, none⟩) h, fun b o h => hb.frozen (p := ⟨b, o, none⟩) h⟩

theorem below_drewN {B : Nat} {a w : World} (h : Below B a w) (n : Nat) : Below B a (w.drewN n) := ⟨h.os, h.tape, h.output, h.size, h.block⟩

/-- A block that is known whole. -/
def Blk (w : World) (g : Nat) (t : TypeId) (cs : Array Value) : Prop := w.heap[g]? = some (.cells cs t (0, 0))

section
variable {w w' : World} {g : Nat} {t : TypeId} {cs : Array Value}
theorem Blk.lt (h : Blk w g t cs) : g < w.heap.size := by
  rcases Nat.lt_or_ge g w.heap.size with hlt | hge
  · exact hlt
  · unfold Blk at h; rw [Array.getElem?_eq_none hge] at h; cases h
theorem Blk.cell (h : Blk w g t cs) (i : Nat) : w.cell? ⟨g, i, none⟩ = cs[i]? := cell_of_row w g i cs t (0, 0) h
theorem Blk.holds (h : Blk w g t cs) {i n : Nat} (hn : cs.size = n) (hi : i < n) : ∃ u, w.cell? ⟨g, i, none⟩ = some u := ⟨cs[i], by rw [h.cell, Array.getElem?_eq_getElem]⟩
theorem Blk.frozen (h : Blk w g t cs) (i : Nat) : w.frozen? ⟨g, i, none⟩ = false := by
  unfold Blk at h
  simp [World.frozen?, h]
theorem Blk.new (w : World) (t : TypeId) (cs : Array Value) : Blk (w.alloc (.cells cs t)) w.heap.size t cs := heap_alloc_new w _
theorem Blk.alloc (h : Blk w g t cs) (o : Obj) : Blk (w.alloc o) g t cs := (Below.heap_alloc w o g h.lt).trans h
theorem Blk.set_ (h : Blk w g t cs) (i : Nat) (u : Value) : Blk (w.setCell ⟨g, i, none⟩ u) g t (cs.setIfInBounds i u) := by
  unfold Blk at h ⊢
  simp [World.setCell, Array.getElem?_modify, h]
theorem Blk.far (h : Blk w g t cs) {p : Addr} (hp : g ≠ p.block) (u : Value) : Blk (w.setCell p u) g t cs := (Below.heap_setCell w p u g hp).trans h
theorem Blk.below {B : Nat} (h : Blk w g t cs) (hb : Below B w w') (hg : g < B) : Blk w' g t cs := (hb.block g hg).trans h
end

theorem Blk.cell0 {a b : Value} {w : World} {g : Nat} {t : TypeId} (h : Blk w g t #[a, b]) : w.cell? ⟨g, 0, none⟩ = some a := h.cell 0
theorem Blk.cell1 {a b : Value} {w : World} {g : Nat} {t : TypeId} (h : Blk w g t #[a, b]) : w.cell? ⟨g, 1, none⟩ = some b := h.cell 1
/-- Three new blocks, the last two of them. -/
theorem Blk.of3 (w : World) (o : Obj) (t u : TypeId) (cs ds : Array Value) : Blk (((w.alloc o).alloc (.cells cs t)).alloc (.cells ds u)) (w.heap.size + 1) t cs ∧ Blk (((w.alloc o).alloc (.cells cs t)).alloc (.cells ds u)) (w.heap.size + 1 + 1) u ds := by
  refine ⟨Blk.alloc ?_ _, ?_⟩
  · have h := Blk.new (w.alloc o) t cs
    simpa using h
  · have h := Blk.new ((w.alloc o).alloc (.cells cs t)) u ds
    simpa using h

theorem size_setCell (w : World) (a : Addr) (v : Value) : (w.setCell a v).heap.size = w.heap.size := by simp [World.setCell]

theorem run_make_rowN {P : Program} (t e : TypeId) (i : TypeInfo) (z : Value) (ht : P.underlying t = some (.slice e)) (hi : P.info? e = some i) (hz : i.zero = some z)
    (kl kc : IntKind) (n c : Nat) (hnc : n ≤ c) (hbytes : i.bytes * c ≤ 281474976710656) (h63 : c ≤ 9223372036854775807) (w : World) :
    (Instr.makeSlice t (.int kl (n : Int)) (.int kc (c : Int))).run P w = .ok (.slice (some ⟨w.heap.size, 0, none⟩) n c) (w.alloc (.cells (madeCells z.cells (c * i.size)) e)) := by
  have hb : (i.bytes : Int) * (c : Int) ≤ 281474976710656 := by
    have h : ((i.bytes * c : Nat) : Int) ≤ 281474976710656 := by omega
    rwa [Int.natCast_mul] at h
  have hr := run_make (P := P) w t e i z ht hi hz kl kc n c (by omega) (by omega) hb (by omega)
  simp only [Int.toNat_natCast] at hr
  exact hr

/-- make([]T, n), n a length at hand: one equation for every world. -/
theorem make_len {P : Program} (t e : TypeId) (z : Value) (size bytes : Nat) (ht : P.underlying t = some (.slice e)) (hi : (P.info? e).map (fun i => (i.zero, i.size, i.bytes)) = some (some z, size, bytes)) (hb : bytes ≤ 1000) (n : Nat) (hn : n ≤ 2000000) :
    ∀ w : World, (Instr.makeSlice t (.int .i64 (n : Int)) (.int .i64 (n : Int))).run P w = .ok (.slice (some ⟨w.heap.size, 0, none⟩) n n) (w.alloc (.cells (madeCells z.cells (n * size)) e)) := by
  obtain ⟨i, hi0, hz0, hz1, hz2⟩ := info_parts hi
  intro w
  rw [← hz1]
  refine run_make_rowN t e i z ht hi0 hz0 .i64 .i64 n n (Nat.le_refl _) ?_ (by omega) w
  rw [hz2]
  exact Nat.le_trans (Nat.mul_le_mul hb hn) (by omega)

/-- The first k elements of a row that is being filled. -/
def Cod.Part {α : Type} (c : Cod α) (F : Nat → Prop) (w : World) (cs : Array Value) (k : Nat) (xs : List α) : Prop :=
  ∀ i x, i < k → xs[i]? = some x → ∃ ds, (∀ j u, ds[j]? = some u → cs[i * c.size + j]? = some u) ∧ c.rd F w ds x

section
variable {α : Type} {c : Cod α} {F G : Nat → Prop} {w w' : World} {cs : Array Value} {xs : List α} {k : Nat}
theorem Cod.Part.zero : c.Part F w cs 0 xs := fun _ _ h => absurd h (by omega)
theorem Cod.Part.keep (h : c.Part F w cs k xs) (hk : ∀ b, F b → w'.heap[b]? = w.heap[b]?) : c.Part F w' cs k xs :=
  fun i x hi hx => let ⟨ds, h1, h2⟩ := h i x hi hx; ⟨ds, h1, c.keep hk h2⟩
theorem Cod.Part.mono (h : c.Part F w cs k xs) (hg : ∀ b, F b → G b) : c.Part G w cs k xs :=
  fun i x hi hx => let ⟨ds, h1, h2⟩ := h i x hi hx; ⟨ds, h1, c.mono hg h2⟩
theorem Cod.Part.one (hc : c.size = 1) (h : c.Part F w cs k xs) (hk : k < xs.length) (hs : cs.size = xs.length) {u : Value} (hu : c.rd F w [u] xs[k]) : c.Part F w (cs.setIfInBounds k u) (k + 1) xs := by
  intro i x hi hx
  by_cases he : i = k
  · subst he
    rw [List.getElem?_eq_getElem hk] at hx
    cases hx
    refine ⟨[u], fun j v hv => ?_, hu⟩
    cases j with
    | zero =>
      simp only [List.getElem?_cons_zero, Option.some.injEq] at hv
      subst hv
      rw [hc, Nat.mul_one, Nat.add_zero, Array.getElem?_setIfInBounds]
      simp [hs, hk]
    | succ j => simp at hv
  · obtain ⟨ds, h1, h2⟩ := h i x (by omega) hx
    refine ⟨ds, fun j v hv => ?_, h2⟩
    have hl := c.len h2
    have hj : j < ds.length := (List.getElem?_eq_some_iff.1 hv).1
    rw [Array.getElem?_setIfInBounds, if_neg (by rw [hc]; omega)]
    exact h1 j v hv
theorem Cod.Part.two (hc : c.size = 2) (h : c.Part F w cs k xs) (hk : k < xs.length) (hs : cs.size = xs.length * 2) {u v : Value} (hu : c.rd F w [u, v] xs[k]) : c.Part F w ((cs.setIfInBounds (k * 2) u).setIfInBounds (k * 2 + 1) v) (k + 1) xs := by
  intro i x hi hx
  by_cases he : i = k
  · subst he
    rw [List.getElem?_eq_getElem hk] at hx
    cases hx
    refine ⟨[u, v], fun j y hy => ?_, hu⟩
    match j, hy with
    | 0, hy =>
      simp only [List.getElem?_cons_zero, Option.some.injEq] at hy
      subst hy
      rw [hc, Array.getElem?_setIfInBounds, if_neg (by omega), Array.getElem?_setIfInBounds, if_pos (show i * 2 = i * 2 + 0 from rfl), if_pos (by omega)]
    | 1, hy =>
      simp at hy
      subst hy
      rw [hc, Array.getElem?_setIfInBounds, if_pos rfl, if_pos (by rw [Array.size_setIfInBounds]; omega)]
    | j + 2, hy => simp at hy
  · obtain ⟨ds, h1, h2⟩ := h i x (by omega) hx
    refine ⟨ds, fun j v hv => ?_, h2⟩
    have hl := c.len h2
    have hj : j < ds.length := (List.getElem?_eq_some_iff.1 hv).1
    rw [Array.getElem?_setIfInBounds, if_neg (by rw [hc]; omega), Array.getElem?_setIfInBounds, if_neg (by rw [hc]; omega)]
    exact h1 j v hv
/-- A row that has been filled reads as a slice. -/
theorem Cod.Part.sl {g cap : Nat} {t : TypeId} (h : c.Part F w cs xs.length xs) (hb : Blk w g t cs) (hF : F g) (hl : xs.length ≤ cap) (hm : cap ≤ maxLen) : c.Sl F w (.slice (some ⟨g, 0, none⟩) xs.length cap) xs := by
  refine ⟨_, _, rfl, hl, hm, fun _ => ⟨g, 0, rfl, hF, fun i x hx => ?_⟩⟩
  have hi : i < xs.length := (List.getElem?_eq_some_iff.1 hx).1
  obtain ⟨ds, h1, h2⟩ := h i x hi hx
  exact ⟨ds, fun j u hu => by rw [hb.cell, Nat.zero_add]; exact h1 j u hu, h2⟩
end

/-- A slice v that reads as xs through blocks that have come since W; what was there is as it was. -/
def Made {α : Type} (c : Cod α) (W w : World) (v : Value) (xs : List α) : Prop := c.Sl (Fresh W w) w v xs ∧ Below W.heap.size W w

theorem Made.later {α : Type} {c : Cod α} {W W0 w w' : World} {v : Value} {xs : List α} (h : Made c W0 w v xs) (h0 : W.heap.size ≤ W0.heap.size) (hk : ∀ b, W0.heap.size ≤ b → b < w.heap.size → w'.heap[b]? = w.heap[b]?) (hs : w.heap.size ≤ w'.heap.size) (hb : Below W.heap.size W w') : Made c W w' v xs :=
  ⟨(h.1.keep fun b hb => hk b hb.1 hb.2).mono fun _ hb => ⟨Nat.le_trans h0 hb.1, Nat.lt_of_lt_of_le hb.2 hs⟩, hb⟩

end Go.Proofs.YthkdkefkgmmoiaaDoor
