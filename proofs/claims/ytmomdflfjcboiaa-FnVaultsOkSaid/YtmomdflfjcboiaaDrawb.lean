/- What is drawn: texts, numbers, types of kinds. -/
import Derived.Test.YtmomdflfjcboiaaDraw
import Derived.Test.YtmomdflfjcboiaaSp
namespace Go.Proofs.Ytmomdflfjcboiaa
open Go.RowKit

/-- A step of drawing: at most N numbers have been picked; nothing but the reader's place has turned. -/
structure Step (g p N : Nat) (W w : World) : Prop where
  rdr : ∃ q, q ≤ p + N ∧ Rdr g q w
  grown : W.grownBy w (some g)

theorem Step.of_pick {g p : Nat} {W w : World} (h : Rdr g (p + 1) w) (hg : W.grownBy w (some g)) : Step g p 1 W w := ⟨⟨_, Nat.le_refl _, h⟩, hg⟩
theorem grown_refl (w : World) (r : Option Nat) : w.grownBy w r := World.grownBy.refl w r
theorem grown_trans {a b c : World} {r : Option Nat} (h : a.grownBy b r) (k : b.grownBy c r) : a.grownBy c r :=
  ⟨k.os.trans h.os, k.tape.trans h.tape, k.output.trans h.output, Nat.le_trans h.size k.size, fun i hi hn => (k.block i (Nat.lt_of_lt_of_le hi h.size) hn).trans (h.block i hi hn)⟩
theorem grown_below {B : Nat} {a b : World} {r : Option Nat} (hB : a.heap.size ≤ B) (h : Below B a b) : a.grownBy b r :=
  ⟨h.os, h.tape, h.output, h.size, fun i hi _ => h.block i (by omega)⟩
theorem below_grown {a b : World} {g : Nat} (h : a.grownBy b (some g)) {B : Nat} (hB : B ≤ g) (hs : B ≤ a.heap.size) : Below B a b :=
  ⟨h.os, h.tape, h.output, h.size, fun i hi => h.block i (by omega) (by simp; omega)⟩

/-- The first n elements. -/
theorem Cod.Sl.take {α : Type} {c : Cod α} {F : Nat → Prop} {w : World} {xs : List α} {A : Option Addr} {m cap n : Nat} (h : c.Sl F w (.slice A m cap) xs) (hn : n ≤ xs.length) : c.Sl F w (.slice A n cap) (xs.take n) := by
  obtain ⟨A', cap', hv, h1, h2, h3⟩ := h
  simp only [Value.slice.injEq] at hv
  obtain ⟨rfl, _, rfl⟩ := hv
  have hl : (xs.take n).length = n := by rw [List.length_take]; omega
  refine ⟨_, _, by rw [hl], by omega, h2, fun hp => ?_⟩
  obtain ⟨b, off, hA, hF, hx⟩ := h3 (by omega)
  refine ⟨b, off, hA, hF, fun i x hi => hx i x ?_⟩
  rw [List.getElem?_take] at hi
  split at hi
  · exact hi
  · cases hi

/-- A row of texts that a literal lays. -/
theorem Blk.strs {w : World} {g : Nat} {t : TypeId} {cs : Array Value} (h : Blk w g t cs) (xs : List ByteArray) (hn : xs.length ≤ 1000) (hx : ∀ (i : Nat) (x : ByteArray), xs[i]? = some x → cs[i]? = some (Value.string x) ∧ x.size ≤ maxLen) : Cod.str.Sl (fun b => b = g) w (.slice (some ⟨g, 0, none⟩) xs.length xs.length) xs :=
  ⟨_, _, rfl, Nat.le_refl _, by unfold maxLen; omega, fun _ => ⟨g, 0, rfl, rfl, fun i x hi => ⟨[.string x], fun j u hu => by
    cases j with
    | zero => simp at hu; subst hu; rw [h.cell]; simpa [Cod.str] using (hx i x hi).1
    | succ j => simp at hu, rfl, (hx i x hi).2⟩⟩⟩

/-- A number. -/
def Cod.int : Cod Int where
  size := 1
  rd _ _ cs n := cs = [.int .i64 n]
  len h := by rw [h]; rfl
  keep _ h := h
  mono _ h := h
theorem Cod.Sl.int_at {F : Nat → Prop} {w : World} {v : Value} {xs : List Int} (h : Cod.int.Sl F w v xs) {k : Nat} (hk : k < xs.length) : ∃ b off cap, v = .slice (some ⟨b, off, none⟩) xs.length cap ∧ F b ∧ xs.length ≤ cap ∧ cap ≤ maxLen ∧
    w.cell? ⟨b, off + k, none⟩ = some (.int .i64 xs[k]) := by
  obtain ⟨b, off, cap, cs, hv, hF, h1, h2, hcell, rfl⟩ := h.get hk
  exact ⟨b, off, cap, hv, hF, h1, h2, by simpa [Cod.int] using hcell 0 _ rfl⟩
theorem Blk.ints {w : World} {g : Nat} {t : TypeId} {cs : Array Value} (h : Blk w g t cs) (xs : List Int) (hn : xs.length ≤ 1000) (hx : ∀ (i : Nat) (x : Int), xs[i]? = some x → cs[i]? = some (Value.int .i64 x)) : Cod.int.Sl (fun b => b = g) w (.slice (some ⟨g, 0, none⟩) xs.length xs.length) xs :=
  ⟨_, _, rfl, Nat.le_refl _, by unfold maxLen; omega, fun _ => ⟨g, 0, rfl, rfl, fun i x hi => ⟨[.int .i64 x], fun j u hu => by
    cases j with
    | zero => simp at hu; subst hu; rw [h.cell]; simpa [Cod.int] using hx i x hi
    | succ j => simp at hu, rfl⟩⟩⟩

def OfOf (xs : List ByteArray) (g p : Nat) (W : World) (e : Ending) (w' : World) : Prop :=
  ∃ s, s ∈ xs ∧ e = .returned (.string s) ∧ Step g p 1 W w' ∧ w'.heap.size = W.heap.size
def NumOf (xs : List Int) (g p : Nat) (W : World) (e : Ending) (w' : World) : Prop :=
  ∃ s, s ∈ xs ∧ e = .returned (.int .i64 s) ∧ Step g p 1 W w' ∧ w'.heap.size = W.heap.size

set_option maxHeartbeats 400000 in
theorem of_any (F : Nat → Prop) (g p : Nat) (v : Value) (xs : List ByteArray) (w : World) (h : Rdr g p w) (hp : p ≤ 100000000) (hv : Cod.str.Sl F w v xs) (hF : ∀ b, F b → b < w.heap.size ∧ b ≠ g) (h0 : 0 < xs.length) (h1 : xs.length ≤ 1000) :
    Calls Try.prog 65 #[.pointer (some ⟨g, 0, none⟩), v] w (OfOf xs g p w) := by
  have HR := Lib.hid h
  have HV := Lib.hid hv
  clear h
  obtain ⟨A, cap, rfl, hlc, hcm, _⟩ := hv
  unfold maxLen at hcm
  go_enter Try.func65, Try.ntmps65
  go_wp2_with fail
  refine (pick_any g p _ _ HR.out hp (by omega)).mono ?_
  rintro e w1 ⟨k, rfl, hk, hr1, hg1, hs1⟩
  have hlt : k < xs.length := by omega
  obtain ⟨b, off, c1, hve, hFb, _, _, hc0, hs0⟩ := HV.out.str_at hlt
  obtain ⟨rfl, rfl⟩ : A = some ⟨b, off, none⟩ ∧ cap = c1 := by simpa using hve
  have hc1 : w1.cell? ⟨b, off + k, none⟩ = some (.string xs[k]) := (World.cell?_of_block (w := w) (a := ⟨b, off + k, none⟩) (hg1.block b (hF b hFb).1 (by have := (hF b hFb).2; simp; omega))).trans hc0
  have HQ : Hid (OfOf xs g p w (.returned (.string xs[k])) w1) := ⟨_, List.getElem_mem hlt, rfl, Step.of_pick hr1 hg1, hs1⟩
  clear hr1 hg1 hs1 hve hc0
  go_wp2
  go_ret
  exact HQ.out

set_option maxHeartbeats 400000 in
theorem num_any (F : Nat → Prop) (g p : Nat) (v : Value) (xs : List Int) (w : World) (h : Rdr g p w) (hp : p ≤ 100000000) (hv : Cod.int.Sl F w v xs) (hF : ∀ b, F b → b < w.heap.size ∧ b ≠ g) (h0 : 0 < xs.length) (h1 : xs.length ≤ 1000) :
    Calls Try.prog 57 #[.pointer (some ⟨g, 0, none⟩), v] w (NumOf xs g p w) := by
  have HR := Lib.hid h
  have HV := Lib.hid hv
  clear h
  obtain ⟨A, cap, rfl, hlc, hcm, _⟩ := hv
  unfold maxLen at hcm
  go_enter Try.func57, Try.ntmps57
  go_wp2_with fail
  refine (pick_any g p _ _ HR.out hp (by omega)).mono ?_
  rintro e w1 ⟨k, rfl, hk, hr1, hg1, hs1⟩
  have hlt : k < xs.length := by omega
  obtain ⟨b, off, c1, hve, hFb, _, _, hc0⟩ := HV.out.int_at hlt
  obtain ⟨rfl, rfl⟩ : A = some ⟨b, off, none⟩ ∧ cap = c1 := by simpa using hve
  have hc1 : w1.cell? ⟨b, off + k, none⟩ = some (.int .i64 xs[k]) := (World.cell?_of_block (w := w) (a := ⟨b, off + k, none⟩) (hg1.block b (hF b hFb).1 (by have := (hF b hFb).2; simp; omega))).trans hc0
  have HQ : Hid (NumOf xs g p w (.returned (.int .i64 xs[k])) w1) := ⟨_, List.getElem_mem hlt, rfl, Step.of_pick hr1 hg1, hs1⟩
  clear hr1 hg1 hs1 hve hc0
  go_wp2
  go_ret
  exact HQ.out

/-- A digit. -/
def digB (n : Nat) : ByteArray := strOfNums [48 + (n : Int)]
theorem size_digB (n : Nat) : (digB n).size = 1 := strOfNums_size _

set_option maxRecDepth 100000 in
set_option maxHeartbeats 400000 in
theorem dec_any (n : Nat) (w : World) (hn : n ≤ 9) :
    Calls Try.prog 60 #[.int .i64 n] w fun e w' => e = .returned (.string (digB n)) ∧ Below w.heap.size w w' := by
  have hcv := run_convert_bytes_arg (P := Try.prog) (w.alloc (.cells #[.int .u8 (48 + (n : Int))] 5)) 22 5 Try.underlying22 Try.underlying5 w.heap.size 0 1 1 [48 + (n : Int)] rfl
    (fun i hi => by
      rw [Nat.zero_add]
      have hB := Blk.new w 5 #[.int .u8 (48 + (n : Int))]
      rw [hB.cell]
      match i, hi with
      | 0, _ => rfl) 9 Try.underlying9
  go_enter Try.func60, Try.ntmps60
  go_wp2
  go_ret
  exact ⟨rfl, (Below.refl _ _).alloc (Nat.le_refl _) _⟩

/-- The reader that l6Open makes. -/
def OpenOf (W : World) (e : Ending) (w' : World) : Prop :=
  ∃ g, e = .returned (.pointer (some ⟨g, 0, none⟩)) ∧ W.heap.size ≤ g ∧ Rdr g 0 w' ∧ Below W.heap.size W w'

set_option maxHeartbeats 400000 in
theorem open_any (F : Nat → Prop) (v : Value) (xs : List Nat) (w : World) (hv : Cod.u8.Sl F w v xs) (hF : ∀ b, F b → b < w.heap.size) :
    Calls Try.prog 28 #[v] w (OpenOf w) := by
  have HV := Lib.hid hv
  obtain ⟨A, cap, rfl, hlc, hcm, _⟩ := hv
  unfold maxLen at hcm
  by_cases h2 : 2000 < xs.length
  · have HQ : Hid (OpenOf w (.returned (.pointer (some ⟨w.heap.size, 0, none⟩))) (w.alloc (.cells #[.slice A 2000 cap, .int .i64 0] 96))) := by
      refine ⟨w.heap.size, rfl, Nat.le_refl _, ⟨A, 2000, cap, xs.take 2000, Blk.new _ _ _, by simp; omega, Nat.le_refl _, ?_⟩, (Below.refl _ _).alloc (Nat.le_refl _) _⟩
      have := (HV.out.take (n := 2000) (by omega)).keep (w' := w.alloc (.cells #[.slice A 2000 cap, .int .i64 0] 96)) fun b hb => Below.heap_alloc _ _ _ (hF b hb)
      exact this.mono fun b hb => hF b hb
    go_enter Try.func28, Try.ntmps28
    go_wp2
    go_ret
    exact HQ.out
  · have HQ : Hid (OpenOf w (.returned (.pointer (some ⟨w.heap.size, 0, none⟩))) (w.alloc (.cells #[.slice A xs.length cap, .int .i64 0] 96))) := by
      refine ⟨w.heap.size, rfl, Nat.le_refl _, ⟨A, _, cap, xs, Blk.new _ _ _, rfl, by omega, ?_⟩, (Below.refl _ _).alloc (Nat.le_refl _) _⟩
      have := HV.out.keep (w' := w.alloc (.cells #[.slice A xs.length cap, .int .i64 0] 96)) fun b hb => Below.heap_alloc _ _ _ (hF b hb)
      exact this.mono fun b hb => hF b hb
    go_enter Try.func28, Try.ntmps28
    go_wp2
    go_ret
    exact HQ.out
end Go.Proofs.Ytmomdflfjcboiaa
