/- Marks: the text of a mark; rows of a call's own, told by an interval of blocks; texts and numbers marked and held. Rows of a call's own, told by an interval of blocks: what lies in one element's blocks lies in no other's. No program is named here. Rows of a call's own: texts and numbers marked and held. Rows of a call's own that are being filled; copies of kinds that are the call's own. Kinds of a call's own: marked. -/
import Derived.Test.YthkdkefkgmmoiaaDoorVt
import Derived.Test.YthkdkefkgmmoiaaDoorTo
import Derived.Test.YthkdkefkgmmoiaaDoorVal
namespace Go.Proofs.YthkdkefkgmmoiaaDoor
open Go.RowKit

/-- The text of a mark. -/
def mt (k : Nat) : ByteArray := ⟨#[109]⟩ ++ decBy k
def mtLeft (m : Nat) (acc : ByteArray) : ByteArray := if m = 0 then acc else decBy m ++ acc
theorem mtLeft_step {m : Nat} (hm : 0 < m) (acc : ByteArray) : mtLeft (m / 10) (strOfNums [48 + (m : Int) % 10] ++ acc) = mtLeft m acc := by
  unfold mtLeft
  rw [if_neg (show ¬ m = 0 by omega)]
  by_cases h : m < 10
  · rw [if_pos (by omega), decBy_small h]
    congr 3
    omega
  · rw [if_neg (by omega), decBy_big h, ByteArray.append_assoc]
theorem mtLeft_size (m : Nat) (acc : ByteArray) : acc.size ≤ (mtLeft m acc).size := by
  unfold mtLeft
  split
  · exact Nat.le_refl _
  · rw [ByteArray.size_append]; omega

end Go.Proofs.YthkdkefkgmmoiaaDoor

namespace Go.Proofs.YthkdkefkgmmoiaaDoor
open Go.RowKit

/-- Nothing turns that was there, but for the blocks from lo to hi. -/
structure Wrote (lo hi : Nat) (w w' : World) : Prop where
  os : w'.os = w.os
  tape : w'.tape = w.tape
  output : w'.output = w.output
  size : w.heap.size ≤ w'.heap.size
  block : ∀ b, b < w.heap.size → ¬ (lo ≤ b ∧ b < hi) → w'.heap[b]? = w.heap[b]?
theorem Wrote.refl (lo hi : Nat) (w : World) : Wrote lo hi w w := ⟨rfl, rfl, rfl, Nat.le_refl _, fun _ _ _ => rfl⟩
theorem Wrote.trans {lo hi : Nat} {a b c : World} (h : Wrote lo hi a b) (k : Wrote lo hi b c) : Wrote lo hi a c :=
  ⟨k.os.trans h.os, k.tape.trans h.tape, k.output.trans h.output, Nat.le_trans h.size k.size, fun i hi hn => (k.block i (Nat.lt_of_lt_of_le hi h.size) hn).trans (h.block i hi hn)⟩
theorem Wrote.mono {lo hi lo' hi' : Nat} {a b : World} (h : Wrote lo hi a b) (h1 : lo' ≤ lo) (h2 : hi ≤ hi') : Wrote lo' hi' a b :=
  ⟨h.os, h.tape, h.output, h.size, fun i hi hn => h.block i hi (by omega)⟩
theorem Wrote.below {lo hi : Nat} {a b c : World} (h : Wrote lo hi a b) (k : Below a.heap.size b c) : Wrote lo hi a c :=
  ⟨k.os.trans h.os, k.tape.trans h.tape, k.output.trans h.output, Nat.le_trans h.size k.size, fun i hi hn => (k.block i hi).trans (h.block i hi hn)⟩
theorem Wrote.of_below {lo hi : Nat} {a b : World} (k : Below a.heap.size a b) : Wrote lo hi a b := (Wrote.refl lo hi a).below k
theorem Wrote.to_below {lo hi B : Nat} {a b : World} (h : Wrote lo hi a b) (h1 : B ≤ lo) (h2 : B ≤ a.heap.size) : Below B a b :=
  ⟨h.os, h.tape, h.output, h.size, fun i hi => h.block i (by omega) (by omega)⟩
theorem Wrote.set_ {lo hi b o : Nat} {w : World} (h1 : lo ≤ b) (h2 : b < hi) (u : Value) : Wrote lo hi w (w.setCell ⟨b, o, none⟩ u) :=
  ⟨rfl, rfl, rfl, by simp [World.setCell], fun i _ hn => Below.heap_setCell _ _ _ _ (by simp; omega)⟩

/-- How an element of one's own lies in cells: in blocks of an interval. -/
structure OCod (α : Type) where
  cod : Cod α
  rd : Nat → Nat → World → List Value → α → Prop
  get : ∀ {lo hi : Nat} {w : World} {cs : List Value} {x : α}, rd lo hi w cs x → cod.rd (fun b => lo ≤ b ∧ b < hi) w cs x
  keep : ∀ {lo hi : Nat} {w w' : World} {cs : List Value} {x : α}, (∀ b, lo ≤ b → b < hi → w'.heap[b]? = w.heap[b]?) → rd lo hi w cs x → rd lo hi w' cs x
  mono : ∀ {lo hi lo' hi' : Nat} {w : World} {cs : List Value} {x : α}, lo' ≤ lo → hi ≤ hi' → rd lo hi w cs x → rd lo' hi' w cs x

/-- The slice value v reads as xs: its row and what its elements lie in are apart. -/
def Own {α : Type} (c : OCod α) (t : TypeId) (lo hi : Nat) (w : World) (v : Value) (xs : List α) : Prop :=
  ∃ A cap, v = .slice A xs.length cap ∧ xs.length ≤ cap ∧ cap ≤ maxLen ∧
    (0 < xs.length → ∃ (b : Nat) (cs : Array Value) (s e : Nat → Nat), A = some ⟨b, 0, none⟩ ∧ lo ≤ b ∧ b < hi ∧ Blk w b t cs ∧
      (∀ i, i < xs.length → lo ≤ s i ∧ s i ≤ e i ∧ e i ≤ hi) ∧ (∀ i j, i < j → j < xs.length → e i ≤ s j) ∧ (∀ i, i < xs.length → ¬ (s i ≤ b ∧ b < e i)) ∧
      ∀ i x, xs[i]? = some x → ∃ ds, (∀ j u, ds[j]? = some u → cs[i * c.cod.size + j]? = some u) ∧ c.rd (s i) (e i) w ds x)

section
variable {α : Type} {c : OCod α} {t : TypeId} {lo hi : Nat} {w w' : World} {v : Value} {xs : List α}

theorem Own.len_ (h : Own c t lo hi w v xs) : ∃ A cap, v = .slice A xs.length cap ∧ xs.length ≤ cap ∧ cap ≤ maxLen := by
  obtain ⟨A, cap, hv, h1, h2, _⟩ := h
  exact ⟨A, cap, hv, h1, h2⟩
theorem Own.keep (hk : ∀ b, lo ≤ b → b < hi → w'.heap[b]? = w.heap[b]?) (h : Own c t lo hi w v xs) : Own c t lo hi w' v xs := by
  obtain ⟨A, cap, hv, h1, h2, h3⟩ := h
  refine ⟨A, cap, hv, h1, h2, fun hp => ?_⟩
  obtain ⟨b, cs, s, e, hA, hb1, hb2, hB, hs, hm, hd, hx⟩ := h3 hp
  refine ⟨b, cs, s, e, hA, hb1, hb2, (hk b hb1 hb2).trans hB, hs, hm, hd, fun i x hi => ?_⟩
  obtain ⟨ds, hcell, hrd⟩ := hx i x hi
  have hil : i < xs.length := (List.getElem?_eq_some_iff.1 hi).1
  exact ⟨ds, hcell, c.keep (fun b h1 h2 => hk b (by have := hs i hil; omega) (by have := hs i hil; omega)) hrd⟩
theorem Own.mono {lo' hi' : Nat} (h1' : lo' ≤ lo) (h2' : hi ≤ hi') (h : Own c t lo hi w v xs) : Own c t lo' hi' w v xs := by
  obtain ⟨A, cap, hv, h1, h2, h3⟩ := h
  refine ⟨A, cap, hv, h1, h2, fun hp => ?_⟩
  obtain ⟨b, cs, s, e, hA, hb1, hb2, hB, hs, hm, hd, hx⟩ := h3 hp
  exact ⟨b, cs, s, e, hA, by omega, by omega, hB, fun i hi => by have := hs i hi; omega, hm, hd, hx⟩
theorem Own.sl (h : Own c t lo hi w v xs) : c.cod.Sl (fun b => lo ≤ b ∧ b < hi) w v xs := by
  obtain ⟨A, cap, hv, h1, h2, h3⟩ := h
  refine ⟨A, cap, hv, h1, h2, fun hp => ?_⟩
  obtain ⟨b, cs, s, e, hA, hb1, hb2, hB, hs, hm, hd, hx⟩ := h3 hp
  refine ⟨b, 0, hA, ⟨hb1, hb2⟩, fun i x hi => ?_⟩
  obtain ⟨ds, hcell, hrd⟩ := hx i x hi
  have hil : i < xs.length := (List.getElem?_eq_some_iff.1 hi).1
  refine ⟨ds, fun j u hu => ?_, c.cod.mono (fun b hb => ⟨by have := hs i hil; omega, by have := hs i hil; omega⟩) (c.get hrd)⟩
  rw [Nat.zero_add, hB.cell]
  exact hcell j u hu

/-- One element, and what the row reads as when it alone has turned. -/
theorem Own.at (h : Own c t lo hi w v xs) {i : Nat} (hi_ : i < xs.length) : ∃ (b cap : Nat) (cs : Array Value) (p q : Nat) (ds : List Value), v = .slice (some ⟨b, 0, none⟩) xs.length cap ∧ xs.length ≤ cap ∧ cap ≤ maxLen ∧ lo ≤ b ∧ b < hi ∧ Blk w b t cs ∧
    lo ≤ p ∧ q ≤ hi ∧ ¬ (p ≤ b ∧ b < q) ∧ (∀ j u, ds[j]? = some u → cs[i * c.cod.size + j]? = some u) ∧ c.rd p q w ds xs[i] ∧
    ∀ (w' : World) (cs' : Array Value) (ds' : List Value) (y : α), Blk w' b t cs' → (∀ k, (k < i * c.cod.size ∨ i * c.cod.size + c.cod.size ≤ k) → cs'[k]? = cs[k]?) → (∀ j u, ds'[j]? = some u → cs'[i * c.cod.size + j]? = some u) → c.rd p q w' ds' y →
      (∀ b', lo ≤ b' → b' < hi → ¬ (p ≤ b' ∧ b' < q) → b' ≠ b → w'.heap[b']? = w.heap[b']?) → Own c t lo hi w' v (xs.set i y) := by
  obtain ⟨A, cap, hv, h1, h2, h3⟩ := h
  obtain ⟨b, cs, s, e, hA, hb1, hb2, hB, hs, hm, hd, hx⟩ := h3 (by omega)
  obtain ⟨ds, hcell, hrd⟩ := hx i xs[i] (List.getElem?_eq_getElem hi_)
  have hsi := hs i hi_
  refine ⟨b, cap, cs, s i, e i, ds, by rw [hv, hA], h1, h2, hb1, hb2, hB, hsi.1, hsi.2.2, hd i hi_, hcell, hrd, fun w' cs' ds' y hB' hout hin hrd' hk => ?_⟩
  refine ⟨A, cap, by rw [List.length_set]; exact hv, by rw [List.length_set]; exact h1, h2, fun _ => ?_⟩
  rw [List.length_set]
  refine ⟨b, cs', s, e, hA, hb1, hb2, hB', hs, hm, hd, fun i' x hi' => ?_⟩
  by_cases he : i' = i
  · subst he
    rw [List.getElem?_set_self hi_] at hi'
    cases hi'
    exact ⟨ds', hin, hrd'⟩
  · rw [List.getElem?_set_ne (by omega)] at hi'
    obtain ⟨es, hcell', hrd''⟩ := hx i' x hi'
    have hil : i' < xs.length := (List.getElem?_eq_some_iff.1 hi').1
    have hl := c.cod.len (c.get hrd'')
    refine ⟨es, fun j u hu => ?_, c.keep (fun b' hb1' hb2' => hk b' (by have := hs i' hil; omega) (by have := hs i' hil; omega) ?_ ?_) hrd''⟩
    · rw [hout _ ?_]
      · exact hcell' j u hu
      · have hj : j < es.length := (List.getElem?_eq_some_iff.1 hu).1
        rcases Nat.lt_or_gt_of_ne he with hlt | hgt
        · left
          have := Nat.mul_le_mul_right c.cod.size (show i' + 1 ≤ i by omega)
          rw [Nat.add_mul, Nat.one_mul] at this
          omega
        · right
          have := Nat.mul_le_mul_right c.cod.size (show i + 1 ≤ i' by omega)
          rw [Nat.add_mul, Nat.one_mul] at this
          omega
    · rcases Nat.lt_or_gt_of_ne he with hlt | hgt
      · have := hm i' i hlt hi_; omega
      · have := hm i i' hgt hil; omega
    · intro hbb
      subst hbb
      exact hd i' hil ⟨hb1', hb2'⟩
end

/-- A text. -/
def OCod.str : OCod ByteArray where
  cod := Cod.str
  rd _ _ w cs x := Cod.str.rd NoB w cs x
  get h := Cod.str.mono (fun _ h => h.elim) h
  keep _ h := h
  mono _ _ h := h
/-- A number. -/
def OCod.i64 : OCod Int where
  cod := Cod.i64
  rd _ _ w cs x := Cod.i64.rd NoB w cs x
  get h := Cod.i64.mono (fun _ h => h.elim) h
  keep _ h := h
  mono _ _ h := h
/-- A row as an element. -/
def OCod.row {α : Type} (c : OCod α) (t : TypeId) : OCod (List α) where
  cod := c.cod.sl
  rd lo hi w cs xs := ∃ v, cs = [v] ∧ Own c t lo hi w v xs
  get h := by obtain ⟨v, hv, h⟩ := h; exact ⟨v, hv, h.sl⟩
  keep hk h := by obtain ⟨v, hv, h⟩ := h; exact ⟨v, hv, h.keep hk⟩
  mono h1 h2 h := by obtain ⟨v, hv, h⟩ := h; exact ⟨v, hv, h.mono h1 h2⟩
/-- A kind of records; t: the type of its row's elements. -/
def OCod.rec_ (t : TypeId) : OCod Rec where
  cod := Cod.rec_
  rd lo hi w cs r := ∃ v, cs = [.int .i64 r.able, v] ∧ I64 r.able ∧ Own OCod.str t lo hi w v r.fields
  get h := by obtain ⟨v, hv, hi, h⟩ := h; exact ⟨v, hv, hi, h.sl⟩
  keep hk h := by obtain ⟨v, hv, hi, h⟩ := h; exact ⟨v, hv, hi, h.keep hk⟩
  mono h1 h2 h := by obtain ⟨v, hv, hi, h⟩ := h; exact ⟨v, hv, hi, h.mono h1 h2⟩
/-- A value: a: its parts' row, p: its path's; apart. -/
structure OV (c : OCod Val) (tv ti : TypeId) (lo hi : Nat) (w : World) (a p : Value) (v : Val) : Prop where
  ty : v.ty.size ≤ maxLen
  n : I64 v.n
  rows : ∃ m, lo ≤ m ∧ m ≤ hi ∧ Own c tv lo m w a v.parts ∧ Own OCod.i64 ti m hi w p v.path
theorem OV.keep {c : OCod Val} {tv ti : TypeId} {lo hi : Nat} {w w' : World} {a p : Value} {v : Val} (hk : ∀ b, lo ≤ b → b < hi → w'.heap[b]? = w.heap[b]?) (h : OV c tv ti lo hi w a p v) : OV c tv ti lo hi w' a p v := by
  obtain ⟨h1, h2, m, h3, h4, h5, h6⟩ := h
  exact ⟨h1, h2, m, h3, h4, h5.keep fun b g1 g2 => hk b g1 (by omega), h6.keep fun b g1 g2 => hk b (by omega) g2⟩
theorem OV.mono {c : OCod Val} {tv ti : TypeId} {lo hi lo' hi' : Nat} {w : World} {a p : Value} {v : Val} (g1 : lo' ≤ lo) (g2 : hi ≤ hi') (h : OV c tv ti lo hi w a p v) : OV c tv ti lo' hi' w a p v := by
  obtain ⟨h1, h2, m, h3, h4, h5, h6⟩ := h
  exact ⟨h1, h2, m, by omega, by omega, h5.mono g1 (Nat.le_refl _), h6.mono (Nat.le_refl _) g2⟩
theorem OV.rd {c : OCod Val} {tv ti : TypeId} {lo hi : Nat} {w : World} {a p : Value} {v : Val} (h : OV c tv ti lo hi w a p v) : VRd c.cod (fun b => lo ≤ b ∧ b < hi) w a p v := by
  obtain ⟨h1, h2, m, h3, h4, h5, h6⟩ := h
  exact ⟨h1, h2, h5.sl.mono fun b hb => ⟨hb.1, by omega⟩, h6.sl.mono fun b hb => ⟨by omega, hb.2⟩⟩
/-- No value. -/
def OCod.no : OCod Val where
  cod := Cod.no
  rd _ _ _ _ _ := False
  get h := h.elim
  keep _ h := h
  mono _ _ h := h
/-- A value of which c are the parts. -/
def OCod.of (c : OCod Val) (tv ti : TypeId) : OCod Val where
  cod := c.cod.of
  rd lo hi w cs v := ∃ a p, cs = [.string v.ty, .int .i64 v.n, a, p] ∧ OV c tv ti lo hi w a p v
  get h := by obtain ⟨a, p, hc, h⟩ := h; exact ⟨a, p, hc, h.rd⟩
  keep hk h := by obtain ⟨a, p, hc, h⟩ := h; exact ⟨a, p, hc, h.keep hk⟩
  mono h1 h2 h := by obtain ⟨a, p, hc, h⟩ := h; exact ⟨a, p, hc, h.mono h1 h2⟩
/-- A value of a depth. -/
def OCod.val (tv ti : TypeId) : Nat → OCod Val
  | 0 => OCod.no
  | d + 1 => (OCod.val tv ti d).of tv ti
theorem OCod.val_cod (tv ti : TypeId) : ∀ d, (OCod.val tv ti d).cod = Cod.val d
  | 0 => rfl
  | d + 1 => by show (OCod.val tv ti d).cod.of = (Cod.val d).of; rw [OCod.val_cod tv ti d]

/-- Marked one by one. -/
def markL {α : Type} (f : α → Nat → α × Nat) : List α → Nat → List α × Nat
  | [], k => ([], k)
  | x :: r, k => ((f x k).1 :: (markL f r (f x k).2).1, (markL f r (f x k).2).2)
theorem markL_length {α : Type} (f : α → Nat → α × Nat) : ∀ (xs : List α) (k : Nat), (markL f xs k).1.length = xs.length
  | [], _ => rfl
  | x :: r, k => by show (markL f r (f x k).2).1.length + 1 = r.length + 1; rw [markL_length f r]
theorem markL_le {α : Type} {f : α → Nat → α × Nat} (h : ∀ x k, k ≤ (f x k).2) : ∀ (xs : List α) (k : Nat), k ≤ (markL f xs k).2
  | [], _ => Nat.le_refl _
  | x :: r, k => Nat.le_trans (h x k) (markL_le h r (f x k).2)
/-- Half way. -/
def MarkAt {α : Type} (f : α → Nat → α × Nat) (xs : List α) (k : Nat) (done : List α) (j kj : Nat) : Prop :=
  done.length = j ∧ done ++ (markL f (xs.drop j) kj).1 = (markL f xs k).1 ∧ (markL f (xs.drop j) kj).2 = (markL f xs k).2
theorem MarkAt.start {α : Type} (f : α → Nat → α × Nat) (xs : List α) (k : Nat) : MarkAt f xs k [] 0 k := ⟨rfl, rfl, rfl⟩
theorem MarkAt.step {α : Type} {f : α → Nat → α × Nat} {xs : List α} {k : Nat} {done : List α} {j kj : Nat} (h : MarkAt f xs k done j kj) (hj : j < xs.length) : MarkAt f xs k (done ++ [(f xs[j] kj).1]) (j + 1) (f xs[j] kj).2 := by
  obtain ⟨h1, h2, h3⟩ := h
  rw [drop_cons hj] at h2 h3
  exact ⟨by simp [h1], by rw [← h2]; simp [markL], h3⟩
theorem MarkAt.end_ {α : Type} {f : α → Nat → α × Nat} {xs : List α} {k : Nat} {done : List α} {j kj : Nat} (h : MarkAt f xs k done j kj) (hj : j = xs.length) : done = (markL f xs k).1 ∧ kj = (markL f xs k).2 := by
  obtain ⟨h1, h2, h3⟩ := h
  rw [hj, List.drop_length] at h2 h3
  exact ⟨by rw [← h2]; simp [markL], h3⟩
theorem MarkAt.room {α : Type} {f : α → Nat → α × Nat} (hf : ∀ x k, k ≤ (f x k).2) {xs : List α} {k : Nat} {done : List α} {j kj : Nat} (h : MarkAt f xs k done j kj) : kj ≤ (markL f xs k).2 := by
  rw [← h.2.2]; exact markL_le hf _ _
theorem MarkAt.set_ {α : Type} {f : α → Nat → α × Nat} {xs : List α} {k : Nat} {done : List α} {j kj : Nat} (h : MarkAt f xs k done j kj) (hj : j < xs.length) (y : α) : (done ++ xs.drop j).set j y = (done ++ [y]) ++ xs.drop (j + 1) := by
  rw [drop_cons hj]
  have h1 := h.1
  rw [List.set_append_right _ _ (by omega), h1, Nat.sub_self, List.set_cons_zero, List.append_assoc]
  rfl
theorem MarkAt.get_ {α : Type} {f : α → Nat → α × Nat} {xs : List α} {k : Nat} {done : List α} {j kj : Nat} (h : MarkAt f xs k done j kj) (hj : j < xs.length) : j < (done ++ xs.drop j).length ∧ ∀ hh, (done ++ xs.drop j)[j]'hh = xs[j] := by
  have h1 := h.1
  refine ⟨by simp [h1]; omega, fun hh => ?_⟩
  rw [List.getElem_append_right (by omega)]
  simp [h1]
theorem MarkAt.len {α : Type} {f : α → Nat → α × Nat} {xs : List α} {k : Nat} {done : List α} {j kj : Nat} (h : MarkAt f xs k done j kj) (hj : j ≤ xs.length) : (done ++ xs.drop j).length = xs.length := by
  have h1 := h.1
  simp [h1]; omega
end Go.Proofs.YthkdkefkgmmoiaaDoor

namespace Go.Proofs.YthkdkefkgmmoiaaDoor
open Go.RowKit

theorem MarkAt.nth {α : Type} {f : α → Nat → α × Nat} {xs : List α} {k : Nat} {done : List α} {j kj : Nat} (h : MarkAt f xs k done j kj) (hj : j < xs.length) : ∃ hh : j < (markL f xs k).1.length, (markL f xs k).1[j]'hh = (f xs[j] kj).1 := by
  have h1 := h.1
  have h2 := h.2.1
  rw [drop_cons hj] at h2
  refine ⟨by rw [markL_length]; exact hj, ?_⟩
  have h3 : (markL f xs k).1[j]? = some (f xs[j] kj).1 := by
    rw [← h2, List.getElem?_append_right (by omega), h1, Nat.sub_self]
    rfl
  exact (List.getElem?_eq_some_iff.1 h3).2
/-- A text marked; a number. -/
def mkS (_ : ByteArray) (k : Nat) : ByteArray × Nat := (mt k, k + 1)
def mkI (_ : Int) (k : Nat) : Int × Nat := ((k : Int), k + 1)
theorem mt_size {k : Nat} (h : k ≤ 100000000) : (mt k).size ≤ maxLen := by
  unfold mt
  rw [ByteArray.size_append]
  have := size_decBy 8 k (by omega)
  have e : (⟨#[109]⟩ : ByteArray).size = 1 := rfl
  unfold maxLen
  omega

def MarkD {α : Type} (c : OCod α) (t : TypeId) (lo hi : Nat) (w : World) (v : Value) (ys : List α) (k : Nat) (e : Ending) (w' : World) : Prop :=
  e = .returned (.int .i64 k) ∧ Own c t lo hi w' v ys ∧ Wrote lo hi w w'

end Go.Proofs.YthkdkefkgmmoiaaDoor

namespace Go.Proofs.YthkdkefkgmmoiaaDoor
open Go.RowKit

/-- The first k elements of a row that is being filled, each in blocks that have come since the one before. -/
def OPart {α : Type} (c : OCod α) (b : Nat) (w : World) (cs : Array Value) (k : Nat) (xs : List α) : Prop :=
  ∃ s : Nat → Nat, (∀ i j, i ≤ j → j ≤ k → s i ≤ s j) ∧ b < s 0 ∧ s k ≤ w.heap.size ∧
    ∀ i x, i < k → xs[i]? = some x → ∃ ds, (∀ j u, ds[j]? = some u → cs[i * c.cod.size + j]? = some u) ∧ c.rd (s i) (s (i + 1)) w ds x
section
variable {α : Type} {c : OCod α} {t : TypeId} {b k : Nat} {w w' : World} {cs cs' : Array Value} {xs : List α}
theorem OPart.zero (h : b < w.heap.size) : OPart c b w cs 0 xs := ⟨fun _ => b + 1, fun _ _ _ _ => Nat.le_refl _, Nat.lt_succ_self b, h, fun _ _ h => absurd h (by omega)⟩
theorem OPart.next (h : OPart c b w cs k xs) (hk : k < xs.length) (hw : ∀ i, b < i → i < w.heap.size → w'.heap[i]? = w.heap[i]?) (hs : w.heap.size ≤ w'.heap.size) {news : List Value}
    (hold : ∀ i, i < k * c.cod.size → cs'[i]? = cs[i]?) (hnew : ∀ (j : Nat) (u : Value), news[j]? = some u → cs'[k * c.cod.size + j]? = some u) (hrd : c.rd w.heap.size w'.heap.size w' news xs[k]) : OPart c b w' cs' (k + 1) xs := by
  obtain ⟨s, hm, h0, hk', hx⟩ := h
  have hsk : ∀ i, i ≤ k → s i ≤ w.heap.size := fun i hi => Nat.le_trans (hm i k hi (Nat.le_refl _)) hk'
  refine ⟨fun i => if i ≤ k then s i else w'.heap.size, fun i j hij hj => ?_, by simpa using h0, by show (if k + 1 ≤ k then s (k + 1) else w'.heap.size) ≤ _; rw [if_neg (show ¬ k + 1 ≤ k by omega)]; exact Nat.le_refl _, fun i x hi hxi => ?_⟩
  · by_cases hik : i ≤ k
    · by_cases hjk : j ≤ k
      · simp only [if_pos hik, if_pos hjk]; exact hm i j hij hjk
      · simp only [if_pos hik, if_neg hjk]; have := hsk i hik; omega
    · simp only [if_neg hik, if_neg (show ¬ j ≤ k by omega)]; exact Nat.le_refl _
  · by_cases he : i = k
    · subst he
      rw [List.getElem?_eq_getElem hk] at hxi
      cases hxi
      simp only [if_pos (Nat.le_refl i), if_neg (show ¬ i + 1 ≤ i by omega)]
      exact ⟨news, hnew, c.mono (hsk i (Nat.le_refl _)) (Nat.le_refl _) hrd⟩
    · obtain ⟨ds, h1, h2⟩ := hx i x (by omega) hxi
      simp only [if_pos (show i ≤ k by omega), if_pos (show i + 1 ≤ k by omega)]
      have hl := c.cod.len (c.get h2)
      refine ⟨ds, fun j u hu => ?_, c.keep (fun b' g1 g2 => hw b' (by have := hm 0 i (by omega) (by omega); omega) (by have := hsk (i + 1) (by omega); omega)) h2⟩
      have hj : j < ds.length := (List.getElem?_eq_some_iff.1 hu).1
      have := Nat.mul_le_mul_right c.cod.size (show i + 1 ≤ k by omega)
      rw [Nat.add_mul, Nat.one_mul] at this
      rw [hold _ (by omega)]
      exact h1 j u hu
theorem OPart.own {lo cap : Nat} (h : OPart c b w cs xs.length xs) (hB : Blk w b t cs) (hlo : lo ≤ b) (hl : xs.length ≤ cap) (hm : cap ≤ maxLen) : Own c t lo w.heap.size w (.slice (some ⟨b, 0, none⟩) xs.length cap) xs := by
  refine ⟨_, cap, rfl, hl, hm, fun _ => ?_⟩
  obtain ⟨s, hmo, h0, hk', hx⟩ := h
  refine ⟨b, cs, s, fun i => s (i + 1), rfl, hlo, hB.lt, hB, fun i hi => ⟨?_, hmo i (i + 1) (by omega) (by omega), Nat.le_trans (hmo (i + 1) _ hi (Nat.le_refl _)) hk'⟩, fun i j hij hj => hmo (i + 1) j hij (by omega), fun i hi hh => ?_, fun i x hxi => hx i x (List.getElem?_eq_some_iff.1 hxi).1 hxi⟩
  · have := hmo 0 i (Nat.zero_le _) (by omega); omega
  · have := hmo 0 i (Nat.zero_le _) (by omega); omega
end

/-- Made by the call, its blocks apart. -/
def MadeO {α : Type} (c : OCod α) (t : TypeId) (W w : World) (v : Value) (xs : List α) : Prop := Own c t W.heap.size w.heap.size w v xs ∧ Below W.heap.size W w

set_option maxHeartbeats 400000 in
theorem toStringS_own (F : Nat → Prop) (v : Value) (xs : List ByteArray) (w : World) (h : Cod.str.Sl F w v xs) (hF : ∀ b, F b → b < w.heap.size) (hn : xs.length ≤ 2000000) :
    Calls Tryd.prog 59 #[v] w fun e w' => ∃ A' c', e = .returned (.slice A' xs.length c') ∧ MadeO OCod.str 9 w w' (.slice A' xs.length c') xs := by
  have HS := Lib.hid h
  obtain ⟨A, cap, rfl, hlc, hcm, _⟩ := h
  unfold maxLen at hcm
  have hmk := make_len (P := Tryd.prog) 49 9 _ 1 16 Tryd.underlying49 info_str (by omega) xs.length hn
  go_enter Tryd.func59, Tryd.ntmps59
  go_wp2
  go_loopw [4] (fun i wr => ∃ (k : Nat) (cs : Array Value), k ≤ xs.length ∧ i = .int .i64 k ∧ Blk wr w.heap.size 9 cs ∧ cs.size = xs.length ∧ OPart OCod.str w.heap.size wr cs k xs ∧ Below w.heap.size w wr) (fun i _ => xs.length - (intOf i).toNat)
  case atStart => exact ⟨0, _, Nat.zero_le _, rfl, Blk.new _ _ _, by simp [madeCells], OPart.zero (by simp), (Below.refl _ _).alloc (Nat.le_refl _) _⟩
  case round =>
    obtain ⟨k, cs, hk, rfl, HB, hsz, HP, hb⟩ := hrel
    have HBl := HB.lt
    by_cases hlt : k < xs.length
    · have HSr := Lib.hid (HS.out.keep (below_keeps hb hF))
      obtain ⟨b, off, cap', hv, hFb, _, _, hc0, hs0⟩ := HSr.out.str_at hlt
      obtain ⟨rfl, rfl⟩ : A = some ⟨b, off, none⟩ ∧ cap = cap' := by simpa using hv
      obtain ⟨d0, hd0⟩ := HB.holds hsz hlt
      have hf0 := HB.frozen k
      have HB' := Lib.hid HB
      have HP' := Lib.hid HP
      have Hsz := Lib.hid hsz
      clear hv HB HP hsz hmk
      go_wp2
      go_roundw
      case rel =>
        refine ⟨k + 1, _, by omega, by go_num, HB'.out.set_ k _, by rw [Array.size_setIfInBounds, Hsz.out], ?_, hb.setCell (by simp) _⟩
        refine HP'.out.next (news := [.string xs[k]]) hlt (fun i h1 _ => Below.heap_setCell _ _ _ _ (by simp; omega)) (by simp [World.setCell]) (fun i hi => by rw [Array.getElem?_setIfInBounds, if_neg (by simp [OCod.str, Cod.str] at hi; omega)]) (fun j u hu => ?_) ⟨rfl, hs0⟩
        match j, hu with
        | 0, hu => simp at hu; subst hu; simp [OCod.str, Cod.str, Hsz.out, hlt]
        | j + 1, hu => simp at hu
      case measure => simp [intOf]; omega
    · obtain rfl : k = xs.length := by omega
      have HM : MadeO OCod.str 9 w wr (.slice (some ⟨w.heap.size, 0, none⟩) xs.length xs.length) xs := ⟨HP.own HB (Nat.le_refl _) (Nat.le_refl _) (by unfold maxLen; omega), hb⟩
      clear hmk HB HP
      go_wp2
      go_ret
      exact ⟨_, _, rfl, HM⟩

set_option maxHeartbeats 400000 in
theorem toRecord_own (F : Nat → Prop) (v : Value) (r : Rec) (w : World) (h : Cod.str.Sl F w v r.fields) (hF : ∀ b, F b → b < w.heap.size) (hn : r.fields.length ≤ 2000000) :
    Calls Tryd.prog 45 #[.agg #[.int .i64 r.able, v]] w fun e w' => ∃ A' c', e = .returned (.agg #[.int .i64 r.able, .slice A' r.fields.length c']) ∧ MadeO OCod.str 9 w w' (.slice A' r.fields.length c') r.fields := by
  have HS := Lib.hid h
  obtain ⟨A, cap, rfl, hlc, hcm, _⟩ := h
  unfold maxLen at hcm
  go_enter Tryd.func45, Tryd.ntmps45
  go_wp2_with fail
  refine (toStringS_own F _ r.fields _ (HS.out.keep fun b hb => ?_) (fun b hb => ?_) hn).mono ?_
  · have := hF b hb
    rw [Below.heap_alloc _ _ _ (by simp; omega), Below.heap_alloc _ _ _ (by simp; omega), Below.heap_alloc _ _ _ (by omega)]
  · have := hF b hb
    simp; omega
  rintro e w1 ⟨A', c', rfl, hM⟩
  obtain ⟨hB1, hB2⟩ := Blk.of3 w (Obj.cells #[Value.int IntKind.i64 r.able, Value.slice A r.fields.length cap] 78) 51 51 #[Value.int IntKind.i64 0, Value.slice none 0 0] #[Value.int IntKind.i64 r.able, Value.slice none 0 0]
  have hC1 := hB1.below hM.2 (by simp)
  have hC2 := hB2.below hM.2 (by simp)
  have c10 := hC1.cell0
  have c11 := hC1.cell1
  have f10 := hC1.frozen 0
  have f11 := hC1.frozen 1
  have c20 := hC2.cell0
  have c21 := hC2.cell1
  have f20 := hC2.frozen 0
  have f21 := hC2.frozen 1
  have hsz : w.heap.size + 3 ≤ w1.heap.size := by simpa using hM.2.size
  have hM' := Lib.hid hM
  clear hB1 hB2 hC1 hC2 hM
  go_wp2
  refine bodyPost_ret (v := .agg #[.int .i64 r.able, .slice A' r.fields.length c']) (by simp [results, Tryd.results45, go_sem, c10, c11]) rfl ⟨A', c', rfl, ?_, ?_⟩
  · have h1 := hM'.out.1
    have e3 : (((w.alloc (Obj.cells #[Value.int IntKind.i64 r.able, Value.slice A r.fields.length cap] 78)).alloc (.cells #[Value.int IntKind.i64 0, Value.slice none 0 0] 51)).alloc (.cells #[Value.int IntKind.i64 r.able, Value.slice none 0 0] 51)).heap.size = w.heap.size + 3 := by simp
    rw [e3] at h1
    refine (h1.keep fun b g1 g2 => ?_).mono (by omega) (by simp)
    rw [Below.heap_setCell _ _ _ _ (by simp; omega), Below.heap_setCell _ _ _ _ (by simp; omega), Below.heap_setCell _ _ _ _ (by simp; omega)]
  · refine Below.setCell (Below.setCell (Below.setCell ?_ (by simp; omega) _) (by simp) _) (by simp) _
    exact (((Below.refl _ _).alloc (Nat.le_refl _) _).alloc (by simp) _).alloc (by simp; omega) _ |>.trans (hM'.out.2.mono (by simp; omega))

set_option maxHeartbeats 400000 in
theorem toRecordS_own (F : Nat → Prop) (v : Value) (xs : List Rec) (w : World) (h : Cod.rec_.Sl F w v xs) (hF : ∀ b, F b → b < w.heap.size) (hn : xs.length ≤ 2000000) (hm : ∀ r ∈ xs, r.fields.length ≤ 2000000) :
    Calls Tryd.prog 29 #[v] w fun e w' => ∃ A' c', e = .returned (.slice A' xs.length c') ∧ MadeO (OCod.rec_ 9) 51 w w' (.slice A' xs.length c') xs := by
  have HS := Lib.hid h
  have Hm := Lib.hid hm
  clear hm
  obtain ⟨A, cap, rfl, hlc, hcm, _⟩ := h
  unfold maxLen at hcm
  have hmk := make_len (P := Tryd.prog) 40 51 _ 2 32 Tryd.underlying40 info_rec (by omega) xs.length hn
  go_enter Tryd.func29, Tryd.ntmps29
  go_wp2
  go_loopw [4] (fun i wr => ∃ (k : Nat) (cs : Array Value), k ≤ xs.length ∧ i = .int .i64 k ∧ Blk wr w.heap.size 51 cs ∧ cs.size = xs.length * 2 ∧ OPart (OCod.rec_ 9) w.heap.size wr cs k xs ∧ Below w.heap.size w wr) (fun i _ => xs.length - (intOf i).toNat)
  case atStart => exact ⟨0, _, Nat.zero_le _, rfl, Blk.new _ _ _, by simp [madeCells], OPart.zero (by simp), (Below.refl _ _).alloc (Nat.le_refl _) _⟩
  case round =>
    obtain ⟨k, cs, hk, rfl, HB, hsz, HP, hb⟩ := hrel
    have HBl := HB.lt
    by_cases hlt : k < xs.length
    · have HSr := Lib.hid (HS.out.keep (below_keeps hb hF))
      obtain ⟨b, off, cap', u, hv, hFb, _, _, hc0, hc1, hi0, hu⟩ := HSr.out.rec_at hlt
      obtain ⟨rfl, rfl⟩ : A = some ⟨b, off, none⟩ ∧ cap = cap' := by simpa using hv
      have HB' := Lib.hid HB
      have HP' := Lib.hid HP
      have Hsz := Lib.hid hsz
      have Hu := Lib.hid hu
      have Hi := Lib.hid hi0
      have hm1 := Hm.out xs[k] (List.getElem_mem hlt)
      have hws := hb.size
      clear hv HB HP hsz hmk hu hi0
      go_wp2_with fail
      refine (toRecord_own F u xs[k] wr Hu.out (fun b hb' => Nat.lt_of_lt_of_le (hF b hb') hws) hm1).mono ?_
      rintro e w1 ⟨A', c', rfl, hM⟩
      have hbl := hM.2
      have HB1 := HB'.out.below hbl HBl
      obtain ⟨d0, hd0⟩ := HB1.holds Hsz.out (i := k * 2) (by omega)
      obtain ⟨d1, hd1⟩ := HB1.holds Hsz.out (i := k * 2 + 1) (by omega)
      have hf0 := HB1.frozen (k * 2)
      have hf1 := HB1.frozen (k * 2 + 1)
      have HBB := Lib.hid HB1
      have hw1 := hbl.size
      have HM := Lib.hid hM
      clear HB1 hM hbl
      go_wp2
      go_roundw
      case rel =>
        have hk1 : ∀ b, w.heap.size < b → ((w1.setCell ⟨w.heap.size, k * 2, none⟩ (.int .i64 (xs[k]).able)).setCell ⟨w.heap.size, k * 2 + 1, none⟩ (.slice A' (xs[k]).fields.length c')).heap[b]? = w1.heap[b]? := fun b hb' => by
          rw [Below.heap_setCell _ _ _ _ (by simp; omega), Below.heap_setCell _ _ _ _ (by simp; omega)]
        refine ⟨k + 1, _, by omega, by go_num, (HBB.out.set_ _ _).set_ _ _, by rw [Array.size_setIfInBounds, Array.size_setIfInBounds, Hsz.out], ?_, ?_⟩
        · refine HP'.out.next (news := [.int .i64 (xs[k]).able, .slice A' (xs[k]).fields.length c']) hlt (fun i h1 h2 => (hk1 i h1).trans (HM.out.2.block i h2)) (by simpa using hw1)
            (fun i hi => by rw [Array.getElem?_setIfInBounds, if_neg (by simp [OCod.rec_, Cod.rec_] at hi; omega), Array.getElem?_setIfInBounds, if_neg (by simp [OCod.rec_, Cod.rec_] at hi; omega)]) (fun j u hu => ?_)
            ⟨_, rfl, Hi.out, (HM.out.1.keep fun b g1 g2 => hk1 b (by omega)).mono (Nat.le_refl _) (by simp)⟩
          match j, hu with
          | 0, hu => simp at hu; subst hu; simp [OCod.rec_, Cod.rec_, Array.getElem?_setIfInBounds, Hsz.out]; omega
          | 1, hu => simp at hu; subst hu; simp [OCod.rec_, Cod.rec_, Array.getElem?_setIfInBounds, Hsz.out]; omega
          | j + 2, hu => simp at hu
        · exact ((hb.trans (HM.out.2.mono hws)).setCell (by simp) _).setCell (by simp) _
      case measure => simp [intOf]; omega
    · obtain rfl : k = xs.length := by omega
      have HM : MadeO (OCod.rec_ 9) 51 w wr (.slice (some ⟨w.heap.size, 0, none⟩) xs.length xs.length) xs := ⟨HP.own HB (Nat.le_refl _) (Nat.le_refl _) (by unfold maxLen; omega), hb⟩
      clear hmk HB HP
      go_wp2
      go_ret
      exact ⟨_, _, rfl, HM⟩

end Go.Proofs.YthkdkefkgmmoiaaDoor

namespace Go.Proofs.YthkdkefkgmmoiaaDoor
open Go.RowKit

def mkR (r : Rec) (k : Nat) : Rec × Nat := (⟨(k : Int), (markL mkS r.fields (k + 1)).1⟩, (markL mkS r.fields (k + 1)).2)
def mkRS (rs : List Rec) (k : Nat) : List Rec × Nat := markL mkR rs k
theorem mkS_le (x : ByteArray) (k : Nat) : k ≤ (mkS x k).2 := Nat.le_succ k
theorem mkR_le (x : Rec) (k : Nat) : k ≤ (mkR x k).2 := by have := markL_le mkS_le x.fields (k + 1); show k ≤ (markL mkS x.fields (k + 1)).2; omega
theorem mkRS_le (x : List Rec) (k : Nat) : k ≤ (mkRS x k).2 := markL_le mkR_le x k

end Go.Proofs.YthkdkefkgmmoiaaDoor
