/- Instructions: all words, of the model and of the program; texts held. -/
import Derived.Test.YthkdkefkgmmoiaaDoorItf
import Derived.Test.YthkdkefkgmmoiaaDoorItc
import Derived.Test.YthkdkefkgmmoiaaDoorRow
import Derived.Test.YthkdkefkgmmoiaaDoorMk
import Derived.Test.YthkdkefkgmmoiaaDoorEq
namespace Go.Proofs.YthkdkefkgmmoiaaDoor
open Go.RowKit

/-- The cells of texts. -/
def strVs (xs : List ByteArray) : List Value := xs.map .string
theorem strVs_append (a b : List ByteArray) : strVs (a ++ b) = strVs a ++ strVs b := List.map_append
theorem strVs_one (xs : List ByteArray) : ∀ u ∈ strVs xs, u.oneCell' = true := fun u hu => by
  obtain ⟨x, _, rfl⟩ := List.mem_map.1 hu
  rfl
/-- A row of texts of the call's own. -/
def OwnS (B : Nat) (w : World) (v : Value) (xs : List ByteArray) : Prop := w.ownsRow B 9 1 v xs.length (strVs xs)
theorem OwnS.own {B : Nat} {w : World} {v : Value} {xs : List ByteArray} (h : OwnS B w v xs) (hB : B ≤ w.heap.size) (hs : ∀ x ∈ xs, x.size ≤ maxLen) : Own OCod.str 9 B w.heap.size w v xs := by
  rcases h.2 with ⟨rfl, h0⟩ | ⟨g, cap, cur, rfl, hg, hh, hn, hc, _, ht⟩
  · have : xs = [] := List.eq_nil_of_length_eq_zero h0
    subst this
    exact ⟨none, 0, rfl, Nat.le_refl _, Nat.zero_le _, fun h => absurd h (by simp)⟩
  · have hBl : Blk w g 9 cur := hh
    refine ⟨_, cap, rfl, hn, hc, fun _ => ⟨g, cur, fun _ => B, fun _ => B, rfl, hg, hBl.lt, hBl, fun _ _ => ⟨Nat.le_refl _, Nat.le_refl _, hB⟩, fun _ _ _ _ => Nat.le_refl _, fun _ _ h => absurd (show B ≤ g ∧ g < B from h) (by omega), fun i x hi => ⟨[.string x], fun j u hu => ?_, ⟨rfl, hs x (List.mem_of_getElem? hi)⟩⟩⟩⟩
    match j, hu with
    | 0, hu =>
      obtain rfl : Value.string x = u := by simpa using hu
      have hx : (strVs xs)[i]? = some (.string x) := by unfold strVs; rw [List.getElem?_map, hi]; rfl
      rw [← ht, List.getElem?_take] at hx
      show cur[i * 1 + 0]? = _
      rw [Nat.mul_one, Nat.add_zero]
      split at hx
      · simpa using hx
      · cases hx
    | j + 1, hu => simp at hu
theorem OwnS.lit (w : World) (B : Nat) (hb : B ≤ w.heap.size) : OwnS B (w.alloc (.cells #[] 9)) (.slice (some ⟨w.heap.size, 0, none⟩) 0 0) [] := World.ownsRow_made w #[] 0 hb (by simp [maxLen]) (by simp)
theorem OwnS.nil_ (w : World) (B : Nat) : OwnS B w (.slice none 0 0) [] := World.ownsRow_nil _ _ _ _

theorem OwnS.below {B : Nat} {w w' : World} {v : Value} {xs : List ByteArray} (h : OwnS B w v xs) (hb : Below w.heap.size w w') : OwnS B w' v xs := by
  refine ⟨h.1, ?_⟩
  rcases h.2 with h0 | ⟨g, cap, cur, rfl, hg, hh, hr⟩
  · exact .inl h0
  · have hB : Blk w g 9 cur := hh
    exact .inr ⟨g, cap, cur, rfl, hg, (hb.block g hB.lt).trans hh, hr⟩
/-- append(v, x), x laid in a block of its own. -/
theorem OwnS.push {B : Nat} {w : World} {v : Value} {xs : List ByteArray} (h : OwnS B w v xs) (hB : B ≤ w.heap.size) (hn : xs.length ≤ 4000000) (x : ByteArray) :
    ∃ g cap w', (Builtin.append_ #[49, 49] 49 #[v, .slice (some ⟨w.heap.size, 0, none⟩) 1 1]).run Tryd.prog (w.alloc (.cells #[.string x] 9)) = .ok (.slice (some ⟨g, 0, none⟩) (xs.length + 1) cap) w' ∧ OwnS B w' (.slice (some ⟨g, 0, none⟩) (xs.length + 1) cap) (xs ++ [x]) ∧ Below B w w' ∧
      (∀ b, b < w.heap.size → v.ownBlock ≠ some b → w'.heap[b]? = w.heap[b]?) ∧ (v.ownBlock = some g ∨ w.heap.size < g) := by
  obtain ⟨i, hi0, hz0, hz1, hz2⟩ := info_parts info_str
  have hal : Below w.heap.size w (w.alloc (.cells #[.string x] 9)) := (Below.refl _ _).alloc (Nat.le_refl _) _
  have hbl := Blk.new w 9 #[.string x]
  obtain ⟨v', w', hr, ho, hg, _, hat⟩ := run_append_own_at (P := Tryd.prog) (w.alloc (.cells #[.string x] 9)) B 49 49 9 i _ 1 16 Tryd.underlying49 hi0 hz0 hz1 hz2 rfl (by omega) v xs.length (strVs xs) (World.ownsRow.alloc h _) ⟨w.heap.size, 0, none⟩ 1 1 [.string x] rfl
    (fun j u hu => by rw [plain_add, hbl.cell]; simpa using hu) (fun u hu => by simp at hu; subst hu; rfl) (by unfold maxLen; omega) (by omega) (by simp; omega)
  obtain ⟨g, cap, rfl, hge, _⟩ := ho.form (by omega)
  have hown : ∀ b, v.ownBlock = some b → B ≤ b := fun b hb => by
    rcases h.2 with ⟨rfl, _⟩ | ⟨g', _, _, rfl, hb', _⟩
    · simp [Value.ownBlock] at hb
    · simp [Value.ownBlock] at hb
      omega
  refine ⟨g, cap, w', hr, by unfold OwnS; rw [strVs_append, List.length_append]; exact ho, (hal.mono hB).trans ⟨hg.os, hg.tape, hg.output, hg.size, fun i hi => hg.block i (by simp; omega) fun he => ?_⟩, fun b hb hne => (hg.block b (by simp; omega) fun he => hne he.symm).trans (hal.block b hb), ?_⟩
  · have := hown i he.symm
    omega
  · rcases hat with h | h
    · exact .inl h.symm
    · right
      simp [Value.ownBlock] at h
      omega
/-- append(v, s...), s a row that lies elsewhere. -/
theorem OwnS.row {F : Nat → Prop} {B : Nat} {w : World} {v u : Value} {xs ys : List ByteArray} (h : OwnS B w v xs) (hB : B ≤ w.heap.size) (hn : xs.length ≤ 4000000) (hm : ys.length ≤ 4000000) (hy : Cod.str.Sl F w u ys) (h0 : 0 < ys.length) :
    ∃ v' w', (Builtin.append_ #[49, 49] 49 #[v, u]).run Tryd.prog w = .ok v' w' ∧ OwnS B w' v' (xs ++ ys) ∧ Below B w w' := by
  obtain ⟨b, off, cap, hv, _, _, _, _⟩ := hy.str_at h0
  have hcell : ∀ j u', (strVs ys)[j]? = some u' → w.cell? ((⟨b, off, none⟩ : Addr).add j) = some u' := fun j u' hj => by
    unfold strVs at hj
    rw [List.getElem?_map] at hj
    cases hy' : ys[j]? with
    | none => rw [hy'] at hj; cases hj
    | some x =>
      rw [hy'] at hj
      obtain rfl : Value.string x = u' := by simpa using hj
      have hl := (List.getElem?_eq_some_iff.1 hy').1
      obtain ⟨b', off', cap', hv', _, _, _, hc, _⟩ := hy.str_at hl
      rw [hv] at hv'
      obtain ⟨⟨rfl, rfl⟩, rfl⟩ : (b = b' ∧ off = off') ∧ cap = cap' := by simpa using hv'
      rw [show (⟨b, off, none⟩ : Addr).add j = ⟨b, off + j, none⟩ by unfold Addr.add; split <;> simp_all, hc]
      rw [List.getElem?_eq_getElem hl] at hy'
      cases hy'
      rfl
  obtain ⟨v', w', hr, ho, hg⟩ := append_row (P := Tryd.prog) (w := w) B 49 49 9 (.string ⟨#[]⟩) 1 16 Tryd.underlying49 info_str rfl (by omega) (by omega) v xs.length (strVs xs) h hn ⟨b, off, none⟩ ys.length cap hm (strVs ys) (by unfold strVs; simp) hcell (strVs_one ys) hB
  refine ⟨v', w', by rw [hv]; exact hr, by unfold OwnS; rw [strVs_append, List.length_append]; exact ho, ⟨hg.os, hg.tape, hg.output, hg.size, fun i hi => hg.block i (by omega) fun he => ?_⟩⟩
  rcases h.2 with ⟨rfl, _⟩ | ⟨g', _, _, rfl, hb, _⟩
  · simp [Value.ownBlock] at he
  · simp [Value.ownBlock] at he
    omega

/-- What InsWords hands back. -/
def WordsD (w : World) (e : Ending) (w' : World) : Prop := ∃ A cap, e = .returned (.slice A 37 cap) ∧ Own OCod.str 9 w.heap.size w'.heap.size w' (.slice A 37 cap) allWords ∧ Below w.heap.size w w'
theorem allWords_len : allWords.length = 37 := rfl
theorem allWords_size : ∀ x ∈ allWords, x.size ≤ maxLen := by
  have : allWords.all (fun x => decide (x.size ≤ 8)) = true := by decide +kernel
  intro x hx
  have := List.all_eq_true.1 this x hx
  simp only [decide_eq_true_eq] at this
  unfold maxLen
  omega
theorem WordsD.of {w w' : World} {v : Value} (h : OwnS w.heap.size w' v allWords) (hb : Below w.heap.size w w') : WordsD w (.returned v) w' := by
  have ho := OwnS.own h hb.size allWords_size
  obtain ⟨A, cap, rfl, _⟩ := ho.len_
  exact ⟨A, cap, rfl, ho, hb⟩

/-- All words, row by row. -/
def flatW : List WRow → List ByteArray
  | [] => []
  | r :: rs => r.words ++ flatW rs
theorem flat_words : flatW tabRows = allWords := rfl
theorem rows_words : ∀ r ∈ tabRows, 0 < r.words.length ∧ r.words.length ≤ 100 := by
  have : tabRows.all (fun r => decide (0 < r.words.length) && decide (r.words.length ≤ 100)) = true := by decide +kernel
  intro r hr
  have := List.all_eq_true.1 this r hr
  simpa using this

end Go.Proofs.YthkdkefkgmmoiaaDoor
