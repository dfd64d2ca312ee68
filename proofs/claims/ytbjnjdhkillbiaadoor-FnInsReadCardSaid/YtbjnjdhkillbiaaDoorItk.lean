/- Instructions: all words, of the model and of the program; texts held. -/
import Derived.Test.YtbjnjdhkillbiaaDoorItf
import Derived.Test.YtbjnjdhkillbiaaDoorItc
import Derived.Test.YtbjnjdhkillbiaaDoorRow
import Derived.Test.YtbjnjdhkillbiaaDoorOw
import Derived.Test.YtbjnjdhkillbiaaDoorEq
namespace Go.Proofs.YtbjnjdhkillbiaaDoor
open Go.RowKit

/-- The cells of texts. -/
def strVs (xs : List ByteArray) : List Value := xs.map .string
theorem strVs_append (a b : List ByteArray) : strVs (a ++ b) = strVs a ++ strVs b := List.map_append
theorem strVs_one (xs : List ByteArray) : ∀ u ∈ strVs xs, u.oneCell' = true := fun u hu => by
  obtain ⟨x, _, rfl⟩ := List.mem_map.1 hu
  rfl
/-- A row of texts of the call's own. -/
def OwnS (B : Nat) (w : World) (v : Value) (xs : List ByteArray) : Prop := w.ownsRow B 9 1 v xs.length (strVs xs)
theorem OwnS.own {B : Nat} {w : World} {v : Value} {xs : List ByteArray} (h : OwnS B w v xs) (hB : B ≤ w.heap.size) (hs : ∀ x ∈ xs, x.size ≤ maxLen) : Own OCod.str 9 B w.heap.size w v xs := by
  rcases h.2 with ⟨rfl, h0⟩ | ⟨g, cap, cur, rfl, hg, hh, hn, hc, _, ht⟩
  · have : xs = [] := List.eq_nil_of_length_eq_zero h0
    subst this
    exact ⟨none, 0, rfl, Nat.le_refl _, Nat.zero_le _, fun h => absurd h (by simp)⟩
  · have hBl : Blk w g 9 cur := hh
    refine ⟨_, cap, rfl, hn, hc, fun _ => ⟨g, cur, fun _ => B, rfl, hg, hBl.lt, hBl, fun _ _ => ⟨Nat.le_refl _, hB⟩, fun _ _ _ _ => Nat.le_refl _, fun _ _ h => absurd (show B ≤ g ∧ g < B from h) (by omega), fun i x hi => ⟨[.string x], fun j u hu => ?_, ⟨rfl, hs x (List.mem_of_getElem? hi)⟩⟩⟩⟩
    match j, hu with
    | 0, hu =>
      obtain rfl : Value.string x = u := by simpa using hu
      have hx : (strVs xs)[i]? = some (.string x) := by unfold strVs; rw [List.getElem?_map, hi]; rfl
      rw [← ht, List.getElem?_take] at hx
      show cur[i * 1 + 0]? = _
      rw [Nat.mul_one, Nat.add_zero]
      split at hx
      · simpa using hx
      · cases hx
    | j + 1, hu => simp at hu
theorem OwnS.lit (w : World) (B : Nat) (hb : B ≤ w.heap.size) : OwnS B (w.alloc (.cells #[] 9)) (.slice (some ⟨w.heap.size, 0, none⟩) 0 0) [] := World.ownsRow_made w #[] 0 hb (by simp [maxLen]) (by simp)
theorem OwnS.nil_ (w : World) (B : Nat) : OwnS B w (.slice none 0 0) [] := World.ownsRow_nil _ _ _ _

theorem OwnS.below {B : Nat} {w w' : World} {v : Value} {xs : List ByteArray} (h : OwnS B w v xs) (hb : Below w.heap.size w w') : OwnS B w' v xs := by
  refine ⟨h.1, ?_⟩
  rcases h.2 with h0 | ⟨g, cap, cur, rfl, hg, hh, hr⟩
  · exact .inl h0
  · have hB : Blk w g 9 cur := hh
    exact .inr ⟨g, cap, cur, rfl, hg, (hb.block g hB.lt).trans hh, hr⟩
/-- append(v, x), x laid in a block of its own. -/
theorem OwnS.push {B : Nat} {w : World} {v : Value} {xs : List ByteArray} (h : OwnS B w v xs) (hB : B ≤ w.heap.size) (hn : xs.length ≤ 100000) (x : ByteArray) :
    ∃ g cap w', (Builtin.append_ #[41, 41] 41 #[v, .slice (some ⟨w.heap.size, 0, none⟩) 1 1]).run Tryd.prog (w.alloc (.cells #[.string x] 9)) = .ok (.slice (some ⟨g, 0, none⟩) (xs.length + 1) cap) w' ∧ OwnS B w' (.slice (some ⟨g, 0, none⟩) (xs.length + 1) cap) (xs ++ [x]) ∧ Below B w w' ∧
      (∀ b, b < w.heap.size → v.ownBlock ≠ some b → w'.heap[b]? = w.heap[b]?) ∧ (v.ownBlock = some g ∨ w.heap.size < g) := by
  obtain ⟨i, hi0, hz0, hz1, hz2⟩ := info_parts info_str
  have hal : Below w.heap.size w (w.alloc (.cells #[.string x] 9)) := (Below.refl _ _).alloc (Nat.le_refl _) _
  have hbl := Blk.new w 9 #[.string x]
  obtain ⟨v', w', hr, ho, hg, _, hat⟩ := run_append_own_at (P := Tryd.prog) (w.alloc (.cells #[.string x] 9)) B 41 41 9 i _ 1 16 Tryd.underlying41 hi0 hz0 hz1 hz2 rfl (by omega) v xs.length (strVs xs) (World.ownsRow.alloc h _) ⟨w.heap.size, 0, none⟩ 1 1 [.string x] rfl
    (fun j u hu => by rw [plain_add, hbl.cell]; simpa using hu) (fun u hu => by simp at hu; subst hu; rfl) (by unfold maxLen; omega) (by omega) (by simp; omega)
  obtain ⟨g, cap, rfl, hge, _⟩ := ho.form (by omega)
  have hown : ∀ b, v.ownBlock = some b → B ≤ b := fun b hb => by
    rcases h.2 with ⟨rfl, _⟩ | ⟨g', _, _, rfl, hb', _⟩
    · simp [Value.ownBlock] at hb
    · simp [Value.ownBlock] at hb
      omega
  refine ⟨g, cap, w', hr, by unfold OwnS; rw [strVs_append, List.length_append]; exact ho, (hal.mono hB).trans ⟨hg.os, hg.tape, hg.output, hg.size, fun i hi => hg.block i (by simp; omega) fun he => ?_⟩, fun b hb hne => (hg.block b (by simp; omega) fun he => hne he.symm).trans (hal.block b hb), ?_⟩
  · have := hown i he.symm
    omega
  · rcases hat with h | h
    · exact .inl h.symm
    · right
      simp [Value.ownBlock] at h
      omega
/-- append(v, s...), s a row that lies elsewhere. -/
theorem OwnS.row {F : Nat → Prop} {B : Nat} {w : World} {v u : Value} {xs ys : List ByteArray} (h : OwnS B w v xs) (hB : B ≤ w.heap.size) (hn : xs.length ≤ 100000) (hm : ys.length ≤ 100000) (hy : Cod.str.Sl F w u ys) (h0 : 0 < ys.length) :
    ∃ v' w', (Builtin.append_ #[41, 41] 41 #[v, u]).run Tryd.prog w = .ok v' w' ∧ OwnS B w' v' (xs ++ ys) ∧ Below B w w' := by
  obtain ⟨b, off, cap, hv, _, _, _, _⟩ := hy.str_at h0
  have hcell : ∀ j u', (strVs ys)[j]? = some u' → w.cell? ((⟨b, off, none⟩ : Addr).add j) = some u' := fun j u' hj => by
    unfold strVs at hj
    rw [List.getElem?_map] at hj
    cases hy' : ys[j]? with
    | none => rw [hy'] at hj; cases hj
    | some x =>
      rw [hy'] at hj
      obtain rfl : Value.string x = u' := by simpa using hj
      have hl := (List.getElem?_eq_some_iff.1 hy').1
      obtain ⟨b', off', cap', hv', _, _, _, hc, _⟩ := hy.str_at hl
      rw [hv] at hv'
      obtain ⟨⟨rfl, rfl⟩, rfl⟩ : (b = b' ∧ off = off') ∧ cap = cap' := by simpa using hv'
      rw [show (⟨b, off, none⟩ : Addr).add j = ⟨b, off + j, none⟩ by unfold Addr.add; split <;> simp_all, hc]
      rw [List.getElem?_eq_getElem hl] at hy'
      cases hy'
      rfl
  obtain ⟨v', w', hr, ho, hg⟩ := append_row (P := Tryd.prog) (w := w) B 41 41 9 (.string ⟨#[]⟩) 1 16 Tryd.underlying41 info_str rfl (by omega) (by omega) v xs.length (strVs xs) h hn ⟨b, off, none⟩ ys.length cap hm (strVs ys) (by unfold strVs; simp) hcell (strVs_one ys) hB
  refine ⟨v', w', by rw [hv]; exact hr, by unfold OwnS; rw [strVs_append, List.length_append]; exact ho, ⟨hg.os, hg.tape, hg.output, hg.size, fun i hi => hg.block i (by omega) fun he => ?_⟩⟩
  rcases h.2 with ⟨rfl, _⟩ | ⟨g', _, _, rfl, hb, _⟩
  · simp [Value.ownBlock] at he
  · simp [Value.ownBlock] at he
    omega

/-- What InsWords hands back. -/
def WordsD (w : World) (e : Ending) (w' : World) : Prop := ∃ A cap, e = .returned (.slice A 37 cap) ∧ Own OCod.str 9 w.heap.size w'.heap.size w' (.slice A 37 cap) allWords ∧ Below w.heap.size w w'
theorem allWords_len : allWords.length = 37 := rfl
theorem allWords_size : ∀ x ∈ allWords, x.size ≤ maxLen := by
  have : allWords.all (fun x => decide (x.size ≤ 8)) = true := by decide +kernel
  intro x hx
  have := List.all_eq_true.1 this x hx
  simp only [decide_eq_true_eq] at this
  unfold maxLen
  omega
theorem WordsD.of {w w' : World} {v : Value} (h : OwnS w.heap.size w' v allWords) (hb : Below w.heap.size w w') : WordsD w (.returned v) w' := by
  have ho := OwnS.own h hb.size allWords_size
  obtain ⟨A, cap, rfl, _⟩ := ho.len_
  exact ⟨A, cap, rfl, ho, hb⟩

set_option maxRecDepth 100000 in
set_option maxHeartbeats 2000000 in
theorem specInsWords_any (w : World) : Calls Tryd.prog 26 #[] w (WordsD w) := by
  have HO := Lib.hid (OwnS.lit w w.heap.size (Nat.le_refl _))
  have HW0 := Lib.hid ((Below.refl w.heap.size w).alloc (Nat.le_refl _) (.cells #[] 9))
  have hw0 : (w.alloc (.cells #[] 9)).heap.size = w.heap.size + 1 := by simp
  have Hw0 := Lib.hid hw0
  clear hw0
  go_enter Tryd.func26, Tryd.ntmps26
  go_wp2_with fail
  refine (l3Table_any _).mono ?_
  rintro e w1 ⟨tb, tof, rfl, hM⟩
  have HS := Lib.hid hM.1
  have HO1 : Hid (OwnS w.heap.size w1 (.slice (some ⟨w.heap.size, 0, none⟩) 0 0) []) := HO.out.below hM.2
  have HW1 := Lib.hid (HW0.out.trans (hM.2.mono (by rw [Hw0.out]; omega)))
  clear hM
  go_wp2_with fail
  go_loopw [3, 1] (fun i s wr => ∃ (k : Nat) (acc : List ByteArray), k ≤ 37 ∧ i = .int .i64 k ∧ Hid (acc.length = k ∧ acc ++ (tabM.drop k).map (·.1) = allWords) ∧ Hid (OwnS w.heap.size wr s acc ∧ ∀ g, s.ownBlock = some g → g = w.heap.size ∨ w1.heap.size ≤ g) ∧ Hid (Below w.heap.size w wr ∧ w1.heap.size ≤ wr.heap.size ∧ ∀ b, w.heap.size < b → b < w1.heap.size → wr.heap[b]? = w1.heap[b]?)) (fun i _ _ => 37 - (intOf i).toNat)
  case atStart => exact ⟨0, [], by omega, rfl, ⟨rfl, rfl⟩, ⟨HO1.out, fun g hg => .inl (by simp [Value.ownBlock] at hg; exact hg.symm)⟩, ⟨HW1.out, Nat.le_refl _, fun _ _ _ => rfl⟩⟩
  case round =>
    obtain ⟨k, acc, hk, rfl, hacc, HOr, HBe⟩ := hrel
    have hBr : w.heap.size ≤ wr.heap.size := HBe.out.1.size
    by_cases hlt : k < 37
    · obtain ⟨b, off, cap, hv, hFb, _, _, c0, c1, c2⟩ := (HS.out.keep (w' := wr) fun b hb => HBe.out.2.2 b (by have := hb.1; rw [Hw0.out] at this; omega) hb.2).ins_at (k := k) (show k < tabM.length from hlt)
      obtain ⟨⟨rfl, rfl⟩, h37, rfl⟩ : (tb = b ∧ tof = off) ∧ 37 = tabM.length ∧ 37 = cap := by simpa using hv
      clear h37
      have hnx := hacc.out.2
      rw [drop_cons (show k < tabM.length from hlt), List.map_cons] at hnx
      have hal := hacc.out.1
      generalize tabM[k] = x at c0 c1 c2 hnx
      obtain ⟨g, cap, w2, happ, hO2, hb2, hk2, hg2⟩ := HOr.out.1.push hBr (by omega) x.1
      have Hnx := Lib.hid (show (acc ++ [x.1]).length = k + 1 ∧ (acc ++ [x.1]) ++ (tabM.drop (k + 1)).map (·.1) = allWords from ⟨by simp [hal], by rw [List.append_assoc]; exact hnx⟩)
      have HO2 := Lib.hid (show OwnS w.heap.size w2 (.slice (some ⟨g, 0, none⟩) (acc.length + 1) cap) (acc ++ [x.1]) ∧ ∀ g', (Value.slice (some ⟨g, 0, none⟩) (acc.length + 1) cap).ownBlock = some g' → g' = w.heap.size ∨ w1.heap.size ≤ g' from ⟨hO2, fun g' hg' => by
        have e : g = g' := by simpa [Value.ownBlock] using hg'
        rcases hg2 with h | h
        · exact HOr.out.2 g' (by rw [h, e])
        · right; have := HBe.out.2.1; omega⟩)
      have HBe2 := Lib.hid (show Below w.heap.size w w2 ∧ w1.heap.size ≤ w2.heap.size ∧ ∀ b, w.heap.size < b → b < w1.heap.size → w2.heap[b]? = w1.heap[b]? from ⟨HBe.out.1.trans hb2, Nat.le_trans HBe.out.2.1 hb2.size, fun b h1 h2 => (hk2 b (by have := HBe.out.2.1; omega) fun he => by rcases HOr.out.2 b he with h | h <;> omega).trans (HBe.out.2.2 b h1 h2)⟩)
      clear hv hFb hnx hO2 hb2 hal hk2 hg2
      go_wp2_with (at_builtin; refine wpList_append_run rfl _ _ _ rfl rfl rfl happ ?_)
      go_roundw
      case rel => exact ⟨k + 1, acc ++ [x.1], by omega, by go_num, Hnx, HO2, HBe2⟩
      case measure => simp [intOf]; omega
    · have he : acc = allWords := by
        have h2 := hacc.out.2
        rw [show tabM.drop k = [] from List.drop_of_length_le (by show 37 ≤ k; omega)] at h2
        simpa using h2
      have HQ := Lib.hid (show WordsD w (.returned u1) wr from WordsD.of (by rw [← he]; exact HOr.out.1) HBe.out.1)
      clear he
      go_wp2_with fail
      go_ret
      exact HQ.out

/-- All words, row by row. -/
def flatW : List WRow → List ByteArray
  | [] => []
  | r :: rs => r.words ++ flatW rs
theorem flat_words : flatW tabRows = allWords := rfl
theorem rows_words : ∀ r ∈ tabRows, 0 < r.words.length ∧ r.words.length ≤ 100 := by
  have : tabRows.all (fun r => decide (0 < r.words.length) && decide (r.words.length ≤ 100)) = true := by decide +kernel
  intro r hr
  have := List.all_eq_true.1 this r hr
  simpa using this

set_option maxRecDepth 100000 in
set_option maxHeartbeats 2000000 in
theorem implInsWords_any (F : Nat → Prop) (v : Value) (w : World) (h : Tab F w v) (hF : ∀ b, F b → b < w.heap.size) : Calls Tryd.prog 25 #[] w (WordsD w) := by
  have HO := Lib.hid (OwnS.lit w w.heap.size (Nat.le_refl _))
  have HW0 := Lib.hid ((Below.refl w.heap.size w).alloc (Nat.le_refl _) (.cells #[] 9))
  have HT := Lib.hid h
  have HT0 := Lib.hid (h.keep (below_keeps HW0.out hF))
  obtain ⟨gA, gc, hgv, hg1, hg2, _⟩ := h.rows
  subst hgv
  unfold maxLen at hg2
  have hg := HT0.out.cell
  clear h
  go_enter Tryd.func25, Tryd.ntmps25
  go_wp2_with fail
  go_loopw [7, 1] (fun i s wr => ∃ (k : Nat) (acc : List ByteArray), k ≤ 12 ∧ i = .int .i64 k ∧ Hid (acc.length ≤ k * 100 ∧ acc ++ flatW (tabRows.drop k) = allWords) ∧ Hid (OwnS w.heap.size wr s acc) ∧ Hid (Below w.heap.size w wr)) (fun i _ _ => 12 - (intOf i).toNat)
  case atStart => exact ⟨0, [], by omega, rfl, ⟨by simp, rfl⟩, HO, HW0⟩
  case round =>
    obtain ⟨k, acc, hk, rfl, hacc, HOr, HBe⟩ := hrel
    have HTr := Lib.hid (HT.out.keep (below_keeps HBe.out hF))
    by_cases hlt : k < 12
    · obtain ⟨b, off, cap, u, hv, hFb, _, _, c0, c1, c2, ha, hb, hu⟩ := HTr.out.rows.wrow_at (k := k) (show k < tabRows.length from hlt)
      obtain ⟨rfl, _, rfl⟩ : gA = some ⟨b, off, none⟩ ∧ tabRows.length = tabRows.length ∧ gc = cap := by simpa using hv
      have hFb' : b < wr.heap.size := Nat.lt_of_lt_of_le (hF b hFb) HBe.out.size
      have hnx := hacc.out.2
      have hal := hacc.out.1
      have hrw := rows_words tabRows[k] (List.getElem_mem _)
      rw [drop_cons (show k < tabRows.length from hlt), flatW] at hnx
      generalize tabRows[k] = row at c0 c1 c2 ha hb hu hnx hrw
      obtain ⟨ws, ra, rb⟩ := row
      have hHr := Below.alloc (Below.refl w.heap.size wr) HBe.out.size (.cells #[u, .int .i64 ra, .int .i64 rb] 84)
      have hu1 := hu.keep (w' := wr.alloc (.cells #[u, .int .i64 ra, .int .i64 rb] 84)) (below_keeps hHr hF)
      obtain ⟨v', w', happ, hO2, hb2⟩ := OwnS.row (World.ownsRow.alloc HOr.out _ : OwnS w.heap.size (wr.alloc (.cells #[u, .int .i64 ra, .int .i64 rb] 84)) _ _) (Nat.le_trans HBe.out.size hHr.size) (by omega) (by omega) hu1 hrw.1
      have Hnx := Lib.hid (show (acc ++ ws).length ≤ (k + 1) * 100 ∧ (acc ++ ws) ++ flatW (tabRows.drop (k + 1)) = allWords from ⟨by have := hrw.2; rw [List.length_append]; simp only at this; omega, by rw [List.append_assoc]; exact hnx⟩)
      have HO2 := Lib.hid hO2
      have HBe2 := Lib.hid (HBe.out.trans (hHr.trans hb2))
      obtain ⟨A, cA, rfl, hA1, hA2, _⟩ := hu
      unfold maxLen at hA2
      have Ha := Lib.hid ha
      have Hb := Lib.hid hb
      clear hv hFb ha hb hnx hal hrw hHr hu1 hO2 hb2
      go_wp2_with (at_builtin; refine wpList_append_run rfl _ _ _ rfl rfl rfl happ ?_)
      go_roundw
      case rel => exact ⟨k + 1, acc ++ ws, by omega, by go_num, Hnx, HO2, HBe2⟩
      case measure => simp [intOf]; omega
    · have he : acc = allWords := by
        have h2 := hacc.out.2
        rw [show tabRows.drop k = [] from List.drop_of_length_le (by show 12 ≤ k; omega), flatW, List.append_nil] at h2
        exact h2
      have HQ := Lib.hid (show WordsD w (.returned u1) wr from WordsD.of (by rw [← he]; exact HOr.out) HBe.out)
      clear he
      go_wp2_with fail
      go_ret
      exact HQ.out
end Go.Proofs.YtbjnjdhkillbiaaDoor
