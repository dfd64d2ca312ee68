/- Rows of a call's own that grow by append, their elements holding memory. -/
import Derived.Test.YthkdkefkgmmoiaaDoorMk
import Derived.Test.YthkdkefkgmmoiaaDoorApp
import Derived.Maps.AppendAt
namespace Go.Proofs.YthkdkefkgmmoiaaDoor
open Go.RowKit

/-- A row that grows: its elements lie in blocks that are apart from each other and from the row's own block, all from lo on and before m. -/
def OGrow {α : Type} (c : OCod α) (t : TypeId) (lo m : Nat) (w : World) (v : Value) (xs : List α) : Prop :=
  ∃ us : List Value, w.ownsRow lo t c.cod.size v xs.length us ∧ (∀ u ∈ us, u.oneCell' = true) ∧ lo ≤ m ∧ m ≤ w.heap.size ∧ (∀ g, v.ownBlock = some g → g < m) ∧ ∃ s e : Nat → Nat,
    (∀ i, i < xs.length → lo ≤ s i ∧ s i ≤ e i ∧ e i ≤ m) ∧ (∀ i j, i < j → j < xs.length → e i ≤ s j) ∧ (∀ i, i < xs.length → ∀ g, v.ownBlock = some g → ¬ (s i ≤ g ∧ g < e i)) ∧
    ∀ i x, xs[i]? = some x → ∃ ds, (∀ j u, ds[j]? = some u → us[i * c.cod.size + j]? = some u) ∧ c.rd (s i) (e i) w ds x
section
variable {α : Type} {c : OCod α} {t : TypeId} {lo m : Nat} {w w' : World} {v : Value} {xs : List α}

theorem OGrow.nil (h : lo ≤ w.heap.size) : OGrow c t lo lo w (.slice none 0 0) ([] : List α) :=
  ⟨[], World.ownsRow_nil w lo t _, fun _ h => by simp at h, Nat.le_refl _, h, fun g h => by simp [Value.ownBlock] at h, fun _ => lo, fun _ => lo, fun _ h => by simp at h, fun _ _ _ h => by simp at h, fun _ h => by simp at h, fun _ _ h => by simp at h⟩
theorem OGrow.keep (hs : w.heap.size ≤ w'.heap.size) (hk : ∀ b, lo ≤ b → b < m → w'.heap[b]? = w.heap[b]?) (h : OGrow c t lo m w v xs) : OGrow c t lo m w' v xs := by
  obtain ⟨us, ho, h1, hl, hm, hg0, s, e, h2, h3, h4, h5⟩ := h
  refine ⟨us, ⟨ho.1, ?_⟩, h1, hl, by omega, hg0, s, e, h2, h3, h4, fun i x hi => ?_⟩
  · rcases ho.2 with h0 | ⟨g, cap, cur, rfl, hg, hh, hr⟩
    · exact .inl h0
    · exact .inr ⟨g, cap, cur, rfl, hg, (hk g (by omega) (hg0 g rfl)).trans hh, hr⟩
  · obtain ⟨ds, hd1, hd2⟩ := h5 i x hi
    have hil : i < xs.length := (List.getElem?_eq_some_iff.1 hi).1
    have := h2 i hil
    exact ⟨ds, hd1, c.keep (fun b g1 g2 => hk b (by omega) (by omega)) hd2⟩
theorem OGrow.own (h : OGrow c t lo m w v xs) : Own c t lo m w v xs := by
  obtain ⟨us, ho, h1, hl, hm, hg0, s, e, h2, h3, h4, h5⟩ := h
  rcases ho.2 with ⟨rfl, h0⟩ | ⟨g, cap, cur, rfl, hg, hh, hn, hc, hcs, ht⟩
  · obtain rfl : xs = [] := List.eq_nil_of_length_eq_zero h0
    exact ⟨none, 0, rfl, Nat.le_refl _, Nat.zero_le _, fun h => absurd h (by simp)⟩
  · have hB : Blk w g t cur := hh
    refine ⟨_, cap, rfl, hn, hc, fun _ => ⟨g, cur, s, e, rfl, hg, hg0 g rfl, hB, h2, h3, fun i hi => h4 i hi g rfl, fun i x hi => ?_⟩⟩
    obtain ⟨ds, hd1, hd2⟩ := h5 i x hi
    refine ⟨ds, fun j u hu => ?_, hd2⟩
    have h6 := hd1 j u hu
    rw [← ht, List.getElem?_take] at h6
    split at h6
    · simpa using h6
    · cases h6

/-- append(v, x), x laid in a block of its own, what it holds lying in blocks from p to q. -/
theorem OGrow.push {P : Program} (sl ty : TypeId) (z : Value) (size bytes : Nat) (ht : P.underlying sl = some (.slice t)) (hi : (P.info? t).map (fun i => (i.zero, i.size, i.bytes)) = some (some z, size, bytes)) (hcs : c.cod.size = size) (hzs : z.cells.size = size) (hsz : 0 < size) (hby : bytes ≤ 1000)
    (h : OGrow c t lo m w v xs) (hn : xs.length ≤ 2000000) (p q bl cp : Nat) (news : List Value) (x : α) (hB : Blk w bl t news.toArray) (h1 : ∀ u ∈ news, u.oneCell' = true) (hp : m ≤ p) (hpq : p ≤ q) (hq : q ≤ w.heap.size) (hrd : c.rd p q w news x) :
    ∃ g cap w', (Builtin.append_ #[sl, sl] ty #[v, .slice (some ⟨bl, 0, none⟩) 1 cp]).run P w = .ok (.slice (some ⟨g, 0, none⟩) (xs.length + 1) cap) w' ∧
      OGrow c t lo w'.heap.size w' (.slice (some ⟨g, 0, none⟩) (xs.length + 1) cap) (xs ++ [x]) ∧ w.grownBy w' v.ownBlock := by
  subst hcs
  obtain ⟨i, hi0, hz0, hz1, hz2⟩ := info_parts hi
  obtain ⟨us, ho, hu1, hl, hm, hg0, s, e, h2, h3, h4, h5⟩ := h
  have hlen := c.cod.len (c.get hrd)
  have hul : us.length = xs.length * c.cod.size := ho.1
  obtain ⟨v', w', hr, ho', hg, _, hat⟩ := run_append_own_at (P := P) w lo sl ty t i z c.cod.size bytes ht hi0 hz0 hz1 hz2 hzs hsz v xs.length us ho ⟨bl, 0, none⟩ 1 cp news (by rw [hlen, Nat.one_mul])
    (fun j u hu => by rw [plain_add, hB.cell]; simpa using hu) h1 (by unfold maxLen; omega) (by
      have : (xs.length + 1) * bytes ≤ 2000001 * 1000 := Nat.mul_le_mul (by omega) hby
      omega) (by omega)
  obtain ⟨g, cap, rfl, hge, _⟩ := ho'.form (by omega)
  have hat' : v.ownBlock = some g ∨ g = w.heap.size := by
    rcases hat with h | h
    · exact .inl h.symm
    · right
      simpa [Value.ownBlock] using h
  have hgs : g < w'.heap.size := (ho'.lt g rfl).2
  have hgs2 : ∀ b, b < w.heap.size → (∀ g', v.ownBlock = some g' → g' ≠ b) → w'.heap[b]? = w.heap[b]? := fun b hb hne => hg.block b hb fun he => hne b he.symm rfl
  have hws := hg.size
  refine ⟨g, cap, w', hr, ⟨us ++ news, by simpa using ho', ?_, by omega, Nat.le_refl _, fun g' hg' => ?_, fun j => if j < xs.length then s j else p, fun j => if j < xs.length then e j else q, fun j hj => ?_, fun j k hjk hk => ?_, fun j hj g' hg' => ?_, fun j y hy => ?_⟩, hg⟩
  · intro u hu
    rcases List.mem_append.1 hu with hu | hu
    · exact hu1 u hu
    · exact h1 u hu
  · simp only [Value.ownBlock, Option.some.injEq] at hg'
    omega
  · simp only
    split
    · have := h2 j (by assumption); omega
    · omega
  · rw [List.length_append, List.length_singleton] at hk
    have hj : j < xs.length := by omega
    simp only [if_pos hj]
    split
    · exact h3 j k hjk (by assumption)
    · have := h2 j hj; omega
  · simp only [Value.ownBlock, Option.some.injEq] at hg'
    subst hg'
    simp only
    split
    · rename_i hj'
      rcases hat' with h | h
      · exact h4 j hj' g h
      · have := h2 j hj'; omega
    · rcases hat' with h | h
      · have := hg0 g h; omega
      · omega
  · by_cases hj : j < xs.length
    · rw [List.getElem?_append_left hj] at hy
      obtain ⟨ds, hd1, hd2⟩ := h5 j y hy
      have hb := h2 j hj
      refine ⟨ds, fun k u hu => ?_, ?_⟩
      · have h6 := hd1 k u hu
        rw [List.getElem?_append_left (List.getElem?_eq_some_iff.1 h6).1]
        exact h6
      · simp only [if_pos hj]
        exact c.keep (fun b g1 g2 => hgs2 b (by omega) fun g' hg' => by have := h4 j hj g' hg'; omega) hd2
    · rw [List.getElem?_append_right (by omega)] at hy
      have hj0 : j = xs.length := by
        have := (List.getElem?_eq_some_iff.1 hy).1
        simp at this
        omega
      subst hj0
      simp at hy
      subst hy
      refine ⟨news, fun k u hu => ?_, ?_⟩
      · rw [List.getElem?_append_right (by omega), hul, Nat.add_sub_cancel_left]
        exact hu
      · simp only [Nat.lt_irrefl, if_false]
        exact c.keep (fun b g1 g2 => hgs2 b (by omega) fun g' hg' => by have := hg0 g' hg'; omega) hrd
end
end Go.Proofs.YthkdkefkgmmoiaaDoor
