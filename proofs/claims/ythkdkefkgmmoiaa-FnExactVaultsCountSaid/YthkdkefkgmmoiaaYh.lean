/- Rows of a call's own that grow by append, their elements holding memory apart from what else the call keeps. -/
import Derived.Test.YthkdkefkgmmoiaaMk
import Derived.Test.YthkdkefkgmmoiaaApp
import Derived.Maps.AppendAt
import Derived.RangeFuncOwn
namespace Go.Proofs.Ythkdkefkgmmoiaa
open Go.RowKit

/-- A row that grows: its own block lies from lo on, its elements in blocks that are apart from each other and from the row's own block, all from X on and before m. -/
def RGrow {α : Type} (c : OCod α) (t : TypeId) (lo X m : Nat) (w : World) (v : Value) (xs : List α) : Prop :=
  ∃ us : List Value, w.ownsRow lo t c.cod.size v xs.length us ∧ (∀ u ∈ us, u.oneCell' = true) ∧ lo ≤ w.heap.size ∧ X ≤ m ∧ m ≤ w.heap.size ∧ (∀ g, v.ownBlock = some g → g < m) ∧ ∃ s e : Nat → Nat,
    (∀ i, i < xs.length → X ≤ s i ∧ s i ≤ e i ∧ e i ≤ m) ∧ (∀ i, i < xs.length → ∀ b o, s i ≤ b → b < e i → w.heap[b]? = some o → o.isCells = true) ∧ (∀ i j, i < j → j < xs.length → e i ≤ s j) ∧ (∀ i, i < xs.length → ∀ g, v.ownBlock = some g → ¬ (s i ≤ g ∧ g < e i)) ∧
    ∀ i x, xs[i]? = some x → ∃ ds, (∀ j u, ds[j]? = some u → us[i * c.cod.size + j]? = some u) ∧ c.rd (s i) (e i) w ds x
section
variable {α : Type} {c : OCod α} {t : TypeId} {lo X m : Nat} {w w' : World} {v : Value} {xs : List α}

theorem RGrow.lit {g : Nat} (hB : Blk w g t #[]) (h1 : lo ≤ g) (h2 : g < X) (h3 : X ≤ w.heap.size) : RGrow c t lo X X w (.slice (some ⟨g, 0, none⟩) 0 0) ([] : List α) :=
  ⟨[], ⟨by simp, .inr ⟨g, 0, #[], rfl, h1, hB, Nat.le_refl _, by simp [maxLen], by simp, by simp⟩⟩, fun _ h => by simp at h, by omega, Nat.le_refl _, h3, fun g' h => by simp [Value.ownBlock] at h; omega, fun _ => X, fun _ => X, fun _ h => by simp at h, fun _ h => by simp at h, fun _ _ _ h => by simp at h, fun _ h => by simp at h, fun _ _ h => by simp at h⟩
theorem RGrow.keep (hs : w.heap.size ≤ w'.heap.size) (hk : ∀ b, X ≤ b → b < m → w'.heap[b]? = w.heap[b]?) (hr : ∀ b, v.ownBlock = some b → w'.heap[b]? = w.heap[b]?) (h : RGrow c t lo X m w v xs) : RGrow c t lo X m w' v xs := by
  obtain ⟨us, ho, h1, hl, hX, hm, hg0, s, e, h2, h2c, h3, h4, h5⟩ := h
  refine ⟨us, ⟨ho.1, ?_⟩, h1, by omega, hX, by omega, hg0, s, e, h2, fun i hi b o g1 g2 ho' => h2c i hi b o g1 g2 (by have := h2 i hi; rw [← hk b (by omega) (by omega)]; exact ho'), h3, h4, fun i x hi => ?_⟩
  · rcases ho.2 with h0 | ⟨g, cap, cur, rfl, hg, hh, hr'⟩
    · exact .inl h0
    · exact .inr ⟨g, cap, cur, rfl, hg, (hr g rfl).trans hh, hr'⟩
  · obtain ⟨ds, hd1, hd2⟩ := h5 i x hi
    have hil : i < xs.length := (List.getElem?_eq_some_iff.1 hi).1
    have := h2 i hil
    exact ⟨ds, hd1, c.keep (fun b g1 g2 => hk b (by omega) (by omega)) hd2⟩
/-- The turn of a block that is no cells leaves it. -/
theorem RGrow.turn {row : Option Nat} (h : RGrow c t lo X m w v xs) (hg : w.grownBy w' row) (hr : ∀ r, row = some r → ∃ o : Obj, w.heap[r]? = some o ∧ o.isCells = false) : RGrow c t lo X m w' v xs := by
  obtain ⟨us, ho, h1, hl, hX, hm, hg0, s, e, h2, h2c, h3, h4, h5⟩ := h
  have hsz := hg.size
  have hseg : ∀ i, i < xs.length → ∀ b, s i ≤ b → b < e i → w'.heap[b]? = w.heap[b]? := fun i hi b g1 g2 => by
    have := h2 i hi
    refine hg.block b (by omega) fun he => ?_
    obtain ⟨o, ho1, ho2⟩ := hr b he.symm
    rw [h2c i hi b o g1 g2 ho1] at ho2
    cases ho2
  refine ⟨us, ⟨ho.1, ?_⟩, h1, by omega, hX, by omega, hg0, s, e, h2, fun i hi b o g1 g2 ho' => h2c i hi b o g1 g2 (by rw [← hseg i hi b g1 g2]; exact ho'), h3, h4, fun i x hi => ?_⟩
  · rcases ho.2 with h0 | ⟨g, cap, cur, rfl, hg', hh, hr'⟩
    · exact .inl h0
    · have hB : Blk w g t cur := hh
      refine .inr ⟨g, cap, cur, rfl, hg', (hg.block g hB.lt fun he => ?_).trans hh, hr'⟩
      obtain ⟨o, ho1, ho2⟩ := hr g he.symm
      rw [show w.heap[g]? = _ from hB] at ho1
      cases ho1
      cases ho2
  · obtain ⟨ds, hd1, hd2⟩ := h5 i x hi
    have hil : i < xs.length := (List.getElem?_eq_some_iff.1 hi).1
    exact ⟨ds, hd1, c.keep (hseg i hil) hd2⟩
theorem RGrow.row_ne {b : Nat} {t' : TypeId} {cs : Array Value} (h : RGrow c t lo X m w v xs) (hB : Blk w b t' cs) (ht : t' ≠ t) : v.ownBlock ≠ some b := by
  obtain ⟨us, ho, -⟩ := h
  rcases ho.2 with ⟨rfl, _⟩ | ⟨g, cap, cur, rfl, _, hh, _⟩
  · simp [Value.ownBlock]
  · intro he
    obtain rfl : g = b := by simpa [Value.ownBlock] using he
    have h2 : Blk w g t cur := hh
    unfold Blk at hB h2
    rw [hB] at h2
    simp at h2
    exact ht h2.2
theorem RGrow.own (h : RGrow c t lo X m w v xs) (hlX : lo ≤ X) : Own c t lo m w v xs := by
  obtain ⟨us, ho, h1, hl, hX, hm, hg0, s, e, h2, h2c, h3, h4, h5⟩ := h
  rcases ho.2 with ⟨rfl, h0⟩ | ⟨g, cap, cur, rfl, hg, hh, hn, hc, hcs, ht⟩
  · obtain rfl : xs = [] := List.eq_nil_of_length_eq_zero h0
    exact ⟨none, 0, rfl, Nat.le_refl _, Nat.zero_le _, fun h => absurd h (by simp)⟩
  · have hB : Blk w g t cur := hh
    refine ⟨_, cap, rfl, hn, hc, fun _ => ⟨g, cur, s, e, rfl, hg, hg0 g rfl, hB, fun i hi => by have := h2 i hi; omega, h3, fun i hi => h4 i hi g rfl, fun i x hi => ?_⟩⟩
    obtain ⟨ds, hd1, hd2⟩ := h5 i x hi
    refine ⟨ds, fun j u hu => ?_, hd2⟩
    have h6 := hd1 j u hu
    rw [← ht, List.getElem?_take] at h6
    split at h6
    · simpa using h6
    · cases h6

/-- append(v, x), x laid in a block of its own. -/
theorem RGrow.push {P : Program} (sl ty : TypeId) (z : Value) (size bytes : Nat) (ht : P.underlying sl = some (.slice t)) (hi : (P.info? t).map (fun i => (i.zero, i.size, i.bytes)) = some (some z, size, bytes)) (hcs : c.cod.size = size) (hzs : z.cells.size = size) (hsz : 0 < size) (hby : bytes ≤ 1000)
    (h : RGrow c t lo X m w v xs) (hn : xs.length ≤ 2000000) (p q bl cp : Nat) (news : List Value) (x : α) (hB : Blk w bl t news.toArray) (h1 : ∀ u ∈ news, u.oneCell' = true) (hp : m ≤ p) (hpq : p ≤ q) (hq : q ≤ w.heap.size) (hrd : c.rd p q w news x) (hcl : ∀ b o, p ≤ b → b < q → w.heap[b]? = some o → o.isCells = true) :
    ∃ g cap w', (Builtin.append_ #[sl, sl] ty #[v, .slice (some ⟨bl, 0, none⟩) 1 cp]).run P w = .ok (.slice (some ⟨g, 0, none⟩) (xs.length + 1) cap) w' ∧
      RGrow c t lo X w'.heap.size w' (.slice (some ⟨g, 0, none⟩) (xs.length + 1) cap) (xs ++ [x]) ∧ w.grownBy w' v.ownBlock := by
  subst hcs
  obtain ⟨i, hi0, hz0, hz1, hz2⟩ := info_parts hi
  obtain ⟨us, ho, hu1, hlw, hl, hm, hg0, s, e, h2, h2c, h3, h4, h5⟩ := h
  have hlen := c.cod.len (c.get hrd)
  have hul : us.length = xs.length * c.cod.size := ho.1
  obtain ⟨v', w', hr, ho', hg, _, hat⟩ := run_append_own_at (P := P) w lo sl ty t i z c.cod.size bytes ht hi0 hz0 hz1 hz2 hzs hsz v xs.length us ho ⟨bl, 0, none⟩ 1 cp news (by rw [hlen, Nat.one_mul])
    (fun j u hu => by rw [plain_add, hB.cell]; simpa using hu) h1 (by unfold maxLen; omega) (by
      have : (xs.length + 1) * bytes ≤ 2000001 * 1000 := Nat.mul_le_mul (by omega) hby
      omega) (by omega)
  obtain ⟨g, cap, rfl, hge, _⟩ := ho'.form (by omega)
  have hat' : v.ownBlock = some g ∨ g = w.heap.size := by
    rcases hat with h | h
    · exact .inl h.symm
    · right
      simpa [Value.ownBlock] using h
  have hgs : g < w'.heap.size := (ho'.lt g rfl).2
  have hgs2 : ∀ b, b < w.heap.size → (∀ g', v.ownBlock = some g' → g' ≠ b) → w'.heap[b]? = w.heap[b]? := fun b hb hne => hg.block b hb fun he => hne b he.symm rfl
  have hws := hg.size
  refine ⟨g, cap, w', hr, ⟨us ++ news, by simpa using ho', ?_, by omega, by omega, Nat.le_refl _, fun g' hg' => ?_, fun j => if j < xs.length then s j else p, fun j => if j < xs.length then e j else q, fun j hj => ?_, fun j hj b o g1 g2 ho' => ?_, fun j k hjk hk => ?_, fun j hj g' hg' => ?_, fun j y hy => ?_⟩, hg⟩
  · intro u hu
    rcases List.mem_append.1 hu with hu | hu
    · exact hu1 u hu
    · exact h1 u hu
  · simp only [Value.ownBlock, Option.some.injEq] at hg'
    omega
  · simp only
    split
    · have := h2 j (by assumption); omega
    · omega
  · by_cases hj' : j < xs.length
    · simp only [if_pos hj'] at g1 g2
      have hb := h2 j hj'
      rw [hgs2 b (by omega) fun g' hg' => by have := h4 j hj' g' hg'; omega] at ho'
      exact h2c j hj' b o g1 g2 ho'
    · simp only [if_neg hj'] at g1 g2
      rw [hgs2 b (by omega) fun g' hg' => by have := hg0 g' hg'; omega] at ho'
      exact hcl b o g1 g2 ho'
  · rw [List.length_append, List.length_singleton] at hk
    have hj : j < xs.length := by omega
    simp only [if_pos hj]
    split
    · exact h3 j k hjk (by assumption)
    · have := h2 j hj; omega
  · simp only [Value.ownBlock, Option.some.injEq] at hg'
    subst hg'
    simp only
    split
    · rename_i hj'
      rcases hat' with h | h
      · exact h4 j hj' g h
      · have := h2 j hj'; omega
    · rcases hat' with h | h
      · have := hg0 g h; omega
      · omega
  · by_cases hj : j < xs.length
    · rw [List.getElem?_append_left hj] at hy
      obtain ⟨ds, hd1, hd2⟩ := h5 j y hy
      have hb := h2 j hj
      refine ⟨ds, fun k u hu => ?_, ?_⟩
      · have h6 := hd1 k u hu
        rw [List.getElem?_append_left (List.getElem?_eq_some_iff.1 h6).1]
        exact h6
      · simp only [if_pos hj]
        exact c.keep (fun b g1 g2 => hgs2 b (by omega) fun g' hg' => by have := h4 j hj g' hg'; omega) hd2
    · rw [List.getElem?_append_right (by omega)] at hy
      have hj0 : j = xs.length := by
        have := (List.getElem?_eq_some_iff.1 hy).1
        simp at this
        omega
      subst hj0
      simp at hy
      subst hy
      refine ⟨news, fun k u hu => ?_, ?_⟩
      · rw [List.getElem?_append_right (by omega), hul, Nat.add_sub_cancel_left]
        exact hu
      · simp only [Nat.lt_irrefl, if_false]
        exact c.keep (fun b g1 g2 => hgs2 b (by omega) fun g' hg' => by have := hg0 g' hg'; omega) hrd
end
end Go.Proofs.Ythkdkefkgmmoiaa
