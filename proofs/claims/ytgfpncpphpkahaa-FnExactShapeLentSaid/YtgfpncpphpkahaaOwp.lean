/- Rows of a call's own that are being filled; copies of kinds that are the call's own. -/
import Derived.Test.YtgfpncpphpkahaaOw
import Derived.Test.YtgfpncpphpkahaaTo
namespace Go.Proofs.Ytgfpncpphpkahaa
open Go.RowKit

/-- The first k elements of a row that is being filled, each in blocks that have come since the one before. -/
def OPart {α : Type} (c : OCod α) (b : Nat) (w : World) (cs : Array Value) (k : Nat) (xs : List α) : Prop :=
  ∃ s : Nat → Nat, (∀ i j, i ≤ j → j ≤ k → s i ≤ s j) ∧ b < s 0 ∧ s k ≤ w.heap.size ∧
    ∀ i x, i < k → xs[i]? = some x → ∃ ds, (∀ j u, ds[j]? = some u → cs[i * c.cod.size + j]? = some u) ∧ c.rd (s i) (s (i + 1)) w ds x
section
variable {α : Type} {c : OCod α} {t : TypeId} {b k : Nat} {w w' : World} {cs cs' : Array Value} {xs : List α}
theorem OPart.zero (h : b < w.heap.size) : OPart c b w cs 0 xs := ⟨fun _ => b + 1, fun _ _ _ _ => Nat.le_refl _, Nat.lt_succ_self b, h, fun _ _ h => absurd h (by omega)⟩
theorem OPart.next (h : OPart c b w cs k xs) (hk : k < xs.length) (hw : ∀ i, b < i → i < w.heap.size → w'.heap[i]? = w.heap[i]?) (hs : w.heap.size ≤ w'.heap.size) {news : List Value}
    (hold : ∀ i, i < k * c.cod.size → cs'[i]? = cs[i]?) (hnew : ∀ (j : Nat) (u : Value), news[j]? = some u → cs'[k * c.cod.size + j]? = some u) (hrd : c.rd w.heap.size w'.heap.size w' news xs[k]) : OPart c b w' cs' (k + 1) xs := by
  obtain ⟨s, hm, h0, hk', hx⟩ := h
  have hsk : ∀ i, i ≤ k → s i ≤ w.heap.size := fun i hi => Nat.le_trans (hm i k hi (Nat.le_refl _)) hk'
  refine ⟨fun i => if i ≤ k then s i else w'.heap.size, fun i j hij hj => ?_, by simpa using h0, by show (if k + 1 ≤ k then s (k + 1) else w'.heap.size) ≤ _; rw [if_neg (show ¬ k + 1 ≤ k by omega)]; exact Nat.le_refl _, fun i x hi hxi => ?_⟩
  · by_cases hik : i ≤ k
    · by_cases hjk : j ≤ k
      · simp only [if_pos hik, if_pos hjk]; exact hm i j hij hjk
      · simp only [if_pos hik, if_neg hjk]; have := hsk i hik; omega
    · simp only [if_neg hik, if_neg (show ¬ j ≤ k by omega)]; exact Nat.le_refl _
  · by_cases he : i = k
    · subst he
      rw [List.getElem?_eq_getElem hk] at hxi
      cases hxi
      simp only [if_pos (Nat.le_refl i), if_neg (show ¬ i + 1 ≤ i by omega)]
      exact ⟨news, hnew, c.mono (hsk i (Nat.le_refl _)) (Nat.le_refl _) hrd⟩
    · obtain ⟨ds, h1, h2⟩ := hx i x (by omega) hxi
      simp only [if_pos (show i ≤ k by omega), if_pos (show i + 1 ≤ k by omega)]
      have hl := c.cod.len (c.get h2)
      refine ⟨ds, fun j u hu => ?_, c.keep (fun b' g1 g2 => hw b' (by have := hm 0 i (by omega) (by omega); omega) (by have := hsk (i + 1) (by omega); omega)) h2⟩
      have hj : j < ds.length := (List.getElem?_eq_some_iff.1 hu).1
      have := Nat.mul_le_mul_right c.cod.size (show i + 1 ≤ k by omega)
      rw [Nat.add_mul, Nat.one_mul] at this
      rw [hold _ (by omega)]
      exact h1 j u hu
theorem OPart.own {lo cap : Nat} (h : OPart c b w cs xs.length xs) (hB : Blk w b t cs) (hlo : lo ≤ b) (hl : xs.length ≤ cap) (hm : cap ≤ maxLen) : Own c t lo w.heap.size w (.slice (some ⟨b, 0, none⟩) xs.length cap) xs := by
  refine ⟨_, cap, rfl, hl, hm, fun _ => ?_⟩
  obtain ⟨s, hmo, h0, hk', hx⟩ := h
  refine ⟨b, cs, s, fun i => s (i + 1), rfl, hlo, hB.lt, hB, fun i hi => ⟨?_, hmo i (i + 1) (by omega) (by omega), Nat.le_trans (hmo (i + 1) _ hi (Nat.le_refl _)) hk'⟩, fun i j hij hj => hmo (i + 1) j hij (by omega), fun i hi hh => ?_, fun i x hxi => hx i x (List.getElem?_eq_some_iff.1 hxi).1 hxi⟩
  · have := hmo 0 i (Nat.zero_le _) (by omega); omega
  · have := hmo 0 i (Nat.zero_le _) (by omega); omega
end

/-- Made by the call, its blocks apart. -/
def MadeO {α : Type} (c : OCod α) (t : TypeId) (W w : World) (v : Value) (xs : List α) : Prop := Own c t W.heap.size w.heap.size w v xs ∧ Below W.heap.size W w

end Go.Proofs.Ytgfpncpphpkahaa
