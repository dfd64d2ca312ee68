/- What the size of kinds bounds. -/
import Derived.Test.YtgfpncpphpkahaaDoorSz
import Derived.Test.YtgfpncpphpkahaaDoorSp
namespace Go.Proofs.YtgfpncpphpkahaaDoor
open Go.RowKit

/-- What the sizes bound. -/
theorem szList_len {α : Type} {f : α → Int → Int} (hf : ∀ x l, 0 ≤ l → f x l ≤ l) : ∀ (xs : List α) (l : Int), 0 ≤ l → 0 ≤ szList f xs l → ∀ x ∈ xs, ∃ l', 0 ≤ l' ∧ l' ≤ l ∧ 0 ≤ f x l'
  | y :: r, l, h0, h, x, hx => by
    unfold szList at h
    split at h
    · omega
    · rename_i hn
      rcases List.mem_cons.1 hx with rfl | hx
      · exact ⟨l, h0, Int.le_refl _, by omega⟩
      · obtain ⟨l', h1, h2, h3⟩ := szList_len hf r (f y l) (by omega) h x hx
        exact ⟨l', h1, Int.le_trans h2 (hf y l h0), h3⟩
theorem szS_len {α : Type} {f : α → Int → Int} (hf : ∀ x l, 0 ≤ l → f x l ≤ l) {xs : List α} {l : Int} (h : 0 ≤ szS f xs l) : (xs.length : Int) ≤ l ∧ ∀ x ∈ xs, ∃ l', 0 ≤ l' ∧ l' ≤ l ∧ 0 ≤ f x l' := by
  unfold szS at h
  split at h
  · omega
  · rename_i hn
    refine ⟨by omega, fun x hx => ?_⟩
    obtain ⟨l', h1, h2, h3⟩ := szList_len hf xs _ (by omega) h x hx
    exact ⟨l', h1, by omega, h3⟩
theorem sz_kinds {ks : Ks} (h : 0 ≤ szS (szS szRec) ks 1048576) : ks.length ≤ 2000000 ∧ ∀ rs ∈ ks, rs.length ≤ 2000000 ∧ ∀ r ∈ rs, r.fields.length ≤ 2000000 := by
  obtain ⟨h1, h2⟩ := szS_len (szS_le szRec_le) h
  refine ⟨by omega, fun rs hrs => ?_⟩
  obtain ⟨l, l0, l1, hl⟩ := h2 rs hrs
  obtain ⟨h3, h4⟩ := szS_len szRec_le hl
  refine ⟨by omega, fun r hr => ?_⟩
  obtain ⟨m, m0, m1, hm⟩ := h4 r hr
  have hr : 0 ≤ szS szB r.fields m := by unfold szRec at hm; split at hm <;> omega
  obtain ⟨h5, _⟩ := szS_len szB_le hr
  omega

end Go.Proofs.YtgfpncpphpkahaaDoor
