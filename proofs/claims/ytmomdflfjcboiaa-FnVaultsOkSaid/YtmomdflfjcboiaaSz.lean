/- The functions that reckon sizes, at strings and records. What the size of kinds bounds. -/
import Derived.Test.YtmomdflfjcboiaaRows
import Derived.Test.YtmomdflfjcboiaaKit
import Derived.Test.YtmomdflfjcboiaaSp
namespace Go.Proofs.Ytmomdflfjcboiaa
open Go.RowKit

def szList {α : Type} (f : α → Int → Int) : List α → Int → Int
  | [], l => l
  | x :: r, l => if f x l < 0 then -1 else szList f r (f x l)
def szS {α : Type} (f : α → Int → Int) (xs : List α) (l : Int) : Int := if l - xs.length < 0 then -1 else szList f xs (l - xs.length)
def szB (s : ByteArray) (l : Int) : Int := l - s.size
def szRec (r : Rec) (l : Int) : Int := if szS szB r.fields l < 0 then -1 else szS szB r.fields l

theorem szList_le {α : Type} {f : α → Int → Int} (hf : ∀ x l, 0 ≤ l → f x l ≤ l) : ∀ (xs : List α) (l : Int), 0 ≤ l → szList f xs l ≤ l
  | [], l, _ => Int.le_refl _
  | x :: r, l, h => by
    unfold szList
    split
    · omega
    · exact Int.le_trans (szList_le hf r _ (by omega)) (hf x l h)
theorem szS_le {α : Type} {f : α → Int → Int} (hf : ∀ x l, 0 ≤ l → f x l ≤ l) (xs : List α) (l : Int) (h : 0 ≤ l) : szS f xs l ≤ l := by
  unfold szS
  split
  · omega
  · have := szList_le hf xs (l - xs.length) (by omega); omega
theorem szB_le (s : ByteArray) (l : Int) (_ : 0 ≤ l) : szB s l ≤ l := by unfold szB; omega
theorem szRec_le (r : Rec) (l : Int) (h : 0 ≤ l) : szRec r l ≤ l := by
  unfold szRec
  split
  · omega
  · exact szS_le szB_le _ _ h

theorem szS_neg {α : Type} (f : α → Int → Int) (xs : List α) (l : Int) (h : l - xs.length < 0) : szS f xs l = -1 := by unfold szS; rw [if_pos h]
theorem szS_go {α : Type} (f : α → Int → Int) (xs : List α) (l : Int) (h : ¬ l - xs.length < 0) : szList f (xs.drop 0) (l - xs.length) = szS f xs l := by unfold szS; rw [if_neg h]; rfl
theorem szList_stop {α : Type} {f : α → Int → Int} {xs : List α} {k : Nat} {l R : Int} (hk : k < xs.length) (h : szList f (xs.drop k) l = R) (hn : f xs[k] l < 0) : -1 = R := by
  rw [drop_cons hk, szList, if_pos hn] at h; exact h
theorem szList_step {α : Type} {f : α → Int → Int} {xs : List α} {k : Nat} {l R : Int} (hk : k < xs.length) (h : szList f (xs.drop k) l = R) (hn : ¬ f xs[k] l < 0) : szList f (xs.drop (k + 1)) (f xs[k] l) = R := by
  rw [drop_cons hk, szList, if_neg hn] at h; exact h
theorem szList_end {α : Type} {f : α → Int → Int} {xs : List α} {k : Nat} {l R : Int} (hk : k = xs.length) (h : szList f (xs.drop k) l = R) : l = R := by
  rw [hk, List.drop_length] at h; exact h

end Go.Proofs.Ytmomdflfjcboiaa

namespace Go.Proofs.Ytmomdflfjcboiaa
open Go.RowKit

/-- What the sizes bound. -/
theorem szList_len {α : Type} {f : α → Int → Int} (hf : ∀ x l, 0 ≤ l → f x l ≤ l) : ∀ (xs : List α) (l : Int), 0 ≤ l → 0 ≤ szList f xs l → ∀ x ∈ xs, ∃ l', 0 ≤ l' ∧ l' ≤ l ∧ 0 ≤ f x l'
  | y :: r, l, h0, h, x, hx => by
    unfold szList at h
    split at h
    · omega
    · rename_i hn
      rcases List.mem_cons.1 hx with rfl | hx
      · exact ⟨l, h0, Int.le_refl _, by omega⟩
      · obtain ⟨l', h1, h2, h3⟩ := szList_len hf r (f y l) (by omega) h x hx
        exact ⟨l', h1, Int.le_trans h2 (hf y l h0), h3⟩
theorem szS_len {α : Type} {f : α → Int → Int} (hf : ∀ x l, 0 ≤ l → f x l ≤ l) {xs : List α} {l : Int} (h : 0 ≤ szS f xs l) : (xs.length : Int) ≤ l ∧ ∀ x ∈ xs, ∃ l', 0 ≤ l' ∧ l' ≤ l ∧ 0 ≤ f x l' := by
  unfold szS at h
  split at h
  · omega
  · rename_i hn
    refine ⟨by omega, fun x hx => ?_⟩
    obtain ⟨l', h1, h2, h3⟩ := szList_len hf xs _ (by omega) h x hx
    exact ⟨l', h1, by omega, h3⟩
theorem sz_kinds {ks : Ks} (h : 0 ≤ szS (szS szRec) ks 1048576) : ks.length ≤ 2000000 ∧ ∀ rs ∈ ks, rs.length ≤ 2000000 ∧ ∀ r ∈ rs, r.fields.length ≤ 2000000 := by
  obtain ⟨h1, h2⟩ := szS_len (szS_le szRec_le) h
  refine ⟨by omega, fun rs hrs => ?_⟩
  obtain ⟨l, l0, l1, hl⟩ := h2 rs hrs
  obtain ⟨h3, h4⟩ := szS_len szRec_le hl
  refine ⟨by omega, fun r hr => ?_⟩
  obtain ⟨m, m0, m1, hm⟩ := h4 r hr
  have hr : 0 ≤ szS szB r.fields m := by unfold szRec at hm; split at hm <;> omega
  obtain ⟨h5, _⟩ := szS_len szB_le hr
  omega

end Go.Proofs.Ytmomdflfjcboiaa
