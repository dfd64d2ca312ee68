/- The functions that reckon sizes, at strings and records. -/
import Derived.Test.YtgfpncpphpkahaaRows
import Derived.Test.YtgfpncpphpkahaaKit
namespace Go.Proofs.Ytgfpncpphpkahaa
open Go.RowKit

def szList {α : Type} (f : α → Int → Int) : List α → Int → Int
  | [], l => l
  | x :: r, l => if f x l < 0 then -1 else szList f r (f x l)
def szS {α : Type} (f : α → Int → Int) (xs : List α) (l : Int) : Int := if l - xs.length < 0 then -1 else szList f xs (l - xs.length)
def szB (s : ByteArray) (l : Int) : Int := l - s.size
def szRec (r : Rec) (l : Int) : Int := if szS szB r.fields l < 0 then -1 else szS szB r.fields l

theorem szList_le {α : Type} {f : α → Int → Int} (hf : ∀ x l, 0 ≤ l → f x l ≤ l) : ∀ (xs : List α) (l : Int), 0 ≤ l → szList f xs l ≤ l
  | [], l, _ => Int.le_refl _
  | x :: r, l, h => by
    unfold szList
    split
    · omega
    · exact Int.le_trans (szList_le hf r _ (by omega)) (hf x l h)
theorem szS_le {α : Type} {f : α → Int → Int} (hf : ∀ x l, 0 ≤ l → f x l ≤ l) (xs : List α) (l : Int) (h : 0 ≤ l) : szS f xs l ≤ l := by
  unfold szS
  split
  · omega
  · have := szList_le hf xs (l - xs.length) (by omega); omega
theorem szB_le (s : ByteArray) (l : Int) (_ : 0 ≤ l) : szB s l ≤ l := by unfold szB; omega
theorem szRec_le (r : Rec) (l : Int) (h : 0 ≤ l) : szRec r l ≤ l := by
  unfold szRec
  split
  · omega
  · exact szS_le szB_le _ _ h

theorem szS_neg {α : Type} (f : α → Int → Int) (xs : List α) (l : Int) (h : l - xs.length < 0) : szS f xs l = -1 := by unfold szS; rw [if_pos h]
theorem szS_go {α : Type} (f : α → Int → Int) (xs : List α) (l : Int) (h : ¬ l - xs.length < 0) : szList f (xs.drop 0) (l - xs.length) = szS f xs l := by unfold szS; rw [if_neg h]; rfl
theorem szList_stop {α : Type} {f : α → Int → Int} {xs : List α} {k : Nat} {l R : Int} (hk : k < xs.length) (h : szList f (xs.drop k) l = R) (hn : f xs[k] l < 0) : -1 = R := by
  rw [drop_cons hk, szList, if_pos hn] at h; exact h
theorem szList_step {α : Type} {f : α → Int → Int} {xs : List α} {k : Nat} {l R : Int} (hk : k < xs.length) (h : szList f (xs.drop k) l = R) (hn : ¬ f xs[k] l < 0) : szList f (xs.drop (k + 1)) (f xs[k] l) = R := by
  rw [drop_cons hk, szList, if_neg hn] at h; exact h
theorem szList_end {α : Type} {f : α → Int → Int} {xs : List α} {k : Nat} {l R : Int} (hk : k = xs.length) (h : szList f (xs.drop k) l = R) : l = R := by
  rw [hk, List.drop_length] at h; exact h

end Go.Proofs.Ytgfpncpphpkahaa
