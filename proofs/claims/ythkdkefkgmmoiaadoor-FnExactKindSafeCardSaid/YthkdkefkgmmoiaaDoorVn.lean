/- Values: how many there are in one, and how many records of a kind, of the model and of the program. -/
import Derived.Test.YthkdkefkgmmoiaaDoorVlk
namespace Go.Proofs.YthkdkefkgmmoiaaDoor
open Go.RowKit

def sumL (f : Val → Int) : List Val → Int
  | [] => 0
  | x :: r => f x + sumL f r
theorem sumL_pos {f : Val → Int} (hf : ∀ x, 0 ≤ f x) : ∀ xs, 0 ≤ sumL f xs
  | [] => Int.le_refl _
  | x :: r => by have := hf x; have := sumL_pos hf r; unfold sumL; omega
theorem sumL_step {f : Val → Int} {xs : List Val} {k : Nat} {n R : Int} (hk : k < xs.length) (h : n + sumL f (xs.drop k) = R) : n + f xs[k] + sumL f (xs.drop (k + 1)) = R := by
  rw [drop_cons hk, sumL] at h; omega
theorem sumL_end {f : Val → Int} {xs : List Val} {k : Nat} {n R : Int} (hk : k = xs.length) (h : n + sumL f (xs.drop k) = R) : n = R := by
  rw [hk, List.drop_length, sumL] at h; omega
theorem sumL_le {f g : Val → Int} (h : ∀ x, f x ≤ g x) : ∀ xs, sumL f xs ≤ sumL g xs
  | [] => Int.le_refl _
  | x :: r => by have := h x; have := sumL_le h r; unfold sumL; omega

/-- How many values, its parts counted by f, behind an own number s. -/
def sizeOf' (s : Val → Int) (f : Val → Int) (v : Val) : Int := s v + sumL f v.parts
def sizeV : Nat → Val → Int
  | 0 => fun _ => 0
  | d + 1 => sizeOf' (fun _ => 1) (sizeV d)
/-- 1 for a record of a kind. -/
def isK (kind : ByteArray) (v : Val) : Int := if (v.ty.toList == kind.toList) = true then 1 else 0
def cntV (kind : ByteArray) : Nat → Val → Int
  | 0 => fun _ => 0
  | d + 1 => sizeOf' (isK kind) (cntV kind d)
theorem isK_01 (kind : ByteArray) (v : Val) : 0 ≤ isK kind v ∧ isK kind v ≤ 1 := by unfold isK; split <;> simp
theorem sizeOf'_pos {s f : Val → Int} (hs : ∀ x, 0 ≤ s x) (hf : ∀ x, 0 ≤ f x) (v : Val) : 0 ≤ sizeOf' s f v := by
  unfold sizeOf'; have := hs v; have := sumL_pos hf v.parts; omega
theorem sizeV_pos : ∀ d x, 0 ≤ sizeV d x
  | 0, _ => Int.le_refl _
  | d + 1, x => sizeOf'_pos (fun _ => by decide) (sizeV_pos d) x
theorem cntV_pos (kind : ByteArray) : ∀ d x, 0 ≤ cntV kind d x
  | 0, _ => Int.le_refl _
  | d + 1, x => sizeOf'_pos (fun v => (isK_01 kind v).1) (cntV_pos kind d) x
theorem cntV_le (kind : ByteArray) : ∀ d x, cntV kind d x ≤ sizeV d x
  | 0, _ => Int.le_refl _
  | d + 1, x => by
    have h1 := (isK_01 kind x).2
    have h2 := sumL_le (cntV_le kind d) x.parts
    show isK kind x + sumL (cntV kind d) x.parts ≤ 1 + sumL (sizeV d) x.parts
    omega

theorem szList_sum {f : Val → Int → Int} {s : Val → Int} (h : ∀ x l, 0 ≤ l → 0 ≤ f x l → s x ≤ 1 + (l - f x l)) : ∀ (xs : List Val) (l : Int), 0 ≤ l → 0 ≤ szList f xs l → sumL s xs ≤ xs.length + (l - szList f xs l)
  | [], l, _, _ => by unfold sumL szList; simp
  | x :: r, l, h0, hh => by
    unfold szList at hh ⊢
    split at hh
    · omega
    · rename_i hn
      rw [if_neg hn]
      have h1 := h x l h0 (by omega)
      have h2 := szList_sum h r (f x l) (by omega) hh
      unfold sumL
      simp only [List.length_cons]
      omega
theorem szS_sum {f : Val → Int → Int} {s : Val → Int} (h : ∀ x l, 0 ≤ l → 0 ≤ f x l → s x ≤ 1 + (l - f x l)) (xs : List Val) (l : Int) (_ : 0 ≤ l) (hh : 0 ≤ szS f xs l) : sumL s xs ≤ l - szS f xs l := by
  unfold szS at hh ⊢
  split at hh
  · omega
  · rename_i hn
    rw [if_neg hn]
    have := szList_sum h xs (l - xs.length) (by omega) hh
    omega
theorem szOf_sum {f : Val → Int → Int} {s : Val → Int} (h : ∀ x l, 0 ≤ l → 0 ≤ f x l → s x ≤ 1 + (l - f x l)) (v : Val) (l : Int) (hh : 0 ≤ szOf f v l) : sizeOf' (fun _ => 1) s v ≤ 1 + (l - szOf f v l) := by
  unfold szOf at hh ⊢
  split at hh
  · omega
  · rename_i hn
    rw [if_neg hn]
    split at hh
    · omega
    · rename_i hn2
      rw [if_neg hn2]
      have h1 := szS_sum h v.parts (l - v.ty.size) (by omega) (by omega)
      have h2 := szI_le v.path (szS f v.parts (l - v.ty.size)) (by omega)
      show 1 + sumL s v.parts ≤ _
      omega
theorem szVal_sum : ∀ (d : Nat) (x : Val) (l : Int), 0 ≤ l → 0 ≤ szVal d x l → sizeV d x ≤ 1 + (l - szVal d x l)
  | 0, _, _, _, h => by unfold szVal at h; omega
  | d + 1, x, l, _, h => szOf_sum (szVal_sum d) x l h
/-- A value that is not too long is of few values. -/
theorem size_few {d : Nat} {v : Val} {l : Int} (h1 : l ≤ 1048576) (h : 0 ≤ szOf (szVal d) v l) : sizeV (d + 1) v ≤ 2000000 := by
  have := szOf_sum (szVal_sum d) v l h
  show sizeOf' (fun _ => 1) (sizeV d) v ≤ _
  omega
theorem cnt_few {kind : ByteArray} {d : Nat} {v : Val} {l : Int} (h1 : l ≤ 1048576) (h : 0 ≤ szOf (szVal d) v l) : cntV kind (d + 1) v ≤ 2000000 := Int.le_trans (cntV_le kind (d + 1) v) (size_few h1 h)

end Go.Proofs.YthkdkefkgmmoiaaDoor
