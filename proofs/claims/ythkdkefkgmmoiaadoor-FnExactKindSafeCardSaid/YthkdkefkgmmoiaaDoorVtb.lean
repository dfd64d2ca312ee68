/- Values: their texts; the model, whole. -/
import Derived.Test.YthkdkefkgmmoiaaDoorVt
import Derived.Test.YthkdkefkgmmoiaaDoorVn
namespace Go.Proofs.YthkdkefkgmmoiaaDoor
open Go.RowKit

/-- Texts with blanks between them, behind a text. -/
def joinT (f : Val → ByteArray) : Bool → List Val → ByteArray → ByteArray
  | _, [], acc => acc
  | true, x :: r, acc => joinT f false r (acc ++ f x)
  | false, x :: r, acc => joinT f false r ((acc ++ ⟨#[32]⟩) ++ f x)
def textOf (f : Val → ByteArray) (v : Val) : ByteArray :=
  if (v.ty.toList == [110]) = true then decBy v.n.toNat
  else if (v.ty.toList == [98]) = true then (if v.n = 0 then ⟨#[45]⟩ else ⟨#[43]⟩)
  else if (v.ty.toList == [111]) = true then ⟨#[64]⟩ ++ decBy v.n.toNat
  else joinT f true v.parts (v.ty ++ ⟨#[40]⟩) ++ ⟨#[41]⟩
def textV : Nat → Val → ByteArray
  | 0 => fun _ => ByteArray.empty
  | d + 1 => textOf (textV d)

theorem joinT_ge (f : Val → ByteArray) : ∀ (xs : List Val) (b : Bool) (acc : ByteArray), acc.size ≤ (joinT f b xs acc).size
  | [], b, acc => by cases b <;> exact Nat.le_refl _
  | x :: r, true, acc => by
    show _ ≤ (joinT f false r (acc ++ f x)).size
    have := joinT_ge f r false (acc ++ f x)
    rw [ByteArray.size_append] at this
    omega
  | x :: r, false, acc => by
    show _ ≤ (joinT f false r ((acc ++ ⟨#[32]⟩) ++ f x)).size
    have := joinT_ge f r false ((acc ++ ⟨#[32]⟩) ++ f x)
    rw [ByteArray.size_append, ByteArray.size_append] at this
    omega
theorem joinT_le (f : Val → ByteArray) (g : Val → Nat) : ∀ (xs : List Val) (b : Bool) (acc : ByteArray), (∀ x ∈ xs, (f x).size ≤ g x) → (joinT f b xs acc).size ≤ acc.size + (xs.map g).sum + xs.length
  | [], b, acc, _ => by cases b <;> simp [joinT]
  | x :: r, true, acc, h => by
    show (joinT f false r (acc ++ f x)).size ≤ _
    have h1 := joinT_le f g r false (acc ++ f x) fun y hy => h y (List.mem_cons_of_mem _ hy)
    have h2 := h x List.mem_cons_self
    rw [ByteArray.size_append] at h1
    simp only [List.map_cons, List.sum_cons, List.length_cons]
    omega
  | x :: r, false, acc, h => by
    show (joinT f false r ((acc ++ ⟨#[32]⟩) ++ f x)).size ≤ _
    have h1 := joinT_le f g r false ((acc ++ ⟨#[32]⟩) ++ f x) fun y hy => h y (List.mem_cons_of_mem _ hy)
    have h2 := h x List.mem_cons_self
    rw [ByteArray.size_append, ByteArray.size_append] at h1
    have : (⟨#[32]⟩ : ByteArray).size = 1 := rfl
    simp only [List.map_cons, List.sum_cons, List.length_cons]
    omega
theorem joinT_step {f : Val → ByteArray} {xs : List Val} {j : Nat} {acc R : ByteArray} (hj : j < xs.length) (h : joinT f (decide (j = 0)) (xs.drop j) acc = R) :
    joinT f (decide (j + 1 = 0)) (xs.drop (j + 1)) ((if j = 0 then acc else acc ++ ⟨#[32]⟩) ++ f xs[j]) = R := by
  rw [drop_cons hj] at h
  rw [show decide (j + 1 = 0) = false from decide_eq_false (by omega)]
  by_cases h0 : j = 0
  · rw [decide_eq_true h0] at h; rw [if_pos h0]; exact h
  · rw [decide_eq_false h0] at h; rw [if_neg h0]; exact h
theorem joinT_end {f : Val → ByteArray} {xs : List Val} {j : Nat} {acc R : ByteArray} {b : Bool} (hj : j = xs.length) (h : joinT f b (xs.drop j) acc = R) : acc = R := by
  rw [hj, List.drop_length] at h
  cases b <;> exact h
theorem joinT_room {f : Val → ByteArray} {xs : List Val} {j : Nat} {acc R : ByteArray} (hj : j < xs.length) (h : joinT f (decide (j = 0)) (xs.drop j) acc = R) : acc.size + (f xs[j]).size + (if j = 0 then 0 else 1) ≤ R.size := by
  have h1 := joinT_step hj h
  have h2 := joinT_ge f (xs.drop (j + 1)) (decide (j + 1 = 0)) ((if j = 0 then acc else acc ++ ⟨#[32]⟩) ++ f xs[j])
  rw [h1, ByteArray.size_append] at h2
  split at h2
  · rename_i h0; rw [if_pos h0]; omega
  · rename_i h0
    rw [if_neg h0]
    rw [ByteArray.size_append] at h2
    have : (⟨#[32]⟩ : ByteArray).size = 1 := rfl
    omega

theorem okOf_num {ks : Ks} {g : Val → Bool} {v : Val} (h : okOf ks g v = true) (c : (v.ty.toList == [110]) = true) : 0 ≤ v.n ∧ v.n ≤ 1000000 := by
  unfold okOf at h
  rw [if_pos c] at h
  unfold inB at h
  simp only [Bool.and_eq_true, decide_eq_true_eq] at h
  exact h.2
theorem okOf_tru {ks : Ks} {g : Val → Bool} {v : Val} (h : okOf ks g v = true) (c1 : (v.ty.toList == [110]) = false) (c : (v.ty.toList == [98]) = true) : 0 ≤ v.n ∧ v.n ≤ 1 := by
  unfold okOf at h
  rw [if_neg (by simp [c1]), if_pos c] at h
  unfold inB at h
  simp only [Bool.and_eq_true, decide_eq_true_eq] at h
  exact h.2
theorem okOf_own {ks : Ks} {g : Val → Bool} {v : Val} (h : okOf ks g v = true) (c1 : (v.ty.toList == [110]) = false) (c2 : (v.ty.toList == [98]) = false) (c : (v.ty.toList == [111]) = true) : 0 ≤ v.n ∧ v.n ≤ 3 := by
  unfold okOf at h
  rw [if_neg (by simp [c1]), if_neg (by simp [c2]), if_pos c] at h
  unfold inB at h
  simp only [Bool.and_eq_true, decide_eq_true_eq] at h
  exact h.2
theorem okOf_parts {ks : Ks} {g : Val → Bool} {v : Val} (h : okOf ks g v = true) (c1 : (v.ty.toList == [110]) = false) (c2 : (v.ty.toList == [98]) = false) (c3 : (v.ty.toList == [111]) = false) :
    ∃ m k, kindOf v.ty = some (m, k) ∧ hasB ks m k = true ∧ v.n = 0 ∧ v.path.length = 0 ∧ v.parts.length = (recAt ks m k).fields.length ∧ v.ty.size = 3 ∧
      (∀ j (hj : j < v.parts.length) (hf : j < (recAt ks m k).fields.length), v.parts[j].ty.toList = (recAt ks m k).fields[j].toList ∧ g v.parts[j] = true) ∧ ∀ x ∈ v.parts, g x = true := by
  unfold okOf at h
  rw [if_neg (by simp [c1]), if_neg (by simp [c2]), if_neg (by simp [c3])] at h
  split at h
  · cases h
  · rename_i m k hk
    simp only [Bool.and_eq_true, decide_eq_true_eq, List.all_eq_true] at h
    obtain ⟨⟨⟨⟨h1, h2⟩, h3⟩, h4⟩, h5⟩ := h
    have hj : ∀ j (hj : j < v.parts.length) (hf : j < (recAt ks m k).fields.length), v.parts[j].ty.toList = (recAt ks m k).fields[j].toList ∧ g v.parts[j] = true := fun j hj hf => by
      have hm : (v.parts[j], (recAt ks m k).fields[j]) ∈ v.parts.zip (recAt ks m k).fields := by
        rw [List.mem_iff_getElem]
        exact ⟨j, by rw [List.length_zip]; omega, List.getElem_zip⟩
      obtain ⟨q1, q2⟩ := h5 _ hm
      exact ⟨by simpa using q1, q2⟩
    refine ⟨m, k, hk, h1, h2, h3, h4, ?_, hj, fun x hx => ?_⟩
    · unfold kindOf at hk
      split at hk
      · assumption
      · cases hk
    · obtain ⟨j, hjl, rfl⟩ := List.mem_iff_getElem.1 hx
      exact (hj j hjl (by omega)).2

/-- The text of a value is short. -/
theorem text_le {ks : Ks} {f : Val → ByteArray} {g : Val → Bool} {s : Val → Int} (hs : ∀ x, 0 ≤ s x) (hf : ∀ x, g x = true → ((f x).size : Int) + 4 ≤ 14 * s x) (v : Val) (h : okOf ks g v = true) : ((textOf f v).size : Int) + 4 ≤ 14 * sizeOf' (fun _ => 1) s v := by
  have hp := sumL_pos hs v.parts
  have hsz : sizeOf' (fun _ => 1) s v = 1 + sumL s v.parts := rfl
  rw [hsz]
  unfold textOf
  by_cases c1 : (v.ty.toList == [110]) = true
  · rw [if_pos c1]
    have := okOf_num h c1
    have := size_decBy 6 v.n.toNat (by omega)
    omega
  · rw [if_neg c1]
    by_cases c2 : (v.ty.toList == [98]) = true
    · rw [if_pos c2]
      split
      · have : (⟨#[45]⟩ : ByteArray).size = 1 := rfl
        omega
      · have : (⟨#[43]⟩ : ByteArray).size = 1 := rfl
        omega
    · rw [if_neg c2]
      by_cases c3 : (v.ty.toList == [111]) = true
      · rw [if_pos c3, ByteArray.size_append]
        have := okOf_own h (by simpa using c1) (by simpa using c2) c3
        have := size_decBy 6 v.n.toNat (by omega)
        have : (⟨#[64]⟩ : ByteArray).size = 1 := rfl
        omega
      · rw [if_neg c3, ByteArray.size_append]
        obtain ⟨m, k, _, _, _, _, _, hty, _, hall⟩ := okOf_parts h (by simpa using c1) (by simpa using c2) (by simpa using c3)
        have h1 := joinT_le f (fun x => (14 * s x - 4).toNat) v.parts true (v.ty ++ ⟨#[40]⟩) fun x hx => by have := hf x (hall x hx); omega
        rw [ByteArray.size_append] at h1
        have e1 : (⟨#[40]⟩ : ByteArray).size = 1 := rfl
        have e2 : (⟨#[41]⟩ : ByteArray).size = 1 := rfl
        have h2 : ∀ xs : List Val, (∀ x ∈ xs, g x = true) → (((xs.map fun x => (14 * s x - 4).toNat).sum : Nat) : Int) + 4 * xs.length = 14 * sumL s xs := by
          intro xs
          induction xs with
          | nil => intro _; rfl
          | cons x r ih =>
            intro hx
            have i1 := ih fun y hy => hx y (List.mem_cons_of_mem _ hy)
            have i2 := hf x (hx x List.mem_cons_self)
            simp only [List.map_cons, List.sum_cons, List.length_cons, sumL]
            omega
        have h3 := h2 v.parts hall
        omega
theorem textV_le {ks : Ks} : ∀ (d : Nat) (x : Val), okV ks d x = true → ((textV d x).size : Int) + 4 ≤ 14 * sizeV d x
  | 0, _, h => by cases h
  | d + 1, x, h => text_le (sizeV_pos d) (textV_le d) x h

/-- The text of a value of kinds, the empty one of none. -/
def textVal (ks : Ks) (d : Nat) (v : Val) : ByteArray := if valOk ks d v = true then textOf (textV d) v else ByteArray.empty
theorem textVal_le {ks : Ks} {d : Nat} {v : Val} (h : valOk ks d v = true) (hm : sizeOf' (fun _ => 1) (sizeV d) v ≤ 2000000) : (textOf (textV d) v).size ≤ 100000000 := by
  unfold valOk at h
  simp only [Bool.and_eq_true] at h
  have := textV_le (ks := ks) (d + 1) v h.2
  have e : sizeV (d + 1) v = sizeOf' (fun _ => 1) (sizeV d) v := rfl
  have e2 : textV (d + 1) v = textOf (textV d) v := rfl
  rw [e, e2] at this
  omega
end Go.Proofs.YthkdkefkgmmoiaaDoor
