/- Vaults in order: comparing, where a record is or would be put, by halving. -/
import Derived.Test.YthkdkefkgmmoiaaWj
import Derived.Sort.Walk0
namespace Go.Proofs.Ythkdkefkgmmoiaa
open Go.RowKit

theorem less_irr (a : List UInt8) : Go.Op.bytesLess a a = false := by
  rw [bytesLess_eq, decide_eq_false_iff_not]
  exact List.lt_irrefl a
theorem less_trans {a b c : List UInt8} (h1 : Go.Op.bytesLess a b = true) (h2 : Go.Op.bytesLess b c = true) : Go.Op.bytesLess a c = true := by
  rw [bytesLess_eq, decide_eq_true_eq] at *
  exact List.lt_trans h1 h2
theorem less_tri {a b : List UInt8} (h1 : Go.Op.bytesLess a b = false) (h2 : Go.Op.bytesLess b a = false) : a = b := by
  rw [bytesLess_eq, decide_eq_false_iff_not] at *
  exact List.le_antisymm (List.not_lt.1 h2) (List.not_lt.1 h1)

def cmpO (a b : Int) : Int := if a < b then -1 else if b < a then 1 else 0
def cmpT (a b : ByteArray) : Int := if Go.Op.bytesLess a.toList b.toList = true then -1 else if Go.Op.bytesLess b.toList a.toList = true then 1 else 0
def cmpK (a b : KepR) : Int := if cmpO a.o b.o = 0 then cmpT a.v.ty b.v.ty else cmpO a.o b.o

theorem ltK_iff {a b : KepR} : ltK a b = true ↔ a.o < b.o ∨ (a.o = b.o ∧ Go.Op.bytesLess a.v.ty.toList b.v.ty.toList = true) := by
  unfold ltK
  simp only [Bool.or_eq_true, Bool.and_eq_true, decide_eq_true_eq]
theorem ltK_trans {a b c : KepR} (h1 : ltK a b = true) (h2 : ltK b c = true) : ltK a c = true := by
  rw [ltK_iff] at *
  rcases h1 with h1 | ⟨h1, h1'⟩ <;> rcases h2 with h2 | ⟨h2, h2'⟩
  · exact .inl (by omega)
  · exact .inl (by omega)
  · exact .inl (by omega)
  · exact .inr ⟨by omega, less_trans h1' h2'⟩
theorem cmpK_lt {a b : KepR} : cmpK a b < 0 ↔ ltK a b = true := by
  rw [ltK_iff]
  unfold cmpK cmpO cmpT
  by_cases h1 : a.o < b.o
  · simp [h1]
  · by_cases h2 : b.o < a.o
    · simp [h1, h2]; omega
    · have h3 : a.o = b.o := by omega
      simp [h1, h2, h3]
      by_cases h4 : Go.Op.bytesLess a.v.ty.toList b.v.ty.toList = true
      · simp [h4]
      · simp [h4]
        split <;> decide
def sameK (a b : KepR) : Prop := a.o = b.o ∧ a.v.ty.toList = b.v.ty.toList
theorem cmpK_eq {a b : KepR} : cmpK a b = 0 ↔ sameK a b := by
  unfold cmpK cmpO cmpT sameK
  by_cases h1 : a.o < b.o
  · simp [h1]; omega
  · by_cases h2 : b.o < a.o
    · simp [h1, h2]; omega
    · have h3 : a.o = b.o := by omega
      simp [h3]
      cases h4 : Go.Op.bytesLess a.v.ty.toList b.v.ty.toList with
      | true =>
        simp
        intro h5
        rw [h5, less_irr] at h4
        cases h4
      | false =>
        cases h5 : Go.Op.bytesLess b.v.ty.toList a.v.ty.toList with
        | true =>
          simp
          intro h6
          rw [h6, less_irr] at h5
          cases h5
        | false => simp [less_tri h4 h5]
theorem cmpK_range (a b : KepR) : -1 ≤ cmpK a b ∧ cmpK a b ≤ 1 := by
  unfold cmpK cmpO cmpT
  constructor <;> repeat' split
  all_goals omega

def SortedK (xs : List KepR) : Prop := ∀ i j, i < j → j < xs.length → ltK (xs.getD i zeroK) (xs.getD j zeroK) = true
theorem sortedK_of {xs : List KepR} (h : ∀ i, i + 1 < xs.length → ltK (xs.getD i zeroK) (xs.getD (i + 1) zeroK) = true) : SortedK xs := by
  intro i j hij
  induction j with
  | zero => omega
  | succ j ih =>
    intro hj
    rcases Nat.lt_or_ge i j with h1 | h1
    · exact ltK_trans (ih h1 (by omega)) (h j hj)
    · obtain rfl : i = j := by omega
      exact h i hj
theorem vOk_sorted {ks : Ks} {d : Nat} {xs : List KepR} (h : vOk ks d xs = true) : SortedK xs := sortedK_of fun i hi => by
  unfold vOk at h
  simp only [Bool.and_eq_true] at h
  have := okList_at h.2 hi
  unfold okAtK at this
  simp only [Bool.and_eq_true, Bool.or_eq_true, decide_eq_true_eq, Nat.add_sub_cancel] at this
  rcases this.2 with h0 | h0
  · omega
  · exact h0

/-- Where halving ends. -/
structure PlaceK (xs : List KepR) (t : KepR) (p : Nat) : Prop where
  le : p ≤ xs.length
  lo : ∀ q, q < p → ltK (xs.getD q zeroK) t = true
  hi : ∀ q, p ≤ q → q < xs.length → ltK (xs.getD q zeroK) t = false
def foundK (xs : List KepR) (t : KepR) (p : Nat) : Bool := decide (p < xs.length) && decide (cmpK (xs.getD p zeroK) t = 0)

theorem sameK_lt {a b c : KepR} (h : sameK b c) : ltK a b = ltK a c := by
  rw [Bool.eq_iff_iff, ltK_iff, ltK_iff, h.1, h.2]
theorem sameK_not {a b : KepR} (h : sameK a b) : ltK a b = false := by
  rw [Bool.eq_false_iff]
  intro h'
  rw [ltK_iff, h.1, h.2, less_irr] at h'
  rcases h' with h' | h'
  · omega
  · cases h'.2
theorem isK2_same {x t : KepR} : isK2 t.o t.v.ty x = true ↔ sameK x t := by
  unfold isK2 sameK
  simp only [Bool.and_eq_true, beq_iff_eq]
theorem findK_first {o : Int} {t : ByteArray} : ∀ (xs : List KepR) (i p : Nat) (_ : p < xs.length), isK2 o t (xs.getD p zeroK) = true → (∀ q, q < p → isK2 o t (xs.getD q zeroK) = false) → findK o t xs i = ((i + p : Nat) : Int)
  | [], _, _, h, _, _ => by simp at h
  | x :: r, i, 0, _, h, _ => by
    unfold findK
    rw [if_pos (by simpa using h)]
    rfl
  | x :: r, i, p + 1, h, hp, hq => by
    unfold findK
    rw [if_neg (by have := hq 0 (by omega); simp at this; simp [this]), findK_first r (i + 1) p (by simpa using h) (by simpa using hp) (fun q h => by have := hq (q + 1) (by omega); simpa using this)]
    omega
theorem findK_none {o : Int} {t : ByteArray} : ∀ (xs : List KepR) (i : Nat), (∀ q, q < xs.length → isK2 o t (xs.getD q zeroK) = false) → findK o t xs i = -1
  | [], _, _ => rfl
  | x :: r, i, h => by
    unfold findK
    rw [if_neg (by have := h 0 (by simp); simp at this; simp [this]), findK_none r (i + 1) (fun q hq => by have := h (q + 1) (by simp; omega); simpa using this)]

theorem place_find {xs : List KepR} {t : KepR} {p : Nat} (hs : SortedK xs) (h : PlaceK xs t p) : findK t.o t.v.ty xs 0 = if foundK xs t p = true then (p : Int) else -1 := by
  have hlo : ∀ q, q < p → isK2 t.o t.v.ty (xs.getD q zeroK) = false := fun q hq => by
    rw [Bool.eq_false_iff]
    intro h'
    have := sameK_not (isK2_same.1 h')
    rw [h.lo q hq] at this
    cases this
  by_cases hf : foundK xs t p = true
  · rw [if_pos hf]
    unfold foundK at hf
    simp only [Bool.and_eq_true, decide_eq_true_eq] at hf
    rw [findK_first xs 0 p hf.1 (isK2_same.2 (cmpK_eq.1 hf.2)) hlo]
    simp
  · rw [if_neg hf]
    refine findK_none xs 0 fun q hq => ?_
    rcases Nat.lt_or_ge q p with h1 | h1
    · exact hlo q h1
    · rw [Bool.eq_false_iff]
      intro h'
      have hsame := isK2_same.1 h'
      rcases Nat.lt_or_ge p q with h2 | h2
      · have h3 := hs p q h2 hq
        rw [sameK_lt hsame, h.hi p (Nat.le_refl _) (by omega)] at h3
        cases h3
      · obtain rfl : p = q := by omega
        exact hf (by unfold foundK; simp only [Bool.and_eq_true, decide_eq_true_eq]; exact ⟨hq, cmpK_eq.2 hsame⟩)
theorem place_put {xs : List KepR} {o : Int} {v : Val} : ∀ {p : Nat}, SortedK xs → PlaceK xs ⟨o, v⟩ p → foundK xs ⟨o, v⟩ p = false → putK o v xs = xs.take p ++ ⟨o, v⟩ :: xs.drop p := by
  induction xs with
  | nil => intro p _ h _; simp [putK]
  | cons x r ih =>
    intro p hs h hf
    unfold putK
    cases p with
    | zero =>
      have h1 := h.hi 0 (Nat.le_refl _) (by simp)
      have h2 : ¬ sameK x ⟨o, v⟩ := fun hsame => by
        unfold foundK at hf
        rw [Bool.and_eq_false_iff] at hf
        rcases hf with hf | hf
        · simp at hf
        · rw [decide_eq_false_iff_not] at hf
          exact hf (cmpK_eq.2 (by simpa using hsame))
      rw [if_pos]
      · simp
      · simp only [List.getD_cons_zero] at h1
        rw [Bool.eq_false_iff, ne_eq, ltK_iff] at h1
        unfold gtK
        unfold sameK at h2
        simp only [Bool.or_eq_true, Bool.and_eq_true, decide_eq_true_eq, beq_iff_eq, Bool.not_eq_true', Bool.or_eq_false_iff, beq_eq_false_iff_ne] at *
        by_cases h3 : o < x.o
        · exact .inl h3
        · have h4 : x.o = o := by
            rcases Int.lt_trichotomy x.o o with h4 | h4 | h4
            · exact absurd (.inl h4) h1
            · exact h4
            · omega
          refine .inr ⟨h4, ?_, fun h5 => h2 ⟨h4, h5⟩⟩
          rw [Bool.eq_false_iff]
          intro h5
          exact h1 (.inr ⟨h4, h5⟩)
    | succ p =>
      have h1 := h.lo 0 (by omega)
      simp only [List.getD_cons_zero] at h1
      rw [if_neg]
      · rw [ih (p := p)]
        · simp
        · intro i j hij hj
          have := hs (i + 1) (j + 1) (by omega) (by simpa using hj)
          simpa using this
        · exact ⟨by have := h.le; simpa using this, fun q hq => by have := h.lo (q + 1) (by omega); simpa using this, fun q hq hl => by have := h.hi (q + 1) (by omega) (by simpa using hl); simpa using this⟩
        · unfold foundK at hf ⊢
          simpa using hf
      · rw [ltK_iff] at h1
        unfold gtK
        simp only [Bool.or_eq_true, Bool.and_eq_true, decide_eq_true_eq, beq_iff_eq, Bool.not_eq_true', Bool.or_eq_false_iff]
        rintro (h2 | ⟨h2, h3, -⟩)
        · rcases h1 with h1 | h1
          · simp at h1; omega
          · have := h1.1; simp at this; omega
        · rcases h1 with h1 | h1
          · simp at h1; omega
          · have := h1.2
            simp only at this
            rw [h3] at this
            cases this
end Go.Proofs.Ythkdkefkgmmoiaa
