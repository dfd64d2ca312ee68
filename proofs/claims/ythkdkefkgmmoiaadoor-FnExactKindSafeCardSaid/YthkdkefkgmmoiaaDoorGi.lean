/- Whether a number stands in a row: of the model, and slices.Contains. -/
import Derived.Test.YthkdkefkgmmoiaaDoorGd
import Derived.Test.YthkdkefkgmmoiaaDoorSp
namespace Go.Proofs.YthkdkefkgmmoiaaDoor
open Go.RowKit

theorem drop_at {α : Type} {xs : List α} {k : Nat} (h : k < xs.length) : xs.drop k = xs[k] :: xs.drop (k + 1) := List.drop_eq_getElem_cons h
theorem in_step {xs : List Int} {n : Int} {k : Nat} {b : Bool} (hk : k < xs.length) (h : decide (n ∈ xs.drop k) = b) (hne : ¬ xs[k] = n) : decide (n ∈ xs.drop (k + 1)) = b := by
  rw [← h, Bool.eq_iff_iff, decide_eq_true_eq, decide_eq_true_eq, drop_at hk, List.mem_cons]
  exact ⟨Or.inr, fun h1 => h1.resolve_left fun h2 => hne h2.symm⟩
theorem in_here {xs : List Int} {n : Int} {k : Nat} {b : Bool} (hk : k < xs.length) (h : decide (n ∈ xs.drop k) = b) (he : xs[k] = n) : b = true := by
  rw [← h, decide_eq_true_eq, drop_at hk, List.mem_cons]
  exact Or.inl he.symm
theorem in_end {xs : List Int} {n : Int} {k : Nat} {b : Bool} (hk : ¬ k < xs.length) (h : decide (n ∈ xs.drop k) = b) : b = false := by
  rw [← h, List.drop_eq_nil_of_le (by omega)]
  simp


end Go.Proofs.YthkdkefkgmmoiaaDoor
