/- The functions that compare, at instructions, functions and modules. -/
import Derived.Test.YthkdkefkgmmoiaaGd
import Derived.Test.YthkdkefkgmmoiaaEq
namespace Go.Proofs.Ythkdkefkgmmoiaa
open Go.RowKit


def EqRow {α : Type} (c : Cod α) (f : FuncId) : Prop := ∀ (F : Nat → Prop) (v v' : Value) (xs : List α) (w : World), c.Sl F w v xs → c.Sl F w v' xs → (∀ b, F b → b < w.heap.size) →
    Calls Try.prog f #[v, v'] w fun e w' => e = .returned (.bool true) ∧ Below w.heap.size w w'
theorem eq_str : EqRow Cod.str 102 := fun F v v' xs w h h' _ => (eqStringS_any F v v' xs w h h').mono fun _ _ hh => ⟨hh.1, hh.2⟩
theorem eq_i64 : EqRow Cod.i64 104 := fun F v v' xs w h h' _ => eqIntS_any F v v' xs w h h'
theorem eq_rec : EqRow Cod.rec_ 57 := fun F v v' xs w h h' hF => eqRecordS_any F v v' xs w h h' hF


end Go.Proofs.Ythkdkefkgmmoiaa
