/- The functions that compare, at instructions, functions and modules. -/
import Derived.Test.YtgfpncpphpkahaaGd
import Derived.Test.YtgfpncpphpkahaaEq
namespace Go.Proofs.Ytgfpncpphpkahaa
open Go.RowKit


def EqRow {α : Type} (c : Cod α) (f : FuncId) : Prop := ∀ (F : Nat → Prop) (v v' : Value) (xs : List α) (w : World), c.Sl F w v xs → c.Sl F w v' xs → (∀ b, F b → b < w.heap.size) →
    Calls Try.prog f #[v, v'] w fun e w' => e = .returned (.bool true) ∧ Below w.heap.size w w'
theorem eq_i64 : EqRow Cod.i64 32 := fun F v v' xs w h h' _ => eqIntS_any F v v' xs w h h'
end Go.Proofs.Ytgfpncpphpkahaa
