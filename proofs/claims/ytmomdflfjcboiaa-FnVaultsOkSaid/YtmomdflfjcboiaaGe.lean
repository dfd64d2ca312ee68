/- The functions that compare, at instructions, functions and modules. -/
import Derived.Test.YtmomdflfjcboiaaGd
import Derived.Test.YtmomdflfjcboiaaEq
namespace Go.Proofs.Ytmomdflfjcboiaa
open Go.RowKit


def EqRow {α : Type} (c : Cod α) (f : FuncId) : Prop := ∀ (F : Nat → Prop) (v v' : Value) (xs : List α) (w : World), c.Sl F w v xs → c.Sl F w v' xs → (∀ b, F b → b < w.heap.size) →
    Calls Try.prog f #[v, v'] w fun e w' => e = .returned (.bool true) ∧ Below w.heap.size w w'
end Go.Proofs.Ytmomdflfjcboiaa
