/- The program's texts of values: ValueText, the model's and the code's. -/
import Derived.Test.YtemlpiokdoeeeaaDoorVu
import Derived.Test.YtemlpiokdoeeeaaDoorVsp
import Derived.Test.YtemlpiokdoeeeaaDoorVim
namespace Go.Proofs.YtemlpiokdoeeeaaDoor
open Go.RowKit

theorem appendValue_any (ks : Ks) : ∀ d, ApC ks (Cod.val d) (textV d) (okV ks d)
  | 0 => appendValue_of (e := Cod.no) (f' := fun _ => ByteArray.empty) (g' := fun _ => false) (IsVal.zero _) fun h => absurd h no_el
  | d + 1 => appendValue_of (IsVal.of _) fun _ => ⟨appendValue_any ks d, rfl, rfl⟩

def noText : ByteArray := ByteArray.empty

end Go.Proofs.YtemlpiokdoeeeaaDoor
