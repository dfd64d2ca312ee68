/- Values copied as arguments, with what they own; vaults in memory, their sizes and copies. -/
import Derived.Test.YtmomdflfjcboiaaVlk
import Derived.Test.YtmomdflfjcboiaaOwv
import Derived.Test.YtmomdflfjcboiaaGz
namespace Go.Proofs.Ytmomdflfjcboiaa
open Go.RowKit

def ToVO (c : OCod Val) (v : Val) (w : World) (e : Ending) (w' : World) : Prop :=
  ∃ A' cA' B' cB', e = .returned (.agg #[.string v.ty, .int .i64 v.n, .slice A' v.parts.length cA', .slice B' v.path.length cB']) ∧ OV c 57 3 w.heap.size w'.heap.size w' (.slice A' v.parts.length cA') (.slice B' v.path.length cB') v ∧ Below w.heap.size w w'
end Go.Proofs.Ytmomdflfjcboiaa
