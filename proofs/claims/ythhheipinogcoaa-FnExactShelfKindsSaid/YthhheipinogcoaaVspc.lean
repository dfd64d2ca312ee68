/- The model of values: what is one, whole. -/
import Derived.Test.YthhheipinogcoaaVsp
namespace Go.Proofs.Ythhheipinogcoaa
open Go.RowKit

/-- A value, its parts of a depth, is one of kinds. -/
def valOk (ks : Ks) (d : Nat) (v : Val) : Bool := kindsOk ks && okV ks (d + 1) v

end Go.Proofs.Ythhheipinogcoaa
