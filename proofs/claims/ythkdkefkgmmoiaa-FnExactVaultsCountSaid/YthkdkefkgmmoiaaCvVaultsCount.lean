/- FnExactVaultsCount: at every argument VaultsCount answers as its model does and writes into no argument. -/
import Derived.Test.YthkdkefkgmmoiaaLvVaultsCount
import Derived.Test.YthkdkefkgmmoiaaYm
namespace Go.Proofs.Ythkdkefkgmmoiaa
open Go.RowKit

theorem VaultsCount_holds : Rows.FnExactVaultsCountSaid := VaultsCount_of fun d F kv v _ xs kind w h1 h2 h3 _ _ h6 => implVaultsCount_any d F kv v xs kind w h1 h2 h3 h6
#print axioms VaultsCount_holds
end Go.Proofs.Ythkdkefkgmmoiaa
