/- FnExactVaultsOk: at every argument VaultsOk answers as its model does, writes into no argument; no condition. -/
import Derived.Test.YtemlpiokdoeeeaaLvVaultsOk
import Derived.Test.YtemlpiokdoeeeaaYf
namespace Go.Proofs.Ytemlpiokdoeeeaa
open Go.RowKit

theorem VaultsOk_holds : Rows.FnExactVaultsOkSaid := VaultsOk_of fun d F kv v _ xs w h1 h2 h3 _ => implVaultsOk_any d F kv v xs w h1 h2 h3
#print axioms VaultsOk_holds
end Go.Proofs.Ytemlpiokdoeeeaa
