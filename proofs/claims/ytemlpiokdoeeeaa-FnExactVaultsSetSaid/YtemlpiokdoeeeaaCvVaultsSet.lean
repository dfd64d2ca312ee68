/- FnExactVaultsSet: at every argument VaultsSet answers as its model does, writes into no argument, and its answer owns its memory; no condition. -/
import Derived.Test.YtemlpiokdoeeeaaLvVaultsSet
import Derived.Test.YtemlpiokdoeeeaaYk
namespace Go.Proofs.Ytemlpiokdoeeeaa
open Go.RowKit

theorem VaultsSet_holds : Rows.FnExactVaultsSetSaid := VaultsSet_of fun d F kv vl _ xs o A B n m cA cB x w h1 h2 h3 h4 h5 h6 _ h8 => implVaultsSet_any d F kv vl xs o A B n m cA cB x w h1 h2 h3 h4 h5.xr h6 h8
#print axioms VaultsSet_holds
end Go.Proofs.Ytemlpiokdoeeeaa
