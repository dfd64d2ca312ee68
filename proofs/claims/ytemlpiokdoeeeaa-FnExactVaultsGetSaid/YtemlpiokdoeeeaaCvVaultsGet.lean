/- FnExactVaultsGet: at every argument VaultsGet answers as its model does, writes into no argument, and its answer owns its memory; no condition. -/
import Derived.Test.YtemlpiokdoeeeaaLvVaultsGet
import Derived.Test.YtemlpiokdoeeeaaYg
namespace Go.Proofs.Ytemlpiokdoeeeaa
open Go.RowKit

theorem VaultsGet_holds : Rows.FnExactVaultsGetSaid := VaultsGet_of fun d F kv v _ xs o t w h1 h2 h3 h4 _ _ => implVaultsGet_any d F kv v xs o t w h1 h2 h3 h4.xr
#print axioms VaultsGet_holds
end Go.Proofs.Ytemlpiokdoeeeaa
