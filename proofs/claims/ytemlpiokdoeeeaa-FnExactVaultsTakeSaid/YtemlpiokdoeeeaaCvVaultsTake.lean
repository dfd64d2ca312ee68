/- FnExactVaultsTake: at every argument VaultsTake answers as its model does, writes into no argument, and its answer owns its memory; no condition. -/
import Derived.Test.YtemlpiokdoeeeaaLvVaultsTake
import Derived.Test.YtemlpiokdoeeeaaYl
namespace Go.Proofs.Ytemlpiokdoeeeaa
open Go.RowKit

theorem VaultsTake_holds : Rows.FnExactVaultsTakeSaid := VaultsTake_of fun d F kv v _ xs o t w h1 h2 h3 h4 _ _ => implVaultsTake_any d F kv v xs o t w h1 h2 h3 h4.xr
#print axioms VaultsTake_holds
end Go.Proofs.Ytemlpiokdoeeeaa
