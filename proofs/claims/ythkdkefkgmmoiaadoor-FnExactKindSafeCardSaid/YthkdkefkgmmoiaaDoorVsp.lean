/- The model of values: what is one. The model of values: the parts of a record. The model of values: what is one, whole. -/
import Derived.Test.YthkdkefkgmmoiaaDoorSpb
import Derived.Test.YthkdkefkgmmoiaaDoorVal
namespace Go.Proofs.YthkdkefkgmmoiaaDoor
open Go.RowKit

def inB (n lo hi : Int) : Bool := decide (lo ≤ n) && decide (n ≤ hi)
def plainV (v : Val) : Bool := decide (v.parts.length = 0) && decide (v.path.length = 0)
/-- A value is one of kinds, its parts by f. -/
def okOf (ks : Ks) (f : Val → Bool) (v : Val) : Bool :=
  if (v.ty.toList == [110]) = true then plainV v && inB v.n 0 1000000
  else if (v.ty.toList == [98]) = true then plainV v && inB v.n 0 1
  else if (v.ty.toList == [111]) = true then plainV v && inB v.n 0 3
  else match kindOf v.ty with
    | none => false
    | some (m, k) => (hasB ks m k && decide (v.n = 0) && decide (v.path.length = 0) && decide (v.parts.length = (recAt ks m k).fields.length)) && (v.parts.zip (recAt ks m k).fields).all fun x => (x.1.ty.toList == x.2.toList) && f x.1
def okV (ks : Ks) : Nat → Val → Bool
  | 0 => fun _ => false
  | d + 1 => okOf ks (okV ks d)

end Go.Proofs.YthkdkefkgmmoiaaDoor

namespace Go.Proofs.YthkdkefkgmmoiaaDoor
open Go.RowKit

def partB (f : Val → Bool) (x : Val × ByteArray) : Bool := (x.1.ty.toList == x.2.toList) && f x.1

end Go.Proofs.YthkdkefkgmmoiaaDoor

namespace Go.Proofs.YthkdkefkgmmoiaaDoor
open Go.RowKit

/-- A value, its parts of a depth, is one of kinds. -/
def valOk (ks : Ks) (d : Nat) (v : Val) : Bool := kindsOk ks && okV ks (d + 1) v

end Go.Proofs.YthkdkefkgmmoiaaDoor
