/- Values: ValueSize and ValueCount, of the model and of the program. -/
import Derived.Test.YthkdkefkgmmoiaaVn
import Derived.Test.YthkdkefkgmmoiaaVim
namespace Go.Proofs.Ythkdkefkgmmoiaa
open Go.RowKit

def sizeVal (ks : Ks) (d : Nat) (v : Val) : Int := if valOk ks d v = true then sizeOf' (fun _ => 1) (sizeV d) v else -1
def kindB (ks : Ks) (kind : ByteArray) : Bool := match kindOf kind with | some (m, k) => hasB ks m k | none => false
def cntVal (ks : Ks) (d : Nat) (v : Val) (kind : ByteArray) : Int := if (valOk ks d v && kindB ks kind) = true then sizeOf' (isK kind) (cntV kind d) v else -1

theorem plain_kind {ks : Ks} {kind : ByteArray} {m k : Nat} (h : kindOf kind = some (m, k)) : plainB ks kind = kindB ks kind := by
  have hb : baseB kind = false := by
    cases hb : baseB kind with
    | false => rfl
    | true => rw [kindOf_base hb] at h; cases h
  unfold plainB kindB
  rw [hb, h]; rfl

end Go.Proofs.Ythkdkefkgmmoiaa
