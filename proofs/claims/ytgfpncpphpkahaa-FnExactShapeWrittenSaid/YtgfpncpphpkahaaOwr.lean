/- Kinds of a call's own: marked. -/
import Derived.Test.YtgfpncpphpkahaaOwp
namespace Go.Proofs.Ytgfpncpphpkahaa
open Go.RowKit

def mkR (r : Rec) (k : Nat) : Rec × Nat := (⟨(k : Int), (markL mkS r.fields (k + 1)).1⟩, (markL mkS r.fields (k + 1)).2)
def mkRS (rs : List Rec) (k : Nat) : List Rec × Nat := markL mkR rs k
theorem mkS_le (x : ByteArray) (k : Nat) : k ≤ (mkS x k).2 := Nat.le_succ k
theorem mkR_le (x : Rec) (k : Nat) : k ≤ (mkR x k).2 := by have := markL_le mkS_le x.fields (k + 1); show k ≤ (markL mkS x.fields (k + 1)).2; omega
theorem mkRS_le (x : List Rec) (k : Nat) : k ≤ (mkRS x k).2 := markL_le mkR_le x k

end Go.Proofs.Ytgfpncpphpkahaa
