/- Marks: the text of a mark; rows of a call's own, told by an interval of blocks; texts and numbers marked and held. -/
import Derived.Test.YtgfpncpphpkahaaVt
import Derived.Test.YtgfpncpphpkahaaTo
namespace Go.Proofs.Ytgfpncpphpkahaa
open Go.RowKit

/-- The text of a mark. -/
def mt (k : Nat) : ByteArray := ⟨#[109]⟩ ++ decBy k
def mtLeft (m : Nat) (acc : ByteArray) : ByteArray := if m = 0 then acc else decBy m ++ acc
theorem mtLeft_step {m : Nat} (hm : 0 < m) (acc : ByteArray) : mtLeft (m / 10) (strOfNums [48 + (m : Int) % 10] ++ acc) = mtLeft m acc := by
  unfold mtLeft
  rw [if_neg (show ¬ m = 0 by omega)]
  by_cases h : m < 10
  · rw [if_pos (by omega), decBy_small h]
    congr 3
    omega
  · rw [if_neg (by omega), decBy_big h, ByteArray.append_assoc]
theorem mtLeft_size (m : Nat) (acc : ByteArray) : acc.size ≤ (mtLeft m acc).size := by
  unfold mtLeft
  split
  · exact Nat.le_refl _
  · rw [ByteArray.size_append]; omega

end Go.Proofs.Ytgfpncpphpkahaa
