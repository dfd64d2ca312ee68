/- Values: their texts; the model. -/
import Derived.Test.YthkdkefkgmmoiaaDoorVsp
import Derived.Test.YthkdkefkgmmoiaaDoorSpb
import Derived.Lib.ItoaNum
import Derived.Deep.DeepCutAuto
import Derived.IntWalk
namespace Go.Proofs.YthkdkefkgmmoiaaDoor
open Go.RowKit

/-- A number in decimal. -/
def decBy (n : Nat) : ByteArray := ⟨(Lib.decDigits n).toArray⟩
theorem decBy_small {n : Nat} (h : n < 10) : decBy n = strOfNums [48 + (n : Int)] := by
  apply ext_toList
  rw [toList_data, toList_data, strOfNums_data]
  unfold decBy
  rw [Lib.decDigits_one h]
  have e : (48 + (n : Int)).toNat = 48 + n := by omega
  simp [e]
theorem decBy_big {n : Nat} (h : ¬ n < 10) : decBy n = decBy (n / 10) ++ strOfNums [48 + (n : Int) % 10] := by
  apply ext_toList
  rw [toList_data, toList_data, ByteArray.data_append, Array.toList_append, strOfNums_data]
  unfold decBy
  rw [Lib.decDigits, dif_neg h]
  have e : (48 + (n : Int) % 10).toNat = 48 + n % 10 := by omega
  simp [e]

/-- How many digits, at most. -/
theorem size_decBy : ∀ (k n : Nat), n < 10 ^ (k + 1) → (decBy n).size ≤ k + 1 := by
  intro k
  induction k with
  | zero => intro n h; rw [decBy_small (by simpa using h), strOfNums_size]; exact Nat.le_refl _
  | succ k ih =>
    intro n h
    by_cases hs : n < 10
    · rw [decBy_small hs, strOfNums_size]; show 1 ≤ _; omega
    · rw [decBy_big hs, ByteArray.size_append, strOfNums_size]
      have := ih (n / 10) (by rw [Nat.pow_succ] at h; omega)
      show _ + 1 ≤ _
      omega

theorem conv_digit {d : Int} (w : World) (b : Nat) (h : w.cell? ⟨b, 0, none⟩ = some (.int .u8 d)) :
    (Go.convert 106 9 (.slice (some ⟨b, 0, none⟩) 1 1)).run Tryd.prog w = .ok (.string (strOfNums [d])) w :=
  run_convert_bytes_arg (P := Tryd.prog) w 106 5 Tryd.underlying106 Tryd.underlying5 b 0 1 1 [d] rfl
    (fun i hi => by
      match i, hi with
      | 0, _ => exact h) 9 Tryd.underlying9

end Go.Proofs.YthkdkefkgmmoiaaDoor
