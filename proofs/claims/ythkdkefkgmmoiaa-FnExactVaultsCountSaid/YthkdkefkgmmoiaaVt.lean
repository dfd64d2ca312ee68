/- Values: their texts; the model. -/
import Derived.Test.YthkdkefkgmmoiaaVsp
import Derived.Test.YthkdkefkgmmoiaaSpb
import Derived.Lib.ItoaNum
import Derived.Deep.DeepCutAuto
import Derived.IntWalk
namespace Go.Proofs.Ythkdkefkgmmoiaa
open Go.RowKit

/-- A number in decimal. -/
def decBy (n : Nat) : ByteArray := ⟨(Lib.decDigits n).toArray⟩
theorem decBy_small {n : Nat} (h : n < 10) : decBy n = strOfNums [48 + (n : Int)] := by
  apply ext_toList
  rw [toList_data, toList_data, strOfNums_data]
  unfold decBy
  rw [Lib.decDigits_one h]
  have e : (48 + (n : Int)).toNat = 48 + n := by omega
  simp [e]
theorem decBy_big {n : Nat} (h : ¬ n < 10) : decBy n = decBy (n / 10) ++ strOfNums [48 + (n : Int) % 10] := by
  apply ext_toList
  rw [toList_data, toList_data, ByteArray.data_append, Array.toList_append, strOfNums_data]
  unfold decBy
  rw [Lib.decDigits, dif_neg h]
  have e : (48 + (n : Int) % 10).toNat = 48 + n % 10 := by omega
  simp [e]

/-- How many digits, at most. -/
theorem size_decBy : ∀ (k n : Nat), n < 10 ^ (k + 1) → (decBy n).size ≤ k + 1 := by
  intro k
  induction k with
  | zero => intro n h; rw [decBy_small (by simpa using h), strOfNums_size]; exact Nat.le_refl _
  | succ k ih =>
    intro n h
    by_cases hs : n < 10
    · rw [decBy_small hs, strOfNums_size]; show 1 ≤ _; omega
    · rw [decBy_big hs, ByteArray.size_append, strOfNums_size]
      have := ih (n / 10) (by rw [Nat.pow_succ] at h; omega)
      show _ + 1 ≤ _
      omega

theorem conv_digit {d : Int} (w : World) (b : Nat) (h : w.cell? ⟨b, 0, none⟩ = some (.int .u8 d)) :
    (Go.convert 22 9 (.slice (some ⟨b, 0, none⟩) 1 1)).run Try.prog w = .ok (.string (strOfNums [d])) w :=
  run_convert_bytes_arg (P := Try.prog) w 22 5 Try.underlying22 Try.underlying5 b 0 1 1 [d] rfl
    (fun i hi => by
      match i, hi with
      | 0, _ => exact h) 9 Try.underlying9

set_option maxRecDepth 100000 in
set_option maxHeartbeats 2000000 in
theorem dec_full (n : Nat) : ∀ w : World, n ≤ 1000000000 → Calls Try.prog 108 #[.int .i64 n] w fun e w' => e = .returned (.string (decBy n)) ∧ Below w.heap.size w w' := by
  induction n using Nat.strongRecOn with
  | _ n ih =>
    intro w hn
    by_cases h : n < 10
    · have hcv := conv_digit (d := 48 + (n : Int)) (w.alloc (.cells #[.int .u8 (48 + (n : Int))] 5)) w.heap.size ((Blk.new w 5 #[.int .u8 (48 + (n : Int))]).cell 0)
      have HD := Lib.hid (decBy_small h)
      clear ih
      go_enter Try.func108, Try.ntmps108
      go_wp2
      go_ret
      exact ⟨ret_str HD.out.symm, (Below.refl _ _).alloc (Nat.le_refl _) _⟩
    · have HD := Lib.hid (decBy_big h)
      have hcall : ∀ W : World, Calls Try.prog 108 #[.int .i64 ((n : Int) / 10)] W fun e w' => e = .returned (.string (decBy (n / 10))) ∧ Below W.heap.size W w' := by
        intro W
        rw [show (n : Int) / 10 = ((n / 10 : Nat) : Int) by omega]
        exact ih (n / 10) (by omega) W (by omega)
      have HC := Lib.hid hcall
      have hge : ¬ (n : Int) < 10 := by omega
      have r0 : 0 ≤ (n : Int) % 10 := by omega
      have r1 : (n : Int) % 10 < 10 := by omega
      have r2 : (0 : Int) ≤ n := by omega
      have r3 : (n : Int) ≤ 1000000000 := by omega
      clear ih hcall h hn
      have HW := Lib.hid (show Below w.heap.size w w.drew from Below.drew (Below.refl _ _))
      have HB0 := Lib.hid (show Blk (w.alloc (.cells #[.int .u8 (48 + (n : Int) % 10)] 5)).drew w.heap.size 5 #[.int .u8 (48 + (n : Int) % 10)] from Blk.new w 5 #[.int .u8 (48 + (n : Int) % 10)])
      have hcv0 := conv_digit (d := 48 + (n : Int) % 10) (w.alloc (.cells #[.int .u8 (48 + (n : Int) % 10)] 5)).drew w.heap.size (HB0.out.cell 0)
      have HW1 := Lib.hid (show Below w.heap.size w (w.alloc (.cells #[.int .u8 (48 + (n : Int) % 10)] 5)).drew from ((Below.refl _ _).alloc (Nat.le_refl _) _).drew)
      have hsz := size_decBy 8 (n / 10) (by omega)
      have hss : (strOfNums [48 + (n : Int) % 10]).size ≤ 1 := by rw [strOfNums_size]; exact Nat.le_refl _
      have e1 : IntKind.i64.wrap ((n : Int) / 10) = (n : Int) / 10 := by rw [IntKind.wrap_i64]; omega
      have e2 : (n : Int).tmod 10 = (n : Int) % 10 := Int.tmod_eq_emod_of_nonneg r2
      have e3 : IntKind.i64.wrap (48 + (n : Int) % 10) = 48 + (n : Int) % 10 := by rw [IntKind.wrap_i64]; omega
      have e4 : IntKind.u8.wrap (48 + (n : Int) % 10) = 48 + (n : Int) % 10 := by rw [IntKind.wrap_u8]; omega
      go_enter Try.func108, Try.ntmps108
      go_wp2
      go_region_with ((go_at_call 108; (with_reducible refine (HC.out _).mono ?_); rintro e w1 ⟨rfl, hb1⟩; go_must (have HE := Lib.hid (show Below w.heap.size w w1 from (by first | exact HW.out.trans hb1 | exact HW1.out.trans (hb1.mono (by simp)))); have hcvN := conv_digit (d := 48 + (n : Int) % 10) (w1.alloc (.cells #[.int .u8 (48 + (n : Int) % 10)] 5)) w1.heap.size ((Blk.new w1 5 #[.int .u8 (48 + (n : Int) % 10)]).cell 0); (first | (have hcvM := conv_digit (d := 48 + (n : Int) % 10) w1 w.heap.size ((HB0.out.below hb1 (by simp)).cell 0)) | skip); clear hb1)))
      all_goals
        go_wp2
        go_ret
        exact ⟨ret_str HD.out.symm, by first | exact HE.out | exact HE.out.alloc HE.out.size _⟩
end Go.Proofs.Ythkdkefkgmmoiaa
