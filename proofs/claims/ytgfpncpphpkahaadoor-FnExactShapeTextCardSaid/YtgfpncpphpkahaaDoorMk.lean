/- Marks: the text of a mark; rows of a call's own, told by an interval of blocks; texts and numbers marked and held. -/
import Derived.Test.YtgfpncpphpkahaaDoorVt
import Derived.Test.YtgfpncpphpkahaaDoorTo
namespace Go.Proofs.YtgfpncpphpkahaaDoor
open Go.RowKit

/-- The text of a mark. -/
def mt (k : Nat) : ByteArray := ⟨#[109]⟩ ++ decBy k
def mtLeft (m : Nat) (acc : ByteArray) : ByteArray := if m = 0 then acc else decBy m ++ acc
theorem mtLeft_step {m : Nat} (hm : 0 < m) (acc : ByteArray) : mtLeft (m / 10) (strOfNums [48 + (m : Int) % 10] ++ acc) = mtLeft m acc := by
  unfold mtLeft
  rw [if_neg (show ¬ m = 0 by omega)]
  by_cases h : m < 10
  · rw [if_pos (by omega), decBy_small h]
    congr 3
    omega
  · rw [if_neg (by omega), decBy_big h, ByteArray.append_assoc]
theorem mtLeft_size (m : Nat) (acc : ByteArray) : acc.size ≤ (mtLeft m acc).size := by
  unfold mtLeft
  split
  · exact Nat.le_refl _
  · rw [ByteArray.size_append]; omega

set_option maxRecDepth 100000 in
set_option maxHeartbeats 1000000 in
theorem markText_any (k : Nat) (w : World) (h0 : 0 < k) (h1 : k ≤ 100000000) : Calls Tryd.prog 72 #[.int .i64 k] w fun e w' => e = .returned (.string (mt k)) ∧ Below w.heap.size w w' := by
  have HQ := Lib.hid (show mtLeft k ByteArray.empty = decBy k by unfold mtLeft; rw [if_neg (by omega)]; exact ByteArray.append_empty)
  have hs := size_decBy 8 k (by omega)
  go_enter Tryd.func72, Tryd.ntmps72
  go_wp2
  go_loopw [0, 3] (fun i s wr => ∃ (m : Nat) (acc : ByteArray), m ≤ k ∧ i = .int .i64 m ∧ s = .string acc ∧ acc.size ≤ 10 ∧ Hid (mtLeft m acc = decBy k) ∧ Hid (Below w.heap.size w wr)) (fun i _ _ => (intOf i).toNat)
  case atStart => exact ⟨k, _, Nat.le_refl _, rfl, rfl, by decide, HQ, Below.refl _ _⟩
  case round =>
    obtain ⟨m, acc, hm, rfl, rfl, ha, HM, HB⟩ := hrel
    by_cases hp : 0 < m
    · have HM2 := Lib.hid ((mtLeft_step hp acc).trans HM.out)
      have hsz : (strOfNums [48 + (m : Int) % 10] ++ acc : ByteArray).size ≤ 10 := by
        have := mtLeft_size (m / 10) (strOfNums [48 + (m : Int) % 10] ++ acc)
        rw [HM2.out] at this
        omega
      have hcv := conv_digit (d := 48 + (m : Int) % 10) (wr.alloc (.cells #[.int .u8 (48 + (m : Int) % 10)] 5)) wr.heap.size ((Blk.new wr 5 #[.int .u8 (48 + (m : Int) % 10)]).cell 0)
      have hss : (strOfNums [48 + (m : Int) % 10]).size ≤ 1 := by rw [strOfNums_size]; exact Nat.le_refl _
      have e1 : IntKind.i64.wrap ((m : Int) / 10) = (m : Int) / 10 := by rw [IntKind.wrap_i64]; omega
      have e2 : (m : Int).tmod 10 = (m : Int) % 10 := Int.tmod_eq_emod_of_nonneg (by omega)
      have e3 : IntKind.i64.wrap (48 + (m : Int) % 10) = 48 + (m : Int) % 10 := by rw [IntKind.wrap_i64]; omega
      have e4 : IntKind.u8.wrap (48 + (m : Int) % 10) = 48 + (m : Int) % 10 := by rw [IntKind.wrap_u8]; omega
      have r0 : 0 ≤ (m : Int) % 10 := by omega
      have r1 : (m : Int) % 10 < 10 := by omega
      have i0 : (0 : Int) < m := by omega
      have HB2 := Lib.hid (HB.out.alloc HB.out.size (.cells #[.int .u8 (48 + (m : Int) % 10)] 5))
      go_wp2
      go_roundw
      case rel => exact ⟨m / 10, _, by omega, by go_num, rfl, hsz, HM2, HB2⟩
      case measure => simp [intOf]; omega
    · obtain rfl : m = 0 := by omega
      have HE := Lib.hid (show mt k = ⟨#[109]⟩ ++ acc by unfold mt; rw [← HM.out]; rfl)
      go_wp2
      go_ret
      exact ⟨ret_str HE.out.symm, HB.out⟩
end Go.Proofs.YtgfpncpphpkahaaDoor
