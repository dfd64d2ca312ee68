/- The program's reader of values: texts skipped. -/
import Derived.Test.YtelhjdccfomafaaDoorRk
namespace Go.Proofs.YtelhjdccfomafaaDoor
open Go.RowKit

/-- A text skipped, or not. -/
def SkipTD (rb tb : Nat) (s : ByteArray) (i : Nat) (t : ByteArray) (w : World) (e : Ending) (w' : World) : Prop :=
  Wrote rb (rb + 1) w w' ∧ ∃ i', i' ≤ s.size ∧ RdB rb tb s i' w' ∧
    ((e = .returned (.bool true) ∧ tl s i = t.data.toList ++ tl s i') ∨ (e = .returned (.bool false) ∧ ∀ r, tl s i ≠ t.data.toList ++ r))

theorem take_byte {t : ByteArray} {j : Nat} (h : j < t.size) : t.data.toList.take (j + 1) = t.data.toList.take j ++ [t[j]'h] := by
  have h1 : t.data.toList[j]? = some (t[j]'h) := by rw [← toList_data]; exact get_toList t j h
  rw [List.take_add_one, h1]; rfl
theorem drop_byte {t : ByteArray} {j : Nat} (h : j < t.size) : t.data.toList.drop j = (t[j]'h) :: t.data.toList.drop (j + 1) := tl_cons h
theorem ofNat_toNat (c : UInt8) : UInt8.ofNat c.toNat = c := by
  apply UInt8.toNat_inj.1
  rw [UInt8.toNat_ofNat']
  have := c.toNat_lt
  omega

set_option maxRecDepth 100000 in
set_option maxHeartbeats 1000000 in
theorem skipText_any (rb tb i : Nat) (s t : ByteArray) (w : World) (h : RdB rb tb s i w) (hi : i ≤ s.size) (hs : s.size ≤ 2000000) (ht : t.size ≤ 3) (hz : ∀ j (hj : j < t.size), 0 < (t[j]'hj).toNat) :
    Calls Tryd.prog 56 #[.pointer (some ⟨rb, 0, none⟩), .string t] w (SkipTD rb tb s i t w) := by
  have HR0 := Lib.hid h
  have Hz := Lib.hid hz
  have hrl := h.lt
  clear h hz
  go_enter Tryd.func56, Tryd.ntmps56
  go_wp2
  go_loopw [8] (fun k wr => ∃ j : Nat, j ≤ t.size ∧ i + j ≤ s.size ∧ k = .int .i64 (j : Int) ∧ Hid (tl s i = t.data.toList.take j ++ tl s (i + j)) ∧ Hid (RdB rb tb s (i + j) wr) ∧ Hid (Wrote rb (rb + 1) w wr)) (fun k _ => t.size - (intOf k).toNat)
  case atStart => exact ⟨0, Nat.zero_le _, hi, rfl, rfl, HR0, Wrote.refl _ _ _⟩
  case round =>
    obtain ⟨j, hj, hij, rfl, HT, HR, HW⟩ := hrel
    by_cases hlt : j < t.size
    · have HP := Lib.hid (skip_any rb tb (i + j) (t[j]'hlt).toNat s wr HR.out hij hs (t[j]'hlt).toNat_lt)
      have i0 : (0 : Int) ≤ j := by omega
      have i1 : (j : Int) < t.size := by omega
      go_wp2_with fail
      refine HP.out.mono ?_
      rintro e w1 ⟨hW, hh⟩
      have HW1 := Lib.hid (HW.out.trans hW)
      rcases hh with ⟨hc, rfl, hR⟩ | ⟨hc, rfl, hR⟩
      · obtain ⟨hl, hb0, htl⟩ := atB_hit (Hz.out j hlt) hc
        have HR1 := Lib.hid (show RdB rb tb s (i + (j + 1)) w1 from hR)
        have HT1 := Lib.hid (show tl s i = t.data.toList.take (j + 1) ++ tl s (i + (j + 1)) by
          rw [HT.out, htl, ofNat_toNat, take_byte hlt, List.append_assoc]; rfl)
        clear hb0 htl hc hR hW
        go_wp2
        go_roundw
        case rel => exact ⟨j + 1, by omega, by omega, by go_num, HT1, HR1, HW1⟩
        case measure => simp [intOf]; omega
      · have HQ := Lib.hid (show SkipTD rb tb s i t w (.returned (.bool false)) w1 from ⟨HW1.out, i + j, hij, hR, .inr ⟨rfl, fun r e => by
          rw [HT.out] at e
          have e3 : t.data.toList ++ r = t.data.toList.take j ++ (t.data.toList.drop j ++ r) := by rw [← List.append_assoc, List.take_append_drop]
          rw [e3] at e
          have e2 : tl s (i + j) = t.data.toList.drop j ++ r := List.append_cancel_left e
          rw [drop_byte hlt] at e2
          have := atB_miss (t[j]'hlt).toNat_lt hc (t.data.toList.drop (j + 1) ++ r)
          rw [ofNat_toNat] at this
          exact this e2⟩⟩)
        clear hc hR hW
        go_wp2
        go_ret
        exact HQ.out
    · obtain rfl : j = t.size := by omega
      have HQ := Lib.hid (show SkipTD rb tb s i t w (.returned (.bool true)) wr from ⟨HW.out, i + t.size, hij, HR.out, .inl ⟨rfl, by
        have := HT.out
        rwa [List.take_of_length_le (by rw [Array.length_toList]; exact Nat.le_refl _)] at this⟩⟩)
      go_wp2
      go_ret
      exact HQ.out
end Go.Proofs.YtelhjdccfomafaaDoor
