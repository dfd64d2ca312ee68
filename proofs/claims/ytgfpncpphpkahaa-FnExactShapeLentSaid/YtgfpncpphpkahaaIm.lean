/- The program's types: the small functions. -/
import Derived.Test.YtgfpncpphpkahaaSpb
import Derived.Test.YtgfpncpphpkahaaMap
namespace Go.Proofs.Ytgfpncpphpkahaa
open Go.RowKit

/-- The name of a kind. -/
def nameB (m k : Nat) : ByteArray := strOfNums [83, 48 + (m : Int), 48 + (k : Int)]

def needOf (able : Int) : Int := if (bits .and .i64 able 12 != 0) = true then bits .or .i64 (bits .and .i64 able 3) 4 else bits .and .i64 able 3

def signB (t : ByteArray) : ByteArray := if refB t then t.extract 0 1 else ByteArray.empty

theorem ret_ss {a b a' b' : ByteArray} (ha : a = a') (hb : b = b') : Ending.returned (.tuple #[.string a, .string b]) = .returned (.tuple #[.string a', .string b']) := by rw [ha, hb]
theorem empty_of_size {t : ByteArray} (h : t.size = 0) : t = ByteArray.empty := by
  apply ext_toList
  have : t.toList.length = 0 := by rw [length_toList, h]
  rw [List.eq_nil_of_length_eq_zero this, toList_data]; rfl

set_option maxHeartbeats 400000 in
theorem splitSign_any (t : ByteArray) (w : World) (hs : t.size ≤ maxLen) :
    Calls Try.prog 22 #[.string t] w fun e w' => e = .returned (.tuple #[.string (signB t), .string (ofT t)]) ∧ ∃ n, w' = w.drewN n := by
  unfold maxLen at hs
  by_cases h0 : 0 < t.size
  · have he : t.toList.isEmpty = false := by
      rw [List.isEmpty_eq_false_iff]
      intro h
      have := length_toList t
      rw [h] at this
      simp at this
      omega
    cases h1 : ((t[0].toNat : Int) == 38)
    · cases h2 : ((t[0].toNat : Int) == 33)
      · have HR : Hid (signB t = ByteArray.empty ∧ ofT t = t) := by
          have hr : refB t = false := by unfold refB; rw [dif_pos h0, h1, h2]; rfl
          show _ ∧ _; unfold signB ofT; rw [hr]; exact ⟨rfl, rfl⟩
        go_enter Try.func22, Try.ntmps22
        go_wp2
        go_ret2
        exact ⟨ret_ss HR.out.1.symm HR.out.2.symm, 0, rfl⟩
      · have HR : Hid (signB t = t.extract 0 1 ∧ ofT t = t.extract 1 t.size) := by
          have hr : refB t = true := by unfold refB; rw [dif_pos h0, h1, h2]; rfl
          show _ ∧ _; unfold signB ofT; rw [hr]; exact ⟨rfl, rfl⟩
        go_enter Try.func22, Try.ntmps22
        go_wp2
        go_quiet (fail)
        go_wp2
        go_ret2
        exact ⟨ret_ss HR.out.1.symm HR.out.2.symm, _, rfl⟩
    · have HR : Hid (signB t = t.extract 0 1 ∧ ofT t = t.extract 1 t.size) := by
        have hr : refB t = true := by unfold refB; rw [dif_pos h0, h1]; rfl
        show _ ∧ _; unfold signB ofT; rw [hr]; exact ⟨rfl, rfl⟩
      go_enter Try.func22, Try.ntmps22
      go_wp2
      go_quiet (fail)
      go_wp2
      go_ret2
      exact ⟨ret_ss HR.out.1.symm HR.out.2.symm, _, rfl⟩
  · obtain rfl : t = ByteArray.empty := empty_of_size (by omega)
    go_enter Try.func22, Try.ntmps22
    go_wp2
    go_ret2
    exact ⟨rfl, 0, rfl⟩

/-- A record as an element of a map: of it the abilities alone are told. -/
def RecV (v : Value) (r : Rec) : Prop := ∃ A n c, v = .agg #[.int .i64 r.able, .slice A n c]
def firstIs (t : ByteArray) (c : Int) : Bool := if h : 0 < t.size then (t[0].toNat : Int) == c else false
def plainL (l : List (ByteArray × Rec)) (t : ByteArray) : Int :=
  if baseB t then 7 else if firstIs t 83 then (match look l t with | some r => r.able | none => -1) else -1

theorem base_size {t : ByteArray} (h : baseB t = true) : t.size = 1 := by
  rw [← length_toList]
  rcases base_cases h with h | h | h <;> rw [h] <;> rfl
theorem base_of {t : ByteArray} (h1 : t.size = 1) {c : UInt8} (hc : t[0]'(by omega) = c) (h : c = 110 ∨ c = 98 ∨ c = 111) : baseB t = true := by
  have hl : t.toList = [c] := by
    have hg := get_toList t 0 (by omega)
    have hn : t.toList.length = 1 := by rw [length_toList, h1]
    match hm : t.toList, hn with
    | [a], _ =>
      rw [hm] at hg
      simp at hg
      rw [hg, hc]
  unfold baseB
  rw [hl]
  rcases h with rfl | rfl | rfl <;> rfl
theorem base_first {t : ByteArray} (h : baseB t = true) : firstIs t 110 = true ∨ firstIs t 98 = true ∨ firstIs t 111 = true := by
  have h1 := base_size h
  have h0 : 0 < t.size := by omega
  have hg := get_toList t 0 h0
  unfold firstIs
  rw [dif_pos h0, dif_pos h0, dif_pos h0]
  rcases base_cases h with h | h | h <;> rw [h] at hg <;> simp at hg <;> rw [← hg] <;> simp
theorem byte_of {c : UInt8} {n : Nat} (h : ((c.toNat : Int) == (n : Int)) = true) : c.toNat = n := by
  have := beq_iff_eq.1 h
  omega
theorem plainL_7 {l : List (ByteArray × Rec)} {t : ByteArray} (h : baseB t = true) : plainL l t = 7 := by unfold plainL; rw [h]; rfl
theorem plainL_no {l : List (ByteArray × Rec)} {t : ByteArray} (h : baseB t = false) (h2 : firstIs t 83 = false) : plainL l t = -1 := by unfold plainL; rw [h, h2]; rfl
theorem base_not {t : ByteArray} (h : t.size ≠ 1) : baseB t = false := by
  cases hb : baseB t with
  | false => rfl
  | true => exact absurd (base_size hb) h
theorem isEmpty_pos {t : ByteArray} (h0 : 0 < t.size) : t.toList.isEmpty = false := by
  rw [List.isEmpty_eq_false_iff]
  intro h
  have := length_toList t
  rw [h] at this
  simp at this
  omega

end Go.Proofs.Ytgfpncpphpkahaa
