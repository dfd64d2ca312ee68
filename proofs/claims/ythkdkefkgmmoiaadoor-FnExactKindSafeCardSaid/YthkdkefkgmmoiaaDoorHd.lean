/- Numbers that ascend within bounds, of the program. -/
import Derived.Test.YthkdkefkgmmoiaaDoorHc
import Derived.Test.YthkdkefkgmmoiaaDoorHa
namespace Go.Proofs.YthkdkefkgmmoiaaDoor
open Go.RowKit

/-- Ascending: as the program asks it. -/
def riseF (hi : Int) : Int → List Int → Bool
  | _, [] => true
  | lo, n :: r => decide (lo ≤ n) && decide (n < hi) && riseF hi (n + 1) r
theorem riseP_some {lo hi : Int} : ∀ (xs : List Int) (q : Int), lo ≤ q + 1 → riseP lo (hi - 1) (some q) xs = riseF hi (q + 1) xs
  | [], _, _ => rfl
  | n :: r, q, h => by
    simp only [riseP, riseF]
    by_cases h1 : q + 1 ≤ n ∧ n < hi
    · rw [riseP_some r n (by omega)]
      congr 1
      rw [Bool.eq_iff_iff]; simp; omega
    · have e1 : (decide (lo ≤ n) && decide (n ≤ hi - 1) && decide (q < n)) = false := by
        rw [Bool.eq_false_iff]; simp; omega
      have e2 : (decide (q + 1 ≤ n) && decide (n < hi)) = false := by simpa using h1
      rw [e1, e2]; rfl
theorem riseP_none {lo hi : Int} (xs : List Int) : riseP lo (hi - 1) none xs = riseF hi lo xs := by
  cases xs with
  | nil => rfl
  | cons n r =>
    simp only [riseP, riseF]
    by_cases h1 : lo ≤ n ∧ n < hi
    · rw [riseP_some r n (by omega), Bool.and_true]
      congr 1
      rw [Bool.eq_iff_iff]; simp; omega
    · have e1 : (decide (lo ≤ n) && decide (n ≤ hi - 1)) = false := by rw [Bool.eq_false_iff]; simp; omega
      have e2 : (decide (lo ≤ n) && decide (n < hi)) = false := by simpa using h1
      rw [e1, e2]; rfl

set_option maxRecDepth 100000 in
set_option maxHeartbeats 2000000 in
theorem ascendingWithin_any (F : Nat → Prop) (v : Value) (xs : List Int) (lo hi : Int) (w : World) (h : Cod.i64.Sl F w v xs) (hhi : hi ≤ 9223372036854775807) (hlo : -9223372036854775807 ≤ lo) :
    Calls Tryd.prog 34 #[v, .int .i64 lo, .int .i64 hi] w fun e w' => e = .returned (.bool (riseF hi lo xs)) ∧ w = w' := by
  have HS := Lib.hid h
  obtain ⟨A, cap, rfl, hlc, hcm, _⟩ := h
  unfold maxLen at hcm
  have H0 := Lib.hid (show riseF hi lo (xs.drop 0) = riseF hi lo xs from rfl)
  go_enter Tryd.func34, Tryd.ntmps34
  go_wp2
  go_loopw [1, 11] (fun l i wr => ∃ (k : Nat) (q : Int), k ≤ xs.length ∧ i = .int .i64 k ∧ l = .int .i64 q ∧ -9223372036854775807 ≤ q ∧ Hid (riseF hi q (xs.drop k) = riseF hi lo xs) ∧ w = wr) (fun _ i _ => xs.length - (intOf i).toNat)
  case atStart => exact ⟨0, lo, Nat.zero_le _, rfl, rfl, hlo, H0, rfl⟩
  case round =>
    obtain ⟨k, q, hk, rfl, rfl, hq, HI, hwr⟩ := hrel
    subst hwr
    by_cases hlt : k < xs.length
    · obtain ⟨b, off, c1, hv, _, _, _, hc0, _⟩ := HS.out.i64_at hlt
      obtain ⟨rfl, rfl⟩ : A = some ⟨b, off, none⟩ ∧ cap = c1 := by simpa using hv
      have i0 : (0 : Int) ≤ k := by omega
      have i1 : (k : Int) < xs.length := by omega
      have hI := HI.out
      rw [drop_at hlt] at hI
      simp only [riseF] at hI
      generalize xs[k] = x at *
      by_cases h1 : x < q
      · have HR := Lib.hid (show false = riseF hi lo xs by rw [← hI, decide_eq_false (show ¬ q ≤ x by omega)]; rfl)
        clear hI hv
        go_wp2
        go_ret
        exact ⟨ret_bool HR.out, rfl⟩
      · by_cases h2 : hi ≤ x
        · have HR := Lib.hid (show false = riseF hi lo xs by rw [← hI, decide_eq_false (show ¬ x < hi by omega), Bool.and_false]; rfl)
          clear hI hv
          go_wp2
          go_ret
          exact ⟨ret_bool HR.out, rfl⟩
        · have HR := Lib.hid (show riseF hi (x + 1) (xs.drop (k + 1)) = riseF hi lo xs by rw [← hI, decide_eq_true (show q ≤ x by omega), decide_eq_true (show x < hi by omega)]; rfl)
          have i2 : x + 1 ≤ 9223372036854775807 := by omega
          have i3 : -9223372036854775808 ≤ x + 1 := by omega
          clear hI hv
          go_wp2
          go_roundw
          case rel => exact ⟨k + 1, x + 1, by omega, by go_num, rfl, by omega, HR, trivial⟩
          case measure => simp [intOf]; omega
    · have HR := Lib.hid (show true = riseF hi lo xs by rw [← HI.out, List.drop_eq_nil_of_le (by omega)]; rfl)
      go_wp2
      go_ret
      exact ⟨ret_bool HR.out, rfl⟩
end Go.Proofs.YthkdkefkgmmoiaaDoor
