/- Whether a number stands in a row: of the model, and slices.Contains. -/
import Derived.Test.YtgfpncpphpkahaaGd
import Derived.Test.YtgfpncpphpkahaaSp
namespace Go.Proofs.Ytgfpncpphpkahaa
open Go.RowKit

theorem drop_at {α : Type} {xs : List α} {k : Nat} (h : k < xs.length) : xs.drop k = xs[k] :: xs.drop (k + 1) := List.drop_eq_getElem_cons h
theorem in_step {xs : List Int} {n : Int} {k : Nat} {b : Bool} (hk : k < xs.length) (h : decide (n ∈ xs.drop k) = b) (hne : ¬ xs[k] = n) : decide (n ∈ xs.drop (k + 1)) = b := by
  rw [← h, Bool.eq_iff_iff, decide_eq_true_eq, decide_eq_true_eq, drop_at hk, List.mem_cons]
  exact ⟨Or.inr, fun h1 => h1.resolve_left fun h2 => hne h2.symm⟩
theorem in_here {xs : List Int} {n : Int} {k : Nat} {b : Bool} (hk : k < xs.length) (h : decide (n ∈ xs.drop k) = b) (he : xs[k] = n) : b = true := by
  rw [← h, decide_eq_true_eq, drop_at hk, List.mem_cons]
  exact Or.inl he.symm
theorem in_end {xs : List Int} {n : Int} {k : Nat} {b : Bool} (hk : ¬ k < xs.length) (h : decide (n ∈ xs.drop k) = b) : b = false := by
  rw [← h, List.drop_eq_nil_of_le (by omega)]
  simp


set_option maxHeartbeats 1000000 in
theorem l4In_any (F : Nat → Prop) (v : Value) (xs : List Int) (n : Int) (w : World) (h : Cod.i64.Sl F w v xs) :
    Calls Try.prog 19 #[v, .int .i64 n] w fun e w' => e = .returned (.bool (decide (n ∈ xs))) ∧ w' = w := by
  have HS := Lib.hid h
  obtain ⟨A, cap, rfl, hlc, hcm, _⟩ := h
  unfold maxLen at hcm
  have H0 := Lib.hid (show decide (n ∈ xs.drop 0) = decide (n ∈ xs) by rw [List.drop_zero])
  go_enter Try.func19, Try.ntmps19
  go_wp2
  go_loopw [5] (fun i wr => ∃ (k : Nat), k ≤ xs.length ∧ i = .int .i64 k ∧ Hid (decide (n ∈ xs.drop k) = decide (n ∈ xs)) ∧ wr = w) (fun i _ => xs.length - (intOf i).toNat)
  case atStart => exact ⟨0, Nat.zero_le _, rfl, H0, rfl⟩
  case round =>
    obtain ⟨k, hk, rfl, HI, rfl⟩ := hrel
    by_cases hlt : k < xs.length
    · obtain ⟨b, off, c1, hv, _, _, _, hc0, _⟩ := HS.out.i64_at hlt
      obtain ⟨rfl, rfl⟩ : A = some ⟨b, off, none⟩ ∧ cap = c1 := by simpa using hv
      have i0 : (0 : Int) ≤ k := by omega
      have i1 : (k : Int) < xs.length := by omega
      by_cases he : xs[k] = n
      · have HB := Lib.hid (in_here hlt HI.out he)
        have t1 : (xs[k] == n) = true := by rw [he]; simp
        clear hv he
        go_wp2
        go_ret
        exact ⟨ret_bool HB.out.symm, rfl⟩
      · have HN := Lib.hid (in_step hlt HI.out he)
        have t1 : (xs[k] == n) = false := by simp [he]
        clear hv he
        go_wp2
        go_roundw
        case rel => exact ⟨k + 1, by omega, by go_num, HN, by first | rfl | trivial⟩
        case measure => simp [intOf]; omega
    · have HB := Lib.hid (in_end hlt HI.out)
      go_wp2
      go_ret
      exact ⟨ret_bool HB.out.symm, rfl⟩

set_option maxHeartbeats 1000000 in
theorem index_any (F : Nat → Prop) (v : Value) (xs : List Int) (n : Int) (w : World) (h : Cod.i64.Sl F w v xs) :
    Calls Try.prog 30 #[v, .int .i64 n] w fun e w' => (∃ r : Int, e = .returned (.int .i64 r) ∧ I64 r ∧ decide (0 ≤ r) = decide (n ∈ xs)) ∧ w' = w := by
  have HS := Lib.hid h
  obtain ⟨A, cap, rfl, hlc, hcm, _⟩ := h
  unfold maxLen at hcm
  have H0 := Lib.hid (show decide (n ∈ xs.drop 0) = decide (n ∈ xs) by rw [List.drop_zero])
  go_enter Try.func30, Try.ntmps30
  go_wp2
  go_loopw [8] (fun i wr => ∃ (k : Nat), k ≤ xs.length ∧ i = .int .i64 k ∧ Hid (decide (n ∈ xs.drop k) = decide (n ∈ xs)) ∧ wr = w) (fun i _ => xs.length - (intOf i).toNat)
  case atStart => exact ⟨0, Nat.zero_le _, rfl, H0, rfl⟩
  case round =>
    obtain ⟨k, hk, rfl, HI, rfl⟩ := hrel
    by_cases hlt : k < xs.length
    · obtain ⟨b, off, c1, hv, _, _, _, hc0, _⟩ := HS.out.i64_at hlt
      obtain ⟨rfl, rfl⟩ : A = some ⟨b, off, none⟩ ∧ cap = c1 := by simpa using hv
      have i0 : (0 : Int) ≤ k := by omega
      have i1 : (k : Int) < xs.length := by omega
      by_cases he : xs[k] = n
      · have HB := Lib.hid (in_here hlt HI.out he)
        have t1 : (n == xs[k]) = true := by rw [he]; simp
        clear hv he
        go_wp2
        go_ret
        exact ⟨⟨(k : Int), rfl, by unfold I64; omega, by rw [HB.out]; simp⟩, rfl⟩
      · have HN := Lib.hid (in_step hlt HI.out he)
        have t1 : (n == xs[k]) = false := by simp [Ne.symm he]
        clear hv he
        go_wp2
        go_roundw
        case rel => exact ⟨k + 1, by omega, by go_num, HN, by first | rfl | trivial⟩
        case measure => simp [intOf]; omega
    · have HB := Lib.hid (in_end hlt HI.out)
      go_wp2
      go_ret
      exact ⟨⟨-1, rfl, by unfold I64; omega, by rw [HB.out]; simp⟩, rfl⟩

theorem contains_any (F : Nat → Prop) (v : Value) (xs : List Int) (n : Int) (w : World) (h : Cod.i64.Sl F w v xs) :
    Calls Try.prog 24 #[v, .int .i64 n] w fun e w' => e = .returned (.bool (decide (n ∈ xs))) ∧ w' = w := by
  have HC := Lib.hid (index_any F v xs n w h)
  obtain ⟨A, cap, rfl, hlc, hcm, _⟩ := h
  go_enter Try.func24, Try.ntmps24
  go_wp2_with fail
  refine HC.out.mono ?_
  rintro e w' ⟨⟨r, rfl, h1, h2⟩, rfl⟩
  have HR := Lib.hid h2
  clear h2
  go_wp2
  go_ret
  exact ⟨ret_bool HR.out, rfl⟩
end Go.Proofs.Ytgfpncpphpkahaa
