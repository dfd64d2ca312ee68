/- The functions that compare, at values: where both sides read as the same, they answer true. -/
import Derived.Test.YtgfpncpphpkahaaDoorEq
import Derived.Test.YtgfpncpphpkahaaDoorVsz
namespace Go.Proofs.YtgfpncpphpkahaaDoor
open Go.RowKit

set_option maxHeartbeats 400000 in
theorem eqIntS_any (F : Nat → Prop) (v v' : Value) (xs : List Int) (w : World) (h : Cod.i64.Sl F w v xs) (h' : Cod.i64.Sl F w v' xs) :
    Calls Tryd.prog 69 #[v, v'] w fun e w' => e = .returned (.bool true) ∧ Below w.heap.size w w' := by
  have HS := Lib.hid h
  have HS' := Lib.hid h'
  obtain ⟨A, cap, rfl, hlc, hcm, _⟩ := h
  obtain ⟨A', cap', rfl, hlc', hcm', _⟩ := h'
  unfold maxLen at hcm hcm'
  go_enter Tryd.func69, Tryd.ntmps69
  go_wp2
  go_loopw [5] (fun i wr => ∃ (k n : Nat), k ≤ xs.length ∧ i = .int .i64 k ∧ wr = w.drewN n) (fun i _ => xs.length - (intOf i).toNat)
  case atStart => exact ⟨0, 0, Nat.zero_le _, rfl, rfl⟩
  case round =>
    obtain ⟨k, n, hk, rfl, rfl⟩ := hrel
    by_cases hlt : k < xs.length
    · obtain ⟨b, off, c1, hv, _, _, _, hc0, _⟩ := HS.out.i64_at hlt
      obtain ⟨rfl, rfl⟩ : A = some ⟨b, off, none⟩ ∧ cap = c1 := by simpa using hv
      obtain ⟨b', off', c1', hv', _, _, _, hc0', _⟩ := HS'.out.i64_at hlt
      obtain ⟨rfl, rfl⟩ : A' = some ⟨b', off', none⟩ ∧ cap' = c1' := by simpa using hv'
      clear hv hv'
      have i0 : (0 : Int) ≤ k := by omega
      have i1 : (k : Int) < xs.length := by omega
      generalize xs[k] = x at hc0 hc0'
      go_wp2
      go_quiet (fail)
      go_wp2
      go_roundw
      case rel => exact ⟨k + 1, _, by omega, by go_num, rfl⟩
      case measure => simp [intOf]; omega
    · go_wp2
      go_ret
      exact ⟨rfl, below_drewN (Below.refl _ _) _⟩

end Go.Proofs.YtgfpncpphpkahaaDoor
