/- The functions that compare, at strings and records: where both sides read as the same, they answer true. -/
import Derived.Test.YthkdkefkgmmoiaaDoorRows
import Derived.Test.YthkdkefkgmmoiaaDoorKit
namespace Go.Proofs.YthkdkefkgmmoiaaDoor
open Go.RowKit

set_option maxHeartbeats 400000 in
theorem eqStringS_any (F : Nat → Prop) (v v' : Value) (xs : List ByteArray) (w : World) (h : Cod.str.Sl F w v xs) (h' : Cod.str.Sl F w v' xs) :
    Calls Tryd.prog 66 #[v, v'] w fun e w' => e = .returned (.bool true) ∧ Below w.heap.size w w' := by
  have HS := Lib.hid h
  have HS' := Lib.hid h'
  obtain ⟨A, cap, rfl, hlc, hcm, _⟩ := h
  obtain ⟨A', cap', rfl, hlc', hcm', _⟩ := h'
  unfold maxLen at hcm hcm'
  go_enter Tryd.func66, Tryd.ntmps66
  go_wp2
  go_loopw [5] (fun i wr => ∃ (k n : Nat), k ≤ xs.length ∧ i = .int .i64 k ∧ wr = w.drewN n) (fun i _ => xs.length - (intOf i).toNat)
  case atStart => exact ⟨0, 0, Nat.zero_le _, rfl, rfl⟩
  case round =>
    obtain ⟨k, n, hk, rfl, rfl⟩ := hrel
    by_cases hlt : k < xs.length
    · obtain ⟨b, off, c1, hv, _, _, _, hc0, hs0⟩ := HS.out.str_at hlt
      obtain ⟨rfl, rfl⟩ : A = some ⟨b, off, none⟩ ∧ cap = c1 := by simpa using hv
      obtain ⟨b', off', c1', hv', _, _, _, hc0', hs0'⟩ := HS'.out.str_at hlt
      obtain ⟨rfl, rfl⟩ : A' = some ⟨b', off', none⟩ ∧ cap' = c1' := by simpa using hv'
      clear hv hv'
      have i0 : (0 : Int) ≤ k := by omega
      have i1 : (k : Int) < xs.length := by omega
      go_wp2
      go_quiet (fail)
      go_wp2
      go_roundw
      case rel => exact ⟨k + 1, _, by omega, by go_num, rfl⟩
      case measure => simp [intOf]; omega
    · go_wp2
      go_ret
      exact ⟨rfl, below_drewN (Below.refl _ _) _⟩

set_option maxHeartbeats 400000 in
theorem eqRecord_any (F : Nat → Prop) (v v' : Value) (r : Rec) (w : World) (h : Cod.str.Sl F w v r.fields) (h' : Cod.str.Sl F w v' r.fields) (hF : ∀ b, F b → b < w.heap.size) :
    Calls Tryd.prog 51 #[.agg #[.int .i64 r.able, v], .agg #[.int .i64 r.able, v']] w fun e w' => e = .returned (.bool true) ∧ Below w.heap.size w w' := by
  have HS := Lib.hid h
  have HS' := Lib.hid h'
  obtain ⟨A, cap, rfl, _⟩ := h
  obtain ⟨A', cap', rfl, _⟩ := h'
  go_enter Tryd.func51, Tryd.ntmps51
  go_wp2_with fail
  refine (eqStringS_any F _ _ r.fields _ (HS.out.keep fun b hb => ?_) (HS'.out.keep fun b hb => ?_)).mono ?_
  · have := hF b hb
    rw [Below.heap_alloc _ _ _ (by simp; omega), Below.heap_alloc _ _ _ (by omega)]
  · have := hF b hb
    rw [Below.heap_alloc _ _ _ (by simp; omega), Below.heap_alloc _ _ _ (by omega)]
  rintro e w1 ⟨rfl, hb⟩
  go_wp2
  go_ret
  exact ⟨rfl, (((Below.refl _ _).alloc (Nat.le_refl _) _).alloc (by simp) _).trans (hb.mono (by simp; omega))⟩

set_option maxRecDepth 100000 in
set_option maxHeartbeats 400000 in
theorem eqRecordS_any (F : Nat → Prop) (v v' : Value) (xs : List Rec) (w : World) (h : Cod.rec_.Sl F w v xs) (h' : Cod.rec_.Sl F w v' xs) (hF : ∀ b, F b → b < w.heap.size) :
    Calls Tryd.prog 36 #[v, v'] w fun e w' => e = .returned (.bool true) ∧ Below w.heap.size w w' := by
  have HS := Lib.hid h
  have HS' := Lib.hid h'
  obtain ⟨A, cap, rfl, hlc, hcm, _⟩ := h
  obtain ⟨A', cap', rfl, hlc', hcm', _⟩ := h'
  unfold maxLen at hcm hcm'
  go_enter Tryd.func36, Tryd.ntmps36
  go_wp2
  go_loopw [5] (fun i wr => ∃ (k : Nat), k ≤ xs.length ∧ i = .int .i64 k ∧ Below w.heap.size w wr) (fun i _ => xs.length - (intOf i).toNat)
  case atStart => exact ⟨0, Nat.zero_le _, rfl, Below.refl _ _⟩
  case round =>
    obtain ⟨k, hk, rfl, hb⟩ := hrel
    by_cases hlt : k < xs.length
    · have HSr := Lib.hid (HS.out.keep (below_keeps hb hF))
      have HSr' := Lib.hid (HS'.out.keep (below_keeps hb hF))
      obtain ⟨b, off, c1, u, hv, _, _, _, hc0, hc1, _, hu⟩ := HSr.out.rec_at hlt
      obtain ⟨rfl, rfl⟩ : A = some ⟨b, off, none⟩ ∧ cap = c1 := by simpa using hv
      obtain ⟨b', off', c1', u', hv', _, _, _, hc0', hc1', _, hu'⟩ := HSr'.out.rec_at hlt
      obtain ⟨rfl, rfl⟩ : A' = some ⟨b', off', none⟩ ∧ cap' = c1' := by simpa using hv'
      have hsz := hb.size
      have Hu := Lib.hid hu
      have Hu' := Lib.hid hu'
      clear hv hv' hu hu'
      have i0 : (0 : Int) ≤ k := by omega
      have i1 : (k : Int) < xs.length := by omega
      go_wp2
      go_still_tail 8, (by kernel_rfl)
      change wpList _ _ _ _ _ wr.drew
      go_wp2_with (go_at_call 51; refine (eqRecord_any F _ _ xs[k] wr.drew (Hu.out.keep fun _ _ => rfl) (Hu'.out.keep fun _ _ => rfl) (fun b hb' => Nat.lt_of_lt_of_le (hF b hb') hsz)).mono ?_; rintro e w1 ⟨rfl, hb1⟩)
      go_roundw
      case rel => exact ⟨k + 1, by omega, by go_num, hb.trans (Below.drew (Below.refl _ _) |>.trans (hb1.mono hsz))⟩
      case measure => simp [intOf]; omega
    · go_wp2
      go_ret
      exact ⟨rfl, hb⟩

end Go.Proofs.YthkdkefkgmmoiaaDoor
