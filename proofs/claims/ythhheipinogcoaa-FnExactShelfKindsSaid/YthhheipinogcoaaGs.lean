/- Texts and numbers held: what has been marked reads so. -/
import Derived.Test.YthhheipinogcoaaOwr
import Derived.Test.YthhheipinogcoaaVal
namespace Go.Proofs.Ythhheipinogcoaa
open Go.RowKit
set_option maxRecDepth 100000 in
set_option maxHeartbeats 2000000 in
theorem heldStringS_any (F : Nat → Prop) (k : Nat) (v : Value) (xs : List ByteArray) (w : World) (h : Cod.str.Sl F w v (markL mkS xs k).1) (hF : ∀ b, F b → b < w.heap.size) (h0 : 0 < k) (h1 : (markL mkS xs k).2 ≤ 100000000) :
    Calls Try.prog 48 #[v, .int .i64 k] w fun e w' => e = .returned (.int .i64 (markL mkS xs k).2) ∧ Below w.heap.size w w' := by
  have HO := Lib.hid h
  have HM := Lib.hid (MarkAt.start mkS xs k)
  obtain ⟨A, cap, rfl, hlc, hcm, hx_⟩ := h
  clear hx_
  unfold maxLen at hcm
  rw [markL_length] at hlc HO ⊢
  go_enter Try.func48, Try.ntmps48
  go_wp2
  go_loopw [5, 1] (fun i kk wr => ∃ (j kj : Nat) (done : List ByteArray), j ≤ xs.length ∧ i = .int .i64 j ∧ kk = .int .i64 kj ∧ 0 < kj ∧ Hid (MarkAt mkS xs k done j kj) ∧ Hid (Below w.heap.size w wr)) (fun i _ _ => xs.length - (intOf i).toNat)
  case atStart => exact ⟨0, k, [], Nat.zero_le _, rfl, rfl, h0, HM, Below.refl _ _⟩
  case round =>
    obtain ⟨j, kj, done, hj, rfl, rfl, hk0, HMr, HBe⟩ := hrel
    by_cases hlt : j < xs.length
    · have hst := HMr.out.step hlt
      have hroom2 := hst.room (f := mkS) (fun _ k => Nat.le_succ k)
      obtain ⟨hh, hg⟩ := HMr.out.nth hlt
      have HOr := Lib.hid (HO.out.keep (below_keeps HBe.out hF))
      obtain ⟨b, off, cap', hv, hFb, _, _, hc0, hsz⟩ := HOr.out.str_at hh
      clear hsz
      rw [hg] at hc0
      rw [markL_length] at hv
      obtain ⟨rfl, rfl⟩ : A = some ⟨b, off, none⟩ ∧ cap = cap' := by simpa using hv
      have d0 : wr.cell? ⟨b, off + j, none⟩ = some (.string (mt kj)) := hc0
      have hk1 : kj + 1 ≤ 100000000 := Nat.le_trans hroom2 h1
      have hbl : b < wr.heap.size := Nat.lt_of_lt_of_le (hF b hFb) HBe.out.size
      have Hst := Lib.hid hst
      have HT := Lib.hid (markText_any kj wr.drew hk0 (by omega))
      have hbd : b < wr.drew.heap.size := hbl
      have HBd := Lib.hid (show Below w.heap.size w wr.drew from HBe.out.drew)
      have i0 : (0 : Int) ≤ j := by omega
      have i1 : (j : Int) < xs.length := by omega
      clear hv hc0 hst hg hroom2 hh hFb
      go_wp2_with fail
      go_region_with (go_at_call 73; (with_reducible refine HT.out.mono ?_); rintro e w1 ⟨rfl, hb1⟩; go_must (have HB1 := Lib.hid hb1; have y0 : w1.cell? ⟨b, off + j, none⟩ = some (.string (mt kj)) := (hb1.cell (p := ⟨b, off + j, none⟩) hbd).trans d0; clear hb1))
      all_goals
        have HE1 := Lib.hid (HBd.out.trans (HB1.out.mono HBd.out.size))
        go_wp2_with fail
        go_roundw
        case rel => exact ⟨j + 1, kj + 1, _, by omega, by go_num, by go_num, by omega, Hst, HE1⟩
        case measure => simp [intOf]; omega
    · obtain rfl : j = xs.length := by omega
      obtain ⟨e1, e2⟩ := HMr.out.end_ rfl
      have HQ := Lib.hid e2
      clear e1 e2
      go_wp2
      go_ret
      exact ⟨ret_int (by rw [HQ.out]), HBe.out⟩

set_option maxRecDepth 100000 in
set_option maxHeartbeats 1000000 in
theorem heldIntS_any (F : Nat → Prop) (k : Nat) (v : Value) (xs : List Int) (w : World) (h : Cod.i64.Sl F w v (markL mkI xs k).1) (h0 : 0 < k) (h1 : (markL mkI xs k).2 ≤ 100000000) :
    Calls Try.prog 49 #[v, .int .i64 k] w fun e w' => e = .returned (.int .i64 (markL mkI xs k).2) ∧ w' = w := by
  have HO := Lib.hid h
  have HM := Lib.hid (MarkAt.start mkI xs k)
  obtain ⟨A, cap, rfl, hlc, hcm, hx_⟩ := h
  clear hx_
  unfold maxLen at hcm
  rw [markL_length] at hlc HO ⊢
  go_enter Try.func49, Try.ntmps49
  go_wp2
  go_loopw [5, 1] (fun i kk wr => ∃ (j kj : Nat) (done : List Int), j ≤ xs.length ∧ i = .int .i64 j ∧ kk = .int .i64 kj ∧ 0 < kj ∧ Hid (MarkAt mkI xs k done j kj) ∧ wr = w) (fun i _ _ => xs.length - (intOf i).toNat)
  case atStart => exact ⟨0, k, [], Nat.zero_le _, rfl, rfl, h0, HM, rfl⟩
  case round =>
    obtain ⟨j, kj, done, hj, rfl, rfl, hk0, HMr, rfl⟩ := hrel
    by_cases hlt : j < xs.length
    · have hst := HMr.out.step hlt
      have hroom2 := hst.room (f := mkI) (fun _ k => Nat.le_succ k)
      obtain ⟨hh, hg⟩ := HMr.out.nth hlt
      obtain ⟨b, off, cap', hv, hFb, _, _, hc0, hi0⟩ := HO.out.i64_at hh
      rw [hg] at hc0
      rw [markL_length] at hv
      obtain ⟨rfl, rfl⟩ : A = some ⟨b, off, none⟩ ∧ cap = cap' := by simpa using hv
      have hc0' : wr.cell? ⟨b, off + j, none⟩ = some (.int .i64 kj) := hc0
      have hk1 : kj + 1 ≤ 100000000 := Nat.le_trans hroom2 h1
      have Hst := Lib.hid hst
      clear hv hc0 hst hg hroom2 hh hi0
      go_wp2
      go_roundw
      case rel => exact ⟨j + 1, kj + 1, _, by omega, by go_num, by go_num, by omega, Hst, by first | rfl | trivial⟩
      case measure => simp [intOf]; omega
    · obtain rfl : j = xs.length := by omega
      obtain ⟨e1, e2⟩ := HMr.out.end_ rfl
      have HQ := Lib.hid e2
      clear e1 e2
      go_wp2
      go_ret
      exact ⟨ret_int (by rw [HQ.out]), rfl⟩

end Go.Proofs.Ythhheipinogcoaa
