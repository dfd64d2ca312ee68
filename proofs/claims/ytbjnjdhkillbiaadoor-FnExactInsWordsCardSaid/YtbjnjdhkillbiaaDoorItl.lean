/- Texts held: what has been marked reads so; the exact law of InsWords. -/
import Derived.Test.YtbjnjdhkillbiaaDoorItk
import Derived.Deep.DeepCutAuto
namespace Go.Proofs.YtbjnjdhkillbiaaDoor
open Go.RowKit

set_option maxRecDepth 100000 in
set_option maxHeartbeats 2000000 in
theorem heldStringS_any (F : Nat → Prop) (k : Nat) (v : Value) (xs : List ByteArray) (w : World) (h : Cod.str.Sl F w v (markL mkS xs k).1) (hF : ∀ b, F b → b < w.heap.size) (h0 : 0 < k) (h1 : (markL mkS xs k).2 ≤ 100000000) :
    Calls Tryd.prog 34 #[v, .int .i64 k] w fun e w' => e = .returned (.int .i64 (markL mkS xs k).2) ∧ Below w.heap.size w w' := by
  have HO := Lib.hid h
  have HM := Lib.hid (MarkAt.start mkS xs k)
  obtain ⟨A, cap, rfl, hlc, hcm, hx_⟩ := h
  clear hx_
  unfold maxLen at hcm
  rw [markL_length] at hlc HO ⊢
  go_enter Tryd.func34, Tryd.ntmps34
  go_wp2
  go_loopw [5, 1] (fun i kk wr => ∃ (j kj : Nat) (done : List ByteArray), j ≤ xs.length ∧ i = .int .i64 j ∧ kk = .int .i64 kj ∧ 0 < kj ∧ Hid (MarkAt mkS xs k done j kj) ∧ Hid (Below w.heap.size w wr)) (fun i _ _ => xs.length - (intOf i).toNat)
  case atStart => exact ⟨0, k, [], Nat.zero_le _, rfl, rfl, h0, HM, Below.refl _ _⟩
  case round =>
    obtain ⟨j, kj, done, hj, rfl, rfl, hk0, HMr, HBe⟩ := hrel
    by_cases hlt : j < xs.length
    · have hst := HMr.out.step hlt
      have hroom2 := hst.room (f := mkS) (fun _ k => Nat.le_succ k)
      obtain ⟨hh, hg⟩ := HMr.out.nth hlt
      have HOr := Lib.hid (HO.out.keep (below_keeps HBe.out hF))
      obtain ⟨b, off, cap', hv, hFb, _, _, hc0, hsz⟩ := HOr.out.str_at hh
      clear hsz
      rw [hg] at hc0
      rw [markL_length] at hv
      obtain ⟨rfl, rfl⟩ : A = some ⟨b, off, none⟩ ∧ cap = cap' := by simpa using hv
      have d0 : wr.cell? ⟨b, off + j, none⟩ = some (.string (mt kj)) := hc0
      have hk1 : kj + 1 ≤ 100000000 := Nat.le_trans hroom2 h1
      have hbl : b < wr.heap.size := Nat.lt_of_lt_of_le (hF b hFb) HBe.out.size
      have Hst := Lib.hid hst
      have HT := Lib.hid (markText_any kj wr.drew hk0 (by omega))
      have hbd : b < wr.drew.heap.size := hbl
      have HBd := Lib.hid (show Below w.heap.size w wr.drew from HBe.out.drew)
      have i0 : (0 : Int) ≤ j := by omega
      have i1 : (j : Int) < xs.length := by omega
      clear hv hc0 hst hg hroom2 hh hFb
      go_wp2_with fail
      go_region_with (go_at_call 60; (with_reducible refine HT.out.mono ?_); rintro e w1 ⟨rfl, hb1⟩; go_must (have HB1 := Lib.hid hb1; have y0 : w1.cell? ⟨b, off + j, none⟩ = some (.string (mt kj)) := (hb1.cell (p := ⟨b, off + j, none⟩) hbd).trans d0; clear hb1))
      all_goals
        have HE1 := Lib.hid (HBd.out.trans (HB1.out.mono HBd.out.size))
        go_wp2_with fail
        go_roundw
        case rel => exact ⟨j + 1, kj + 1, _, by omega, by go_num, by go_num, by omega, Hst, HE1⟩
        case measure => simp [intOf]; omega
    · obtain rfl : j = xs.length := by omega
      obtain ⟨e1, e2⟩ := HMr.out.end_ rfl
      have HQ := Lib.hid e2
      clear e1 e2
      go_wp2
      go_ret
      exact ⟨ret_int (by rw [HQ.out]), HBe.out⟩

theorem mark_words : (markL mkS allWords 1).2 = 38 := rfl

set_option maxRecDepth 100000 in
set_option maxHeartbeats 4000000 in
theorem lawInsWords (F : Nat → Prop) (v : Value) (w : World) (h : Tab F w v) (hF : ∀ b, F b → b < w.heap.size) :
    Calls Tryd.prog 11 #[] w fun e w' => e = .returned (.bool true) ∧ Below w.heap.size w w' := by
  have HT := Lib.hid h
  clear h
  go_enter Tryd.func11, Tryd.ntmps11
  go_wp2_with fail
  refine (specInsWords_any w).mono ?_
  rintro e w1 ⟨A1, c1, rfl, hO1, hb1⟩
  have HO1 := Lib.hid hO1
  have HW1 := Lib.hid hb1
  have HT1 := Lib.hid (HT.out.keep (below_keeps HW1.out hF))
  have HF1 := Lib.hid (show ∀ b, F b → b < w1.heap.size from fun b hb => Nat.lt_of_lt_of_le (hF b hb) HW1.out.size)
  clear hO1 hb1
  go_wp2_with fail
  refine (implInsWords_any F v w1 HT1.out HF1.out).mono ?_
  rintro e w2 ⟨A2, c2, rfl, hO2, hb2⟩
  have HO2 := Lib.hid hO2
  have HB2 := Lib.hid hb2
  have HW2 := Lib.hid (HW1.out.trans (hb2.mono HW1.out.size))
  have HO1k := Lib.hid (HO1.out.keep (w' := w2) fun b _ hb => HB2.out.block b hb)
  have HN2 := Lib.hid (show ∀ b, (w.heap.size ≤ b ∧ b < w2.heap.size) → b < w2.heap.size from fun b hb => hb.2)
  clear hO2 hb2
  go_wp2_with fail
  refine (eqStringS_any (fun b => w.heap.size ≤ b ∧ b < w2.heap.size) _ _ allWords w2 (HO2.out.mono HW1.out.size (Nat.le_refl _)).sl (HO1k.out.mono (Nat.le_refl _) HB2.out.size).sl).mono ?_
  rintro e w3 ⟨rfl, hb3⟩
  have HB3 := Lib.hid hb3
  have HO3 := Lib.hid (HO2.out.keep (w' := w3) fun b _ hb => HB3.out.block b hb)
  have HO1l := Lib.hid (HO1k.out.keep (w' := w3) fun b _ hb => HB3.out.block b (Nat.lt_of_lt_of_le hb HB2.out.size))
  have HW3 := Lib.hid (HW2.out.trans (hb3.mono HW2.out.size))
  clear hb3
  go_wp2_with fail
  refine (markStringS_any w1.heap.size w2.heap.size 1 _ allWords w3 HO3.out HB3.out.size (by omega) (by rw [mark_words]; omega)).mono ?_
  rintro e w4 ⟨rfl, hO4, hW4⟩
  rw [mark_words]
  have HM4 := Lib.hid hO4
  have HO1m := Lib.hid (HO1l.out.keep (w' := w4) fun b _ hb => hW4.block b (Nat.lt_of_lt_of_le hb (Nat.le_trans HB2.out.size HB3.out.size)) (by omega))
  have HW4 := Lib.hid (HW3.out.trans (hW4.to_below HW1.out.size HW3.out.size))
  have hs24 : w2.heap.size ≤ w4.heap.size := Nat.le_trans HB3.out.size hW4.size
  have hs12 : w1.heap.size ≤ w2.heap.size := HB2.out.size
  have HC5 := Lib.hid (heldStringS_any (fun b => w1.heap.size ≤ b ∧ b < w2.heap.size) 1 _ allWords w4 hO4.sl (fun b hb => Nat.lt_of_lt_of_le hb.2 hs24) (by omega) (by rw [mark_words]; omega))
  rw [mark_words] at HC5
  clear hO4 hW4
  go_wp2_with fail
  refine HC5.out.mono ?_
  rintro e w5 ⟨rfl, hb5⟩
  have HM5 := Lib.hid (HM4.out.keep (w' := w5) fun b _ hb => hb5.block b (Nat.lt_of_lt_of_le hb hs24))
  have HO1n := Lib.hid (HO1m.out.keep (w' := w5) fun b _ hb => hb5.block b (by omega))
  have HW5 := Lib.hid (HW4.out.trans (hb5.mono HW4.out.size))
  have hs25 : w2.heap.size ≤ w5.heap.size := Nat.le_trans hs24 hb5.size
  have HT5 := Lib.hid (HT.out.keep (below_keeps HW5.out hF))
  have HF5 := Lib.hid (show ∀ b, F b → b < w5.heap.size from fun b hb => Nat.lt_of_lt_of_le (hF b hb) HW5.out.size)
  clear hb5
  go_wp2_with fail
  refine (implInsWords_any F v w5 HT5.out HF5.out).mono ?_
  rintro e w6 ⟨A6, c6, rfl, hO6, hb6⟩
  have HO6 := Lib.hid hO6
  have HM6 := Lib.hid (HM5.out.keep (w' := w6) fun b _ hb => hb6.block b (by omega))
  have HO1o := Lib.hid (HO1n.out.keep (w' := w6) fun b _ hb => hb6.block b (by omega))
  have HW6 := Lib.hid (HW5.out.trans (hb6.mono HW5.out.size))
  have hs26 : w2.heap.size ≤ w6.heap.size := Nat.le_trans hs25 hb6.size
  have hs05 : w.heap.size ≤ w5.heap.size := HW5.out.size
  clear hO6 hb6
  go_wp2_with fail
  refine (eqStringS_any (fun b => w.heap.size ≤ b ∧ b < w6.heap.size) _ _ allWords w6 (HO6.out.mono hs05 (Nat.le_refl _)).sl (HO1o.out.mono (Nat.le_refl _) (by omega)).sl).mono ?_
  rintro e w7 ⟨rfl, hb7⟩
  have HM7 := Lib.hid (HM6.out.keep (w' := w7) fun b _ hb => hb7.block b (by omega))
  have HW7 := Lib.hid (HW6.out.trans (hb7.mono HW6.out.size))
  have hs27 : w2.heap.size ≤ w7.heap.size := Nat.le_trans hs26 hb7.size
  have HC8 := Lib.hid (heldStringS_any (fun b => w1.heap.size ≤ b ∧ b < w2.heap.size) 1 _ allWords w7 HM7.out.sl (fun b hb => Nat.lt_of_lt_of_le hb.2 hs27) (by omega) (by rw [mark_words]; omega))
  rw [mark_words] at HC8
  clear hb7
  go_wp2_with fail
  refine HC8.out.mono ?_
  rintro e w8 ⟨rfl, hb8⟩
  have HW8 := Lib.hid (HW7.out.trans (hb8.mono HW7.out.size))
  clear hb8
  go_wp2_with fail
  go_ret
  exact ⟨rfl, HW8.out⟩
end Go.Proofs.YtbjnjdhkillbiaaDoor
