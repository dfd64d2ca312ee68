/- Instructions: which are ones, of the program. -/
import Derived.Test.YtbjnjdhkillbiaaDoorItf
namespace Go.Proofs.YtbjnjdhkillbiaaDoor
open Go.RowKit

theorem within_yes {n a : Int} (h : withB n a = true) (w : World) : Calls Tryd.prog 50 #[.int .i64 n, .int .i64 a] w fun e w' => e = .returned (.int .i64 n) ∧ w' = w := by
  unfold withB at h
  simp only [Bool.and_eq_true, decide_eq_true_eq] at h
  have := numberWithin_any n a w
  rw [show max 0 (min n a) = n by omega] at this
  exact this
theorem within_no {n a : Int} (h0 : 0 ≤ a) (h : withB n a = false) : ∃ m, ¬ n = m ∧ ∀ w : World, Calls Tryd.prog 50 #[.int .i64 n, .int .i64 a] w fun e w' => e = .returned (.int .i64 m) ∧ w' = w := by
  refine ⟨max 0 (min n a), fun e => ?_, numberWithin_any n a⟩
  have : withB n a = true := by unfold withB; simp only [Bool.and_eq_true, decide_eq_true_eq]; omega
  rw [this] at h; cases h
theorem within_cases {n a : Int} (h0 : 0 ≤ a) : ∃ m, ((withB n a = true ∧ m = n) ∨ (withB n a = false ∧ ¬ n = m)) ∧ ∀ w : World, Calls Tryd.prog 50 #[.int .i64 n, .int .i64 a] w fun e w' => e = .returned (.int .i64 m) ∧ w' = w := by
  by_cases h : withB n a = true
  · exact ⟨n, .inl ⟨h, rfl⟩, within_yes h⟩
  · obtain ⟨m, h1, h2⟩ := within_no h0 (by simpa using h)
    exact ⟨m, .inr ⟨by simpa using h, h1⟩, h2⟩

set_option maxRecDepth 100000 in
set_option maxHeartbeats 2000000 in
theorem implInsOk_any (F : Nat → Prop) (v : Value) (op : ByteArray) (x y : Int) (w : World) (h : Tab F w v) (hF : ∀ b, F b → b < w.heap.size) : Calls Tryd.prog 17 #[.agg #[.string op, .int .i64 x, .int .i64 y]] w fun e w' => e = .returned (.bool (insOk op x y)) ∧ Below w.heap.size w w' := by
  have HB0 := Lib.hid (Blk.new w 34 #[.string op, .int .i64 x, .int .i64 y])
  have HW0 := Lib.hid ((Below.refl w.heap.size w).alloc (Nat.le_refl _) (.cells #[.string op, .int .i64 x, .int .i64 y] 34))
  have Hw0 := Lib.hid (show (w.alloc (.cells #[.string op, .int .i64 x, .int .i64 y] 34)).heap.size = w.heap.size + 1 by simp)
  have HC0 := Lib.hid (insTop_any F v op _ (h.keep (below_keeps HW0.out hF)) fun b hb => by rw [Hw0.out]; have := hF b hb; omega)
  cases hf : findR op tabRows with
  | none =>
    have H2 := Lib.hid (show insOk op x y = false by unfold insOk; rw [hf])
    rw [hf] at HC0
    clear hf h
    go_enter Tryd.func17, Tryd.ntmps17
    go_wp2_with fail
    refine HC0.out.mono ?_
    rintro e w1 ⟨rfl, hb⟩
    dsimp only [FoundV]
    have HB1 := Lib.hid (HB0.out.below hb (by rw [Hw0.out]; omega))
    have HW1 := Lib.hid (HW0.out.trans (hb.mono (by rw [Hw0.out]; omega)))
    obtain ⟨x0, x1, x2⟩ := HB1.out.c3
    have hs1 : w.heap.size < w1.heap.size := HB1.out.lt
    clear hb
    go_upto_region 2 with fail
    go_quiet (fail)
    go_wp2
    go_ret
    exact ⟨ret_bool H2.out.symm, below_drewN (HW1.out.alloc HW1.out.size _) _⟩
  | some ab =>
    obtain ⟨a, b⟩ := ab
    have ht := find_top hf
    have H2 := Lib.hid (show insOk op x y = (withB x a && withB y b) by unfold insOk; rw [hf])
    rw [hf] at HC0
    obtain ⟨m1, hm1, hc1⟩ := within_cases (n := x) ht.a0
    obtain ⟨m2, hm2, hc2⟩ := within_cases (n := y) ht.b0
    have HC1 := Lib.hid hc1
    have HC2 := Lib.hid hc2
    clear hf h ht hc1 hc2
    rcases hm1 with ⟨hx, rfl⟩ | ⟨hx, hne⟩
    · have HX := Lib.hid hx
      clear hx
      rcases hm2 with ⟨hy, rfl⟩ | ⟨hy, hne⟩
      all_goals
        have HY := Lib.hid hy
        clear hy
        go_enter Tryd.func17, Tryd.ntmps17
        go_wp2_with fail
        refine HC0.out.mono ?_
        rintro e w1 ⟨rfl, hb⟩
        dsimp only [FoundV]
        have HB1 := Lib.hid (HB0.out.below hb (by rw [Hw0.out]; omega))
        have HW1 := Lib.hid (HW0.out.trans (hb.mono (by rw [Hw0.out]; omega)))
        obtain ⟨x0, x1, x2⟩ := HB1.out.c3
        have hs1 : w.heap.size < w1.heap.size := HB1.out.lt
        clear hb
        go_upto_region 2 with fail
        go_quiet (first | (go_at_call 50; exact Calls.quiet_of_same (HC1.out _)) | (go_at_call 50; exact Calls.quiet_of_same (HC2.out _)))
        go_wp2
        go_ret
        exact ⟨ret_bool (by rw [H2.out, HX.out, HY.out]; rfl), below_drewN (HW1.out.alloc HW1.out.size _) _⟩
    · have HX := Lib.hid hx
      clear hx hm2
      go_enter Tryd.func17, Tryd.ntmps17
      go_wp2_with fail
      refine HC0.out.mono ?_
      rintro e w1 ⟨rfl, hb⟩
      dsimp only [FoundV]
      have HB1 := Lib.hid (HB0.out.below hb (by rw [Hw0.out]; omega))
      have HW1 := Lib.hid (HW0.out.trans (hb.mono (by rw [Hw0.out]; omega)))
      obtain ⟨x0, x1, x2⟩ := HB1.out.c3
      have hs1 : w.heap.size < w1.heap.size := HB1.out.lt
      clear hb
      go_upto_region 2 with fail
      go_quiet (first | (go_at_call 50; exact Calls.quiet_of_same (HC1.out _)) | (go_at_call 50; exact Calls.quiet_of_same (HC2.out _)))
      go_wp2
      go_ret
      exact ⟨ret_bool (by rw [H2.out, HX.out]; rfl), below_drewN (HW1.out.alloc HW1.out.size _) _⟩
end Go.Proofs.YtbjnjdhkillbiaaDoor
