/- Instructions: the program's search for a word, and which instructions are ones. Instructions: which are ones, of the program. -/
import Derived.Test.YthkdkefkgmmoiaaDoorItd
import Derived.WalkMore
namespace Go.Proofs.YthkdkefkgmmoiaaDoor
open Go.RowKit

/-- The program's table lies in memory. -/
structure ITab (F : Nat → Prop) (w : World) (v : Value) : Prop where
  own : F 0
  cell : w.cell? ⟨0, 0, none⟩ = some v
  rows : Cod.wrow.Sl F w v tabRows
theorem ITab.keep {F : Nat → Prop} {w w' : World} {v : Value} (h : ITab F w v) (hk : ∀ b, F b → w'.heap[b]? = w.heap[b]?) : ITab F w' v :=
  ⟨h.own, (World.cell?_of_block (w := w) (a := ⟨0, 0, none⟩) (hk _ h.own)).trans h.cell, h.rows.keep hk⟩

theorem numberWithin_any (n top : Int) (w : World) : Calls Tryd.prog 77 #[.int .i64 n, .int .i64 top] w fun e w' => e = .returned (.int .i64 (max 0 (min n top))) ∧ w' = w := by
  go_enter Tryd.func77, Tryd.ntmps77
  go_wp2
  all_goals
    go_ret
    exact ⟨ret_int (by omega), rfl⟩

theorem hasW_step {op : ByteArray} {ws : List ByteArray} {k : Nat} {r : Bool} (hk : k < ws.length) (h : hasW op (ws.drop k) = r) (hn : ((ws[k]).toList == op.toList) = false) : hasW op (ws.drop (k + 1)) = r := by
  rw [drop_cons hk, hasW, hn, Bool.false_or] at h
  exact h
theorem hasW_hit {op : ByteArray} {ws : List ByteArray} {k : Nat} {r : Bool} (hk : k < ws.length) (h : hasW op (ws.drop k) = r) (hn : ((ws[k]).toList == op.toList) = true) : r = true ∧ ws[k] = op := by
  rw [drop_cons hk, hasW, hn, Bool.true_or] at h
  exact ⟨h.symm, ext_toList (by simpa using hn)⟩
theorem hasW_end {op : ByteArray} {ws : List ByteArray} {k : Nat} {r : Bool} (hk : k = ws.length) (h : hasW op (ws.drop k) = r) : r = false := by
  rw [hk, List.drop_length, hasW] at h
  exact h.symm
theorem findR_step {op : ByteArray} {rs : List WRow} {k : Nat} {r : Option (Int × Int)} (hk : k < rs.length) (h : findR op (rs.drop k) = r) (hn : hasW op (rs[k]).words = false) : findR op (rs.drop (k + 1)) = r := by
  rw [drop_cons hk, findR, if_neg (by rw [hn]; decide)] at h
  exact h
theorem findR_hit {op : ByteArray} {rs : List WRow} {k : Nat} {r : Option (Int × Int)} (hk : k < rs.length) (h : findR op (rs.drop k) = r) (hn : hasW op (rs[k]).words = true) : r = some ((rs[k]).a, (rs[k]).b) := by
  rw [drop_cons hk, findR, if_pos hn] at h
  exact h.symm
theorem findR_end {op : ByteArray} {rs : List WRow} {k : Nat} {r : Option (Int × Int)} (hk : k = rs.length) (h : findR op (rs.drop k) = r) : r = none := by
  rw [hk, List.drop_length, findR] at h
  exact h.symm

set_option maxRecDepth 100000 in
set_option maxHeartbeats 2000000 in
theorem insTop_any (F : Nat → Prop) (v : Value) (op : ByteArray) (w : World) (h : ITab F w v) (hF : ∀ b, F b → b < w.heap.size) : Calls Tryd.prog 76 #[.string op] w fun e w' => e = .returned (FoundV op (findR op tabRows)) ∧ Below w.heap.size w w' := by
  obtain ⟨w0, hw0⟩ : ∃ w0, w0 = (w.alloc (.cells #[.string ⟨#[]⟩, .int .i64 0, .int .i64 0] 102)).alloc (.cells #[.string ⟨#[]⟩, .int .i64 0, .int .i64 0] 102) := ⟨_, rfl⟩
  have HB2 : Hid (Blk w0 w.heap.size 102 #[.string ⟨#[]⟩, .int .i64 0, .int .i64 0]) := by rw [hw0]; exact (Blk.new w 102 _).alloc _
  have HB4 : Hid (Blk w0 (w.heap.size + 1) 102 #[.string ⟨#[]⟩, .int .i64 0, .int .i64 0]) := by
    have := Blk.new (w.alloc (.cells #[.string ⟨#[]⟩, .int .i64 0, .int .i64 0] 102)) 102 #[.string ⟨#[]⟩, .int .i64 0, .int .i64 0]
    show Blk w0 _ _ _
    rw [hw0]
    simpa using this
  have HW0 : Hid (Below w.heap.size w w0) := by rw [hw0]; exact ((Below.refl _ _).alloc (Nat.le_refl _) _).alloc (by simp) _
  have hs0 : w0.heap.size = w.heap.size + 2 := by rw [hw0]; simp
  have HT := Lib.hid (h.keep (below_keeps HW0.out hF))
  have HF := Lib.hid (show ∀ b, F b → b < w0.heap.size from fun b hb => Nat.lt_of_lt_of_le (hF b hb) HW0.out.size)
  have Hs0 := Lib.hid hs0
  have Hw0 := Lib.hid hw0
  clear h hw0 hs0
  go_enter Tryd.func76, Tryd.ntmps76
  go_wp2_with fail
  go_step3
  go_wp2_with fail
  go_step3
  rw [← Hw0.out]
  obtain ⟨gA, gc, hgv, hg1, hg2, _⟩ := HT.out.rows
  subst hgv
  unfold maxLen at hg2
  have hg := HT.out.cell
  go_wp2_with fail
  go_loopw [12] (fun i wr => ∃ k : Nat, k ≤ 12 ∧ i = .int .i64 k ∧ Hid (findR op (tabRows.drop k) = findR op tabRows) ∧ Hid (Below w0.heap.size w0 wr)) (fun i _ => 12 - (intOf i).toNat)
  case atStart => exact ⟨0, by omega, rfl, rfl, Below.refl _ _⟩
  case round =>
    obtain ⟨k, hk, rfl, HFd, HBe⟩ := hrel
    have HTr := Lib.hid (HT.out.keep (below_keeps HBe.out HF.out))
    have HFr := Lib.hid (show ∀ b, F b → b < wr.heap.size from fun b hb => Nat.lt_of_lt_of_le (HF.out b hb) HBe.out.size)
    have hsr : w.heap.size + 2 ≤ wr.heap.size := by have := HBe.out.size; have := Hs0.out; omega
    by_cases hlt : k < 12
    · obtain ⟨b, off, cap, u, hv, hFb, _, _, c0, c1, c2, ha, hb, hu⟩ := HTr.out.rows.wrow_at (k := k) (show k < tabRows.length from hlt)
      obtain ⟨rfl, _, rfl⟩ : gA = some ⟨b, off, none⟩ ∧ tabRows.length = tabRows.length ∧ gc = cap := by simpa using hv
      have hFb' := HFr.out b hFb
      have Hstep := Lib.hid fun h => findR_step (k := k) (show k < tabRows.length from hlt) HFd.out h
      have Hhit := Lib.hid fun h => findR_hit (k := k) (show k < tabRows.length from hlt) HFd.out h
      generalize tabRows[k] = row at c0 c1 c2 ha hb hu Hstep Hhit
      obtain ⟨ws, ra, rb⟩ := row
      have HU := Lib.hid hu
      obtain ⟨A, cA, rfl, hA1, hA2, _⟩ := hu
      unfold maxLen at hA2
      have Ha := Lib.hid ha
      have Hb := Lib.hid hb
      clear hv hFb ha hb
      obtain ⟨w1, hw1⟩ : ∃ w1, w1 = wr.alloc (.cells #[.slice A ws.length cA, .int .i64 ra, .int .i64 rb] 125) := ⟨_, rfl⟩
      have Hw1 := Lib.hid hw1
      clear hw1
      go_wp2_with fail
      rw [← Hw1.out]
      have HBr : Hid (Blk w1 wr.heap.size 125 #[.slice A ws.length cA, .int .i64 ra, .int .i64 rb]) := by show Blk w1 _ _ _; rw [Hw1.out]; exact Blk.new _ _ _
      have HBe1 : Hid (Below w0.heap.size w0 w1) := by show Below _ _ w1; rw [Hw1.out]; exact HBe.out.alloc HBe.out.size _
      have HU1 : Hid (Cod.str.Sl F w1 (.slice A ws.length cA) ws) := by show Cod.str.Sl _ w1 _ _; rw [Hw1.out]; exact HU.out.keep fun b hb => Below.heap_alloc _ _ _ (HFr.out b hb)
      have hs1 : wr.heap.size < w1.heap.size := HBr.out.lt
      have HB4r := Lib.hid (HB4.out.below HBe1.out (by have := Hs0.out; omega))
      have HB2r := Lib.hid (HB2.out.below HBe1.out (by have := Hs0.out; omega))
      go_loopw [19] (fun i wi => ∃ j : Nat, j ≤ ws.length ∧ i = .int .i64 j ∧ Hid (hasW op (ws.drop j) = hasW op ws) ∧ w1 = wi) (fun i _ => ws.length - (intOf i).toNat)
      case atStart => exact ⟨0, Nat.zero_le _, rfl, rfl, rfl⟩
      case round =>
        obtain ⟨j, hj, rfl, HWd, hwi⟩ := hrel
        subst hwi
        by_cases hlt2 : j < ws.length
        · obtain ⟨bw, ow, cw, hv2, hFw, _, _, d0, _⟩ := HU1.out.str_at hlt2
          obtain ⟨rfl, rfl⟩ : A = some ⟨bw, ow, none⟩ ∧ cA = cw := by simpa using hv2
          have Hst2 := Lib.hid fun h => hasW_step hlt2 HWd.out h
          have Hhit2 := Lib.hid fun h => hasW_hit hlt2 HWd.out h
          generalize ws[j] = wd at d0 Hst2 Hhit2
          clear hv2 hFw
          by_cases ho : (wd.toList == op.toList) = true
          · obtain ⟨h1, h2⟩ := Hhit2.out ho
            have hfo := Hhit.out h1
            have HR := Lib.hid (show FoundV op (findR op tabRows) = .tuple #[.agg #[.string wd, .int .i64 ra, .int .i64 rb], .bool true] by rw [hfo, ← h2]; rfl)
            have Hne := Lib.hid (show ¬ wd.toList = [] from fun he => by have := (find_top hfo).pos; rw [← h2, ← length_toList, he] at this; exact absurd this (by decide))
            obtain ⟨x0, x1, x2⟩ := HB4r.out.c3
            obtain ⟨f0, f1, f2⟩ := HB4r.out.f3
            obtain ⟨y0, y1, y2⟩ := HBr.out.c3
            clear h1 h2 hfo
            obtain ⟨w4, hw4⟩ : ∃ w4, w4 = ((w1.setCell ⟨w.heap.size + 1, 0, none⟩ (.string wd)).setCell ⟨w.heap.size + 1, 1, none⟩ (.int .i64 ra)).setCell ⟨w.heap.size + 1, 2, none⟩ (.int .i64 rb) := ⟨_, rfl⟩
            have HB44 : Hid (Blk w4 (w.heap.size + 1) 102 #[.string wd, .int .i64 ra, .int .i64 rb]) := by show Blk w4 _ _ _; rw [hw4]; exact ((HB4r.out.set_ 0 (.string wd)).set_ 1 (.int .i64 ra)).set_ 2 (.int .i64 rb)
            have HB24 : Hid (Blk w4 w.heap.size 102 #[.string ⟨#[]⟩, .int .i64 0, .int .i64 0]) := by show Blk w4 _ _ _; rw [hw4]; exact ((HB2r.out.far (by simp) _).far (by simp) _).far (by simp) _
            have HW4 : Hid (Below w.heap.size w w4) := by show Below _ _ w4; rw [hw4]; exact (((HW0.out.trans (HBe1.out.mono HW0.out.size)).setCell (by simp) _).setCell (by simp) _).setCell (by simp) _
            have Hw4 := Lib.hid hw4
            clear hw4
            go_wp2_with fail
            rw [← Hw4.out]
            clear x0 x1 x2 f0 f1 f2 y0 y1 y2 d0 c0 c1 c2 ho
            obtain ⟨x0, x1, x2⟩ := HB44.out.c3
            obtain ⟨y0, y1, y2⟩ := HB24.out.c3
            obtain ⟨f0, f1, f2⟩ := HB24.out.f3
            have hne := Hne.out
            obtain ⟨wF, hwF⟩ : ∃ wF, wF = (((w4.setCell ⟨w.heap.size, 0, none⟩ (.string wd)).setCell ⟨w.heap.size, 1, none⟩ (.int .i64 ra)).setCell ⟨w.heap.size, 2, none⟩ (.int .i64 rb)).drew := ⟨_, rfl⟩
            have HBF : Hid (Blk wF w.heap.size 102 #[.string wd, .int .i64 ra, .int .i64 rb]) := by show Blk wF _ _ _; rw [hwF]; exact ((HB24.out.set_ 0 (.string wd)).set_ 1 (.int .i64 ra)).set_ 2 (.int .i64 rb)
            have HWF : Hid (Below w.heap.size w wF) := by show Below _ _ wF; rw [hwF]; exact (((HW4.out.setCell (by simp) _).setCell (by simp) _).setCell (by simp) _).drew
            have HwF := Lib.hid hwF
            clear hwF
            go_region
            go_wp2_with fail
            try rw [Exit.noGoto_ret]
            rw [← HwF.out]
            obtain ⟨z0, z1, z2⟩ := HBF.out.c3
            exact bodyPost_ret (v := .tuple #[.agg #[.string wd, .int .i64 ra, .int .i64 rb], .bool true]) (by simp [results, Tryd.results76, go_sem, z0, z1, z2]) rfl ⟨by rw [HR.out], HWF.out⟩
          · have ho' : (wd.toList == op.toList) = false := by simpa using ho
            go_wp2_with fail
            go_roundw
            case rel => exact ⟨j + 1, by omega, by go_num, Hst2.out ho', trivial⟩
            case measure => simp [intOf]; omega
        · have hno := Hstep.out (hasW_end (k := j) (by omega) HWd.out)
          have Hno := Lib.hid hno
          clear hno
          go_wp2_with fail
          go_roundw
          case rel => exact ⟨k + 1, by omega, by go_num, Hno.out, HBe1⟩
          case measure => simp [intOf]; omega
    · have HR := Lib.hid (show FoundV op (findR op tabRows) = .tuple #[.agg #[.string ⟨#[]⟩, .int .i64 0, .int .i64 0], .bool false] by rw [findR_end (k := k) (show k = tabRows.length by show k = 12; omega) HFd.out]; rfl)
      have HB4r := Lib.hid (HB4.out.below HBe.out (by have := Hs0.out; omega))
      have HB2r := Lib.hid (HB2.out.below HBe.out (by have := Hs0.out; omega))
      obtain ⟨x0, x1, x2⟩ := HB4r.out.c3
      obtain ⟨y0, y1, y2⟩ := HB2r.out.c3
      obtain ⟨g0, g1, g2⟩ := HB2r.out.f3
      obtain ⟨wF, hwF⟩ : ∃ wF, wF = (((wr.setCell ⟨w.heap.size, 0, none⟩ (.string ⟨#[]⟩)).setCell ⟨w.heap.size, 1, none⟩ (.int .i64 0)).setCell ⟨w.heap.size, 2, none⟩ (.int .i64 0)).drew := ⟨_, rfl⟩
      have HBF : Hid (Blk wF w.heap.size 102 #[.string ⟨#[]⟩, .int .i64 0, .int .i64 0]) := by show Blk wF _ _ _; rw [hwF]; exact ((HB2r.out.set_ 0 (.string ⟨#[]⟩)).set_ 1 (.int .i64 0)).set_ 2 (.int .i64 0)
      have HWF : Hid (Below w.heap.size w wF) := by show Below _ _ wF; rw [hwF]; exact ((((HW0.out.trans (HBe.out.mono HW0.out.size)).setCell (by simp) _).setCell (by simp) _).setCell (by simp) _).drew
      have HwF := Lib.hid hwF
      clear hwF
      go_wp2_with fail
      go_region
      go_wp2_with fail
      try rw [Exit.noGoto_ret]
      rw [← HwF.out]
      obtain ⟨z0, z1, z2⟩ := HBF.out.c3
      exact bodyPost_ret (v := .tuple #[.agg #[.string ⟨#[]⟩, .int .i64 0, .int .i64 0], .bool false]) (by simp [results, Tryd.results76, go_sem, z0, z1, z2]) rfl ⟨by rw [HR.out], HWF.out⟩
end Go.Proofs.YthkdkefkgmmoiaaDoor

namespace Go.Proofs.YthkdkefkgmmoiaaDoor
open Go.RowKit

theorem within_yes {n a : Int} (h : withB n a = true) (w : World) : Calls Tryd.prog 77 #[.int .i64 n, .int .i64 a] w fun e w' => e = .returned (.int .i64 n) ∧ w' = w := by
  unfold withB at h
  simp only [Bool.and_eq_true, decide_eq_true_eq] at h
  have := numberWithin_any n a w
  rw [show max 0 (min n a) = n by omega] at this
  exact this
theorem within_no {n a : Int} (h0 : 0 ≤ a) (h : withB n a = false) : ∃ m, ¬ n = m ∧ ∀ w : World, Calls Tryd.prog 77 #[.int .i64 n, .int .i64 a] w fun e w' => e = .returned (.int .i64 m) ∧ w' = w := by
  refine ⟨max 0 (min n a), fun e => ?_, numberWithin_any n a⟩
  have : withB n a = true := by unfold withB; simp only [Bool.and_eq_true, decide_eq_true_eq]; omega
  rw [this] at h; cases h
theorem within_cases {n a : Int} (h0 : 0 ≤ a) : ∃ m, ((withB n a = true ∧ m = n) ∨ (withB n a = false ∧ ¬ n = m)) ∧ ∀ w : World, Calls Tryd.prog 77 #[.int .i64 n, .int .i64 a] w fun e w' => e = .returned (.int .i64 m) ∧ w' = w := by
  by_cases h : withB n a = true
  · exact ⟨n, .inl ⟨h, rfl⟩, within_yes h⟩
  · obtain ⟨m, h1, h2⟩ := within_no h0 (by simpa using h)
    exact ⟨m, .inr ⟨by simpa using h, h1⟩, h2⟩

set_option maxRecDepth 100000 in
set_option maxHeartbeats 2000000 in
theorem implInsOk_any (F : Nat → Prop) (v : Value) (op : ByteArray) (x y : Int) (w : World) (h : ITab F w v) (hF : ∀ b, F b → b < w.heap.size) : Calls Tryd.prog 65 #[.agg #[.string op, .int .i64 x, .int .i64 y]] w fun e w' => e = .returned (.bool (insOk op x y)) ∧ Below w.heap.size w w' := by
  have HB0 := Lib.hid (Blk.new w 102 #[.string op, .int .i64 x, .int .i64 y])
  have HW0 := Lib.hid ((Below.refl w.heap.size w).alloc (Nat.le_refl _) (.cells #[.string op, .int .i64 x, .int .i64 y] 102))
  have Hw0 := Lib.hid (show (w.alloc (.cells #[.string op, .int .i64 x, .int .i64 y] 102)).heap.size = w.heap.size + 1 by simp)
  have HC0 := Lib.hid (insTop_any F v op _ (h.keep (below_keeps HW0.out hF)) fun b hb => by rw [Hw0.out]; have := hF b hb; omega)
  cases hf : findR op tabRows with
  | none =>
    have H2 := Lib.hid (show insOk op x y = false by unfold insOk; rw [hf])
    rw [hf] at HC0
    clear hf h
    go_enter Tryd.func65, Tryd.ntmps65
    go_wp2_with fail
    refine HC0.out.mono ?_
    rintro e w1 ⟨rfl, hb⟩
    dsimp only [FoundV]
    have HB1 := Lib.hid (HB0.out.below hb (by rw [Hw0.out]; omega))
    have HW1 := Lib.hid (HW0.out.trans (hb.mono (by rw [Hw0.out]; omega)))
    obtain ⟨x0, x1, x2⟩ := HB1.out.c3
    have hs1 : w.heap.size < w1.heap.size := HB1.out.lt
    clear hb
    go_upto_region 2 with fail
    go_quiet (fail)
    go_wp2
    go_ret
    exact ⟨ret_bool H2.out.symm, below_drewN (HW1.out.alloc HW1.out.size _) _⟩
  | some ab =>
    obtain ⟨a, b⟩ := ab
    have ht := find_top hf
    have H2 := Lib.hid (show insOk op x y = (withB x a && withB y b) by unfold insOk; rw [hf])
    rw [hf] at HC0
    obtain ⟨m1, hm1, hc1⟩ := within_cases (n := x) ht.a0
    obtain ⟨m2, hm2, hc2⟩ := within_cases (n := y) ht.b0
    have HC1 := Lib.hid hc1
    have HC2 := Lib.hid hc2
    clear hf h ht hc1 hc2
    rcases hm1 with ⟨hx, rfl⟩ | ⟨hx, hne⟩
    · have HX := Lib.hid hx
      clear hx
      rcases hm2 with ⟨hy, rfl⟩ | ⟨hy, hne⟩
      all_goals
        have HY := Lib.hid hy
        clear hy
        go_enter Tryd.func65, Tryd.ntmps65
        go_wp2_with fail
        refine HC0.out.mono ?_
        rintro e w1 ⟨rfl, hb⟩
        dsimp only [FoundV]
        have HB1 := Lib.hid (HB0.out.below hb (by rw [Hw0.out]; omega))
        have HW1 := Lib.hid (HW0.out.trans (hb.mono (by rw [Hw0.out]; omega)))
        obtain ⟨x0, x1, x2⟩ := HB1.out.c3
        have hs1 : w.heap.size < w1.heap.size := HB1.out.lt
        clear hb
        go_upto_region 2 with fail
        go_quiet (first | (go_at_call 77; exact Calls.quiet_of_same (HC1.out _)) | (go_at_call 77; exact Calls.quiet_of_same (HC2.out _)))
        go_wp2
        go_ret
        exact ⟨ret_bool (by rw [H2.out, HX.out, HY.out]; rfl), below_drewN (HW1.out.alloc HW1.out.size _) _⟩
    · have HX := Lib.hid hx
      clear hx hm2
      go_enter Tryd.func65, Tryd.ntmps65
      go_wp2_with fail
      refine HC0.out.mono ?_
      rintro e w1 ⟨rfl, hb⟩
      dsimp only [FoundV]
      have HB1 := Lib.hid (HB0.out.below hb (by rw [Hw0.out]; omega))
      have HW1 := Lib.hid (HW0.out.trans (hb.mono (by rw [Hw0.out]; omega)))
      obtain ⟨x0, x1, x2⟩ := HB1.out.c3
      have hs1 : w.heap.size < w1.heap.size := HB1.out.lt
      clear hb
      go_upto_region 2 with fail
      go_quiet (first | (go_at_call 77; exact Calls.quiet_of_same (HC1.out _)) | (go_at_call 77; exact Calls.quiet_of_same (HC2.out _)))
      go_wp2
      go_ret
      exact ⟨ret_bool (by rw [H2.out, HX.out]; rfl), below_drewN (HW1.out.alloc HW1.out.size _) _⟩
end Go.Proofs.YthkdkefkgmmoiaaDoor
