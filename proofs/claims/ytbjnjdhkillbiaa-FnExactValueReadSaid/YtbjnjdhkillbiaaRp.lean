/- The program's reader of values: a value, its records given. -/
import Derived.Test.YtbjnjdhkillbiaaRn
namespace Go.Proofs.Ytbjnjdhkillbiaa
open Go.RowKit

/-- The answer's variable stored: the answer stays one. -/
theorem ReadD.up {ks : Ks} {d rb tb i : Nat} {s t : ByteArray} {w w1 wF : World} {o : Obj} {e : Ending} (h : ReadD ks d rb tb s i t (w.alloc o) e w1) (hr : rb < w.heap.size) (hk : ∀ b', b' ≠ w.heap.size → wF.heap[b']? = w1.heap[b']?) (hW : Wrote rb (rb + 1) w wF) (hs : wF.heap.size = w1.heap.size) : ReadD ks d rb tb s i t w e wF := by
  obtain ⟨_, i', hi', hR, hh⟩ := h
  refine ⟨hW, i', hi', (hk rb (by omega)).trans hR, ?_⟩
  rcases hh with ⟨v, A, cA, he, h1, h2, h3, h4, h5, h6⟩ | hh
  · refine .inl ⟨v, A, cA, he, h1, h2, h3, h4, h5, ?_⟩
    have e1 : (w.alloc o).heap.size = w.heap.size + 1 := by simp
    rw [e1] at h6
    exact (h6.keep fun b g1 g2 => hk b (by omega)).mono (by omega) (by omega)
  · exact .inr hh

set_option maxRecDepth 100000 in
set_option maxHeartbeats 2000000 in
theorem value_of {ks : Ks} (d rb tb i : Nat) (s t : ByteArray) (w : World) (h : RdB rb tb s i w) (hi : i ≤ s.size) (hs : s.size ≤ 2000000) (hts : t.size ≤ 3)
    (hrec : (t.toList == [110]) = false → (t.toList == [98]) = false → (t.toList == [111]) = false → Calls Try.prog 69 #[.pointer (some ⟨rb, 0, none⟩), .string t] (w.alloc (.cells #[.string ⟨#[]⟩, .int .i64 0, .slice none 0 0, .slice none 0 0] 27)) (ReadD ks d rb tb s i t (w.alloc (.cells #[.string ⟨#[]⟩, .int .i64 0, .slice none 0 0, .slice none 0 0] 27)))) :
    Calls Try.prog 41 #[.pointer (some ⟨rb, 0, none⟩), .string t] w (ReadD ks d rb tb s i t w) := by
  have hr := h.lt
  have HR0 := Lib.hid (h.alloc (.cells #[.string ⟨#[]⟩, .int .i64 0, .slice none 0 0, .slice none 0 0] 27))
  have HB0 := Lib.hid (Blk.new w 27 #[.string ⟨#[]⟩, .int .i64 0, .slice none 0 0, .slice none 0 0])
  have HW0 := Lib.hid (show Wrote rb (rb + 1) w (w.alloc (.cells #[.string ⟨#[]⟩, .int .i64 0, .slice none 0 0, .slice none 0 0] 27)) from Wrote.of_below ((Below.refl _ _).alloc (Nat.le_refl _) _))
  clear h
  cases c1 : (t.toList == [110])
  · cases c2 : (t.toList == [98])
    · cases c3 : (t.toList == [111])
      · have HC := Lib.hid (hrec c1 c2 c3)
        clear hrec
        go_enter Try.func41, Try.ntmps41
        go_wp2_with fail
        refine HC.out.mono ?_
        rintro e w1 hD
        clear HC
        have hD' := hD
        obtain ⟨hW, i', hi', hR, hh⟩ := hD
        have hB1 : Blk w1 w.heap.size 27 #[.string ⟨#[]⟩, .int .i64 0, .slice none 0 0, .slice none 0 0] := (hW.block _ (by simp) (by omega)).trans HB0.out
        have HB1 := Lib.hid hB1
        have HD := Lib.hid hD'
        have HW1 := Lib.hid (HW0.out.trans hW)
        obtain ⟨y0, y1, y2, y3⟩ := hB1.c2
        obtain ⟨f0, f1, f2, f3⟩ := hB1.f4
        clear hW hB1 hD'
        rcases hh with ⟨v, A, cA, rfl, q1, q2, q3, q4, q5, q6⟩ | ⟨rfl, q1⟩
        · have hl6 := q6.rows
          obtain ⟨_, _, _, ho6, _⟩ := hl6
          obtain ⟨_, _, _, hl7, hl8⟩ := ho6.len_
          clear q1 q2 q3 q4 q5 q6 hl7 hl8 ho6
          obtain ⟨g1, g2, g3, g4, g5⟩ := four_done (w := w) HB1.out hR (by omega) HW1.out (Nat.le_refl _) (.string v.ty) (.int .i64 v.n) (.slice A v.parts.length cA) (.slice none 0 0)
          obtain ⟨z0, z1, z2, z3⟩ := g1.c2
          have HQ := Lib.hid (HD.out.up hr g5 g3 g4)
          obtain ⟨wF, hF⟩ : ∃ wF, wF = set4 w1 w.heap.size (.string v.ty) (.int .i64 v.n) (.slice A v.parts.length cA) (.slice none 0 0) := ⟨_, rfl⟩
          rw [← hF] at z0 z1 z2 z3 HQ
          unfold set4 at hF
          clear g1 g2 g3 g4 g5 hR
          go_wp2_with fail
          rw [← hF]
          exact bodyPost_ret (v := .tuple #[.agg #[.string v.ty, .int .i64 v.n, .slice A v.parts.length cA, .slice none 0 0], .bool true]) (by simp [results, Try.results41, go_sem, z0, z1, z2, z3]) rfl HQ.out
        · clear q1
          obtain ⟨g1, g2, g3, g4, g5⟩ := four_done (w := w) HB1.out hR (by omega) HW1.out (Nat.le_refl _) (.string ⟨#[]⟩) (.int .i64 0) (.slice none 0 0) (.slice none 0 0)
          obtain ⟨z0, z1, z2, z3⟩ := g1.c2
          have HQ := Lib.hid (HD.out.up hr g5 g3 g4)
          obtain ⟨wF, hF⟩ : ∃ wF, wF = set4 w1 w.heap.size (.string ⟨#[]⟩) (.int .i64 0) (.slice none 0 0) (.slice none 0 0) := ⟨_, rfl⟩
          rw [← hF] at z0 z1 z2 z3 HQ
          unfold set4 at hF
          clear g1 g2 g3 g4 g5 hR
          go_wp2_with fail
          rw [← hF]
          exact bodyPost_ret (v := .tuple #[.agg #[.string ⟨#[]⟩, .int .i64 0, .slice none 0 0, .slice none 0 0], .bool false]) (by simp [results, Try.results41, go_sem, z0, z1, z2, z3]) rfl HQ.out
      · have ht : t.toList = [111] := eq_of_beq c3
        have HP := Lib.hid (skip_any rb tb i 64 s _ HR0.out hi hs (by decide))
        have HT := Lib.hid ht
        clear hrec ht
        go_enter Try.func41, Try.ntmps41
        go_wp2_with fail
        refine HP.out.mono ?_
        rintro e w2 ⟨hW2, hh⟩
        rcases hh with ⟨hc, rfl, hR2⟩ | ⟨hc, rfl, hR2⟩
        · obtain ⟨hl, hb0, htl⟩ := atB_hit (by decide) hc
          have HN := Lib.hid (number_any rb tb (i + 1) s t 3 (topB_own c1 c2 c3) (by decide) hts w2 hR2 hl hs)
          have HW2 := Lib.hid hW2
          have HTL := Lib.hid htl
          clear hc hb0 htl hR2 hW2 HP hl
          go_wp2_with fail
          refine HN.out.mono ?_
          rintro e w1 hN
          have hD : ReadD ks d rb tb s i t (w.alloc (.cells #[.string ⟨#[]⟩, .int .i64 0, .slice none 0 0, .slice none 0 0] 27)) e w1 := own_read HT.out hts HTL.out HW2.out hN
          clear hN HN
          have hD' := hD
          obtain ⟨hW, i', hi', hR, hh⟩ := hD
          have hB1 : Blk w1 w.heap.size 27 #[.string ⟨#[]⟩, .int .i64 0, .slice none 0 0, .slice none 0 0] := (hW.block _ (by simp) (by omega)).trans HB0.out
          have HB1 := Lib.hid hB1
          have HD := Lib.hid hD'
          have HW1 := Lib.hid (HW0.out.trans hW)
          obtain ⟨y0, y1, y2, y3⟩ := hB1.c2
          obtain ⟨f0, f1, f2, f3⟩ := hB1.f4
          clear hW hB1 hD'
          rcases hh with ⟨v, A, cA, rfl, q1, q2, q3, q4, q5, q6⟩ | ⟨rfl, q1⟩
          · have hl6 := q6.rows
            obtain ⟨_, _, _, ho6, _⟩ := hl6
            obtain ⟨_, _, _, hl7, hl8⟩ := ho6.len_
            clear q1 q2 q3 q4 q5 q6 hl7 hl8 ho6
            obtain ⟨g1, g2, g3, g4, g5⟩ := four_done (w := w) HB1.out hR (by omega) HW1.out (Nat.le_refl _) (.string v.ty) (.int .i64 v.n) (.slice A v.parts.length cA) (.slice none 0 0)
            obtain ⟨z0, z1, z2, z3⟩ := g1.c2
            have HQ := Lib.hid (HD.out.up hr g5 g3 g4)
            obtain ⟨wF, hF⟩ : ∃ wF, wF = set4 w1 w.heap.size (.string v.ty) (.int .i64 v.n) (.slice A v.parts.length cA) (.slice none 0 0) := ⟨_, rfl⟩
            rw [← hF] at z0 z1 z2 z3 HQ
            unfold set4 at hF
            clear g1 g2 g3 g4 g5 hR
            go_wp2_with fail
            rw [← hF]
            exact bodyPost_ret (v := .tuple #[.agg #[.string v.ty, .int .i64 v.n, .slice A v.parts.length cA, .slice none 0 0], .bool true]) (by simp [results, Try.results41, go_sem, z0, z1, z2, z3]) rfl HQ.out
          · clear q1
            obtain ⟨g1, g2, g3, g4, g5⟩ := four_done (w := w) HB1.out hR (by omega) HW1.out (Nat.le_refl _) (.string ⟨#[]⟩) (.int .i64 0) (.slice none 0 0) (.slice none 0 0)
            obtain ⟨z0, z1, z2, z3⟩ := g1.c2
            have HQ := Lib.hid (HD.out.up hr g5 g3 g4)
            obtain ⟨wF, hF⟩ : ∃ wF, wF = set4 w1 w.heap.size (.string ⟨#[]⟩) (.int .i64 0) (.slice none 0 0) (.slice none 0 0) := ⟨_, rfl⟩
            rw [← hF] at z0 z1 z2 z3 HQ
            unfold set4 at hF
            clear g1 g2 g3 g4 g5 hR
            go_wp2_with fail
            rw [← hF]
            exact bodyPost_ret (v := .tuple #[.agg #[.string ⟨#[]⟩, .int .i64 0, .slice none 0 0, .slice none 0 0], .bool false]) (by simp [results, Try.results41, go_sem, z0, z1, z2, z3]) rfl HQ.out
        · have hB1 : Blk w2 w.heap.size 27 #[.string ⟨#[]⟩, .int .i64 0, .slice none 0 0, .slice none 0 0] := (hW2.block _ (by simp) (by omega)).trans HB0.out
          have HB1 := Lib.hid hB1
          have HW1 := Lib.hid (HW0.out.trans hW2)
          have hR := hR2
          have HD := Lib.hid (show ReadD ks d rb tb s i t (w.alloc (.cells #[.string ⟨#[]⟩, .int .i64 0, .slice none 0 0, .slice none 0 0] 27)) (.returned (.tuple #[.agg #[.string ⟨#[]⟩, .int .i64 0, .slice none 0 0, .slice none 0 0], .bool false])) w2 from ⟨hW2, i, hi, hR2, .inr ⟨rfl, own_miss HT.out hc⟩⟩)
          obtain ⟨y0, y1, y2, y3⟩ := hB1.c2
          obtain ⟨f0, f1, f2, f3⟩ := hB1.f4
          clear hW2 hB1 hc hR2 HP
          obtain ⟨g1, g2, g3, g4, g5⟩ := four_done (w := w) HB1.out hR (by omega) HW1.out (Nat.le_refl _) (.string ⟨#[]⟩) (.int .i64 0) (.slice none 0 0) (.slice none 0 0)
          obtain ⟨z0, z1, z2, z3⟩ := g1.c2
          have HQ := Lib.hid (HD.out.up hr g5 g3 g4)
          obtain ⟨wF, hF⟩ : ∃ wF, wF = set4 w2 w.heap.size (.string ⟨#[]⟩) (.int .i64 0) (.slice none 0 0) (.slice none 0 0) := ⟨_, rfl⟩
          rw [← hF] at z0 z1 z2 z3 HQ
          unfold set4 at hF
          clear g1 g2 g3 g4 g5 hR
          go_wp2_with fail
          rw [← hF]
          exact bodyPost_ret (v := .tuple #[.agg #[.string ⟨#[]⟩, .int .i64 0, .slice none 0 0, .slice none 0 0], .bool false]) (by simp [results, Try.results41, go_sem, z0, z1, z2, z3]) rfl HQ.out
    · have ht : t = bT := ext_toList ((eq_of_beq c2).trans bT_list.symm)
      subst ht
      have HC := Lib.hid (truth_any ks d rb tb i s _ HR0.out hi hs)
      clear hrec
      go_enter Try.func41, Try.ntmps41
      go_wp2_with fail
      refine HC.out.mono ?_
      rintro e w1 hD
      clear HC
      have hD' := hD
      obtain ⟨hW, i', hi', hR, hh⟩ := hD
      have hB1 : Blk w1 w.heap.size 27 #[.string ⟨#[]⟩, .int .i64 0, .slice none 0 0, .slice none 0 0] := (hW.block _ (by simp) (by omega)).trans HB0.out
      have HB1 := Lib.hid hB1
      have HD := Lib.hid hD'
      have HW1 := Lib.hid (HW0.out.trans hW)
      obtain ⟨y0, y1, y2, y3⟩ := hB1.c2
      obtain ⟨f0, f1, f2, f3⟩ := hB1.f4
      clear hW hB1 hD'
      rcases hh with ⟨v, A, cA, rfl, q1, q2, q3, q4, q5, q6⟩ | ⟨rfl, q1⟩
      · have hl6 := q6.rows
        obtain ⟨_, _, _, ho6, _⟩ := hl6
        obtain ⟨_, _, _, hl7, hl8⟩ := ho6.len_
        clear q1 q2 q3 q4 q5 q6 hl7 hl8 ho6
        obtain ⟨g1, g2, g3, g4, g5⟩ := four_done (w := w) HB1.out hR (by omega) HW1.out (Nat.le_refl _) (.string v.ty) (.int .i64 v.n) (.slice A v.parts.length cA) (.slice none 0 0)
        obtain ⟨z0, z1, z2, z3⟩ := g1.c2
        have HQ := Lib.hid (HD.out.up hr g5 g3 g4)
        obtain ⟨wF, hF⟩ : ∃ wF, wF = set4 w1 w.heap.size (.string v.ty) (.int .i64 v.n) (.slice A v.parts.length cA) (.slice none 0 0) := ⟨_, rfl⟩
        rw [← hF] at z0 z1 z2 z3 HQ
        unfold set4 at hF
        clear g1 g2 g3 g4 g5 hR
        go_wp2_with fail
        rw [← hF]
        exact bodyPost_ret (v := .tuple #[.agg #[.string v.ty, .int .i64 v.n, .slice A v.parts.length cA, .slice none 0 0], .bool true]) (by simp [results, Try.results41, go_sem, z0, z1, z2, z3]) rfl HQ.out
      · clear q1
        obtain ⟨g1, g2, g3, g4, g5⟩ := four_done (w := w) HB1.out hR (by omega) HW1.out (Nat.le_refl _) (.string ⟨#[]⟩) (.int .i64 0) (.slice none 0 0) (.slice none 0 0)
        obtain ⟨z0, z1, z2, z3⟩ := g1.c2
        have HQ := Lib.hid (HD.out.up hr g5 g3 g4)
        obtain ⟨wF, hF⟩ : ∃ wF, wF = set4 w1 w.heap.size (.string ⟨#[]⟩) (.int .i64 0) (.slice none 0 0) (.slice none 0 0) := ⟨_, rfl⟩
        rw [← hF] at z0 z1 z2 z3 HQ
        unfold set4 at hF
        clear g1 g2 g3 g4 g5 hR
        go_wp2_with fail
        rw [← hF]
        exact bodyPost_ret (v := .tuple #[.agg #[.string ⟨#[]⟩, .int .i64 0, .slice none 0 0, .slice none 0 0], .bool false]) (by simp [results, Try.results41, go_sem, z0, z1, z2, z3]) rfl HQ.out
  · have HC := Lib.hid ((number_any rb tb i s t 1000000 (topB_num c1) (Nat.le_refl _) hts _ HR0.out hi hs).mono fun e w' h => num_read (ks := ks) (d := d) c1 hts h)
    clear hrec
    go_enter Try.func41, Try.ntmps41
    go_wp2_with fail
    refine HC.out.mono ?_
    rintro e w1 hD
    clear HC
    have hD' := hD
    obtain ⟨hW, i', hi', hR, hh⟩ := hD
    have hB1 : Blk w1 w.heap.size 27 #[.string ⟨#[]⟩, .int .i64 0, .slice none 0 0, .slice none 0 0] := (hW.block _ (by simp) (by omega)).trans HB0.out
    have HB1 := Lib.hid hB1
    have HD := Lib.hid hD'
    have HW1 := Lib.hid (HW0.out.trans hW)
    obtain ⟨y0, y1, y2, y3⟩ := hB1.c2
    obtain ⟨f0, f1, f2, f3⟩ := hB1.f4
    clear hW hB1 hD'
    rcases hh with ⟨v, A, cA, rfl, q1, q2, q3, q4, q5, q6⟩ | ⟨rfl, q1⟩
    · have hl6 := q6.rows
      obtain ⟨_, _, _, ho6, _⟩ := hl6
      obtain ⟨_, _, _, hl7, hl8⟩ := ho6.len_
      clear q1 q2 q3 q4 q5 q6 hl7 hl8 ho6
      obtain ⟨g1, g2, g3, g4, g5⟩ := four_done (w := w) HB1.out hR (by omega) HW1.out (Nat.le_refl _) (.string v.ty) (.int .i64 v.n) (.slice A v.parts.length cA) (.slice none 0 0)
      obtain ⟨z0, z1, z2, z3⟩ := g1.c2
      have HQ := Lib.hid (HD.out.up hr g5 g3 g4)
      obtain ⟨wF, hF⟩ : ∃ wF, wF = set4 w1 w.heap.size (.string v.ty) (.int .i64 v.n) (.slice A v.parts.length cA) (.slice none 0 0) := ⟨_, rfl⟩
      rw [← hF] at z0 z1 z2 z3 HQ
      unfold set4 at hF
      clear g1 g2 g3 g4 g5 hR
      go_wp2_with fail
      rw [← hF]
      exact bodyPost_ret (v := .tuple #[.agg #[.string v.ty, .int .i64 v.n, .slice A v.parts.length cA, .slice none 0 0], .bool true]) (by simp [results, Try.results41, go_sem, z0, z1, z2, z3]) rfl HQ.out
    · clear q1
      obtain ⟨g1, g2, g3, g4, g5⟩ := four_done (w := w) HB1.out hR (by omega) HW1.out (Nat.le_refl _) (.string ⟨#[]⟩) (.int .i64 0) (.slice none 0 0) (.slice none 0 0)
      obtain ⟨z0, z1, z2, z3⟩ := g1.c2
      have HQ := Lib.hid (HD.out.up hr g5 g3 g4)
      obtain ⟨wF, hF⟩ : ∃ wF, wF = set4 w1 w.heap.size (.string ⟨#[]⟩) (.int .i64 0) (.slice none 0 0) (.slice none 0 0) := ⟨_, rfl⟩
      rw [← hF] at z0 z1 z2 z3 HQ
      unfold set4 at hF
      clear g1 g2 g3 g4 g5 hR
      go_wp2_with fail
      rw [← hF]
      exact bodyPost_ret (v := .tuple #[.agg #[.string ⟨#[]⟩, .int .i64 0, .slice none 0 0, .slice none 0 0], .bool false]) (by simp [results, Try.results41, go_sem, z0, z1, z2, z3]) rfl HQ.out
end Go.Proofs.Ytbjnjdhkillbiaa
