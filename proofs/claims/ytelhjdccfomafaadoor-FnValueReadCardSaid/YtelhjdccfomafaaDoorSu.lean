/- The model's reader: a value that is no record, or of which there is too little. The model's reader: what is in memory while a record is read. No walk. The model's reader: a record. -/
import Derived.Test.YtelhjdccfomafaaDoorSs
namespace Go.Proofs.YtelhjdccfomafaaDoor
open Go.RowKit

theorem next_hit (rb i b : Nat) (s : ByteArray) (w : World) (h : MrB rb s i false w) (hi : i ≤ s.size) (hs : s.size ≤ 2000000) (h0 : 0 < b) (hb : b < 256) (hc : atB s i = b) :
    Calls Tryd.prog 50 #[.pointer (some ⟨rb, 0, none⟩), .int .u8 b] w fun e w' => e = .returned (.bool true) ∧ Wrote rb (rb + 1) w w' ∧ MrB rb s (i + 1) false w' :=
  (next_any rb i b s w h hi hs h0 hb).mono fun e w' ⟨hW, hh⟩ => by
    rcases hh with ⟨_, h1, h2⟩ | ⟨h1, _⟩
    · exact ⟨h1, hW, h2⟩
    · exact absurd hc h1
theorem next_miss (rb i b : Nat) (s : ByteArray) (w : World) (h : MrB rb s i false w) (hi : i ≤ s.size) (hs : s.size ≤ 2000000) (h0 : 0 < b) (hb : b < 256) (hc : atB s i ≠ b) :
    Calls Tryd.prog 50 #[.pointer (some ⟨rb, 0, none⟩), .int .u8 b] w fun e w' => e = .returned (.bool false) ∧ Wrote rb (rb + 1) w w' ∧ MrB rb s i false w' :=
  (next_any rb i b s w h hi hs h0 hb).mono fun e w' ⟨hW, hh⟩ => by
    rcases hh with ⟨h1, _⟩ | ⟨_, h1, h2⟩
    · exact absurd h1 hc
    · exact ⟨h1, hW, h2⟩

/-- What the model's reader hands back at a place. -/
def ValM (ks : Ks) (rb : Nat) (s : ByteArray) (i : Nat) (w : World) (e : Ending) (w' : World) : Prop :=
  Wrote rb (rb + 1) w w' ∧ ∃ (i' : Nat) (bad : Bool) (d : Nat) (v : Val) (A : Option Addr) (cA : Nat), (bad = false → i < i') ∧ i ≤ i' ∧ i' ≤ s.size ∧ MrB rb s i' bad w' ∧ e = .returned (.agg #[.string v.ty, .int .i64 v.n, .slice A v.parts.length cA, .slice none 0 0]) ∧ v.path = [] ∧
    VRd (Cod.val d) (Fresh w w') w' (.slice A v.parts.length cA) (.slice none 0 0) v ∧ GoodM ks s i i' bad v

theorem plain_rd (ty : ByteArray) (n : Int) (ht : ty.size ≤ 3) (h0 : 0 ≤ n) (h1 : n ≤ 1000000000) (F : Nat → Prop) (w : World) : VRd (Cod.val 0) F w (.slice none 0 0) (.slice none 0 0) (.mk ty n [] []) :=
  ⟨by show ty.size ≤ maxLen; unfold maxLen; omega, by show I64 n; unfold I64; omega, Cod.Sl.nil_, Cod.Sl.nil_⟩

/-- The answer stored. -/
theorem ans_done {rb i b : Nat} {s : ByteArray} {bad : Bool} {t : TypeId} {w w1 : World} {x0 x1 x2 x3 : Value} (hB : Blk w1 b t #[x0, x1, x2, x3]) (hR : MrB rb s i bad w1) (hne : rb ≠ b) (hW : Wrote rb (rb + 1) w w1) (hb : w.heap.size ≤ b) (a0 a1 a2 a3 : Value) :
    Blk (set4 w1 b a0 a1 a2 a3) b t #[a0, a1, a2, a3] ∧ MrB rb s i bad (set4 w1 b a0 a1 a2 a3) ∧ Wrote rb (rb + 1) w (set4 w1 b a0 a1 a2 a3) := by
  have hk : ∀ b', b' ≠ b → (set4 w1 b a0 a1 a2 a3).heap[b']? = w1.heap[b']? := fun b' h => set4at_far (o := 0) h
  have hs : (set4 w1 b a0 a1 a2 a3).heap.size = w1.heap.size := by simp [World.setCell]
  exact ⟨(((hB.set_ 0 a0).set_ 1 a1).set_ 2 a2).set_ 3 a3, (hk rb hne).trans hR, ⟨hW.os, hW.tape, hW.output, by rw [hs]; exact hW.size, fun b' h1 h2 => (hk b' (by omega)).trans (hW.block b' h1 h2)⟩⟩
theorem num_small {s : ByteArray} {i p : Nat} (hd : DigAt s i (p - i)) (hp : i ≤ p) (h8 : p ≤ i + 8) (hs : p ≤ s.size) : numAt s i p ≤ 100000000 := by
  have h1 := numAt_bound hd hp h8 hs
  have h2 : 10 ^ (p - i) ≤ 10 ^ 8 := Nat.pow_le_pow_right (by decide) (by omega)
  omega

set_option maxRecDepth 100000 in
set_option maxHeartbeats 4000000 in
theorem valueM_base {ks : Ks} (rb i : Nat) (s : ByteArray) (w : World) (h : MrB rb s i false w) (hi : i ≤ s.size) (hs : s.size ≤ 2000000) (hno : atB s i ≠ 83 ∨ s.size < i + 3) :
    Calls Tryd.prog 33 #[.pointer (some ⟨rb, 0, none⟩)] w (ValM ks rb s i w) := by
  have hr := h.lt
  have HM := Lib.hid (h.alloc (.cells #[.string ⟨#[]⟩, .int .i64 0, .slice none 0 0, .slice none 0 0] 27))
  have HB := Lib.hid (Blk.new w 27 #[.string ⟨#[]⟩, .int .i64 0, .slice none 0 0, .slice none 0 0])
  have HW := Lib.hid (show Wrote rb (rb + 1) w (w.alloc (.cells #[.string ⟨#[]⟩, .int .i64 0, .slice none 0 0, .slice none 0 0] 27)) from Wrote.of_below ((Below.refl _ _).alloc (Nat.le_refl _) _))
  clear h
  by_cases h45 : atB s i = 45
  · have H45 := Lib.hid h45
    have hl : i < s.size := (atB_hit (by decide) h45).1
    clear h45 hno
    go_enter Tryd.func33, Tryd.ntmps33
    go_wp2_with fail
    refine (next_hit rb i 45 s _ HM.out (by omega) hs (by decide) (by decide) H45.out).mono ?_
    rintro e w2 ⟨rfl, hWw2, hMw2⟩
    have HBw2 := Lib.hid (show Blk w2 w.heap.size 27 #[.string ⟨#[]⟩, .int .i64 0, .slice none 0 0, .slice none 0 0] from (hWw2.block _ HB.out.lt (by omega)).trans HB.out)
    have HWw2 := Lib.hid (HW.out.trans hWw2)
    have HMw2 := Lib.hid hMw2
    clear hWw2 hMw2 HM HB HW
    obtain ⟨g1, g2, g3⟩ := ans_done (w := w) HBw2.out HMw2.out (by omega) HWw2.out (Nat.le_refl _) (.string ⟨#[98]⟩) (.int .i64 0) (.slice none 0 0) (.slice none 0 0)
    obtain ⟨z0, z1, z2, z3⟩ := g1.c2
    have HQ := Lib.hid (show ValM ks rb s i w (.returned (.agg #[.string ⟨#[98]⟩, .int .i64 0, .slice none 0 0, .slice none 0 0])) (set4 w2 w.heap.size (.string ⟨#[98]⟩) (.int .i64 0) (.slice none 0 0) (.slice none 0 0)) from
      ⟨g3, i + 1, false, 0, truV 0, none, 0, fun _ => by omega, by omega, hl, g2, rfl, rfl, plain_rd _ _ (by decide) (by decide) (by decide) _ _, good_truth (.inl ⟨rfl, rfl⟩) H45.out⟩)
    obtain ⟨wF, hF⟩ : ∃ wF, wF = set4 w2 w.heap.size (.string ⟨#[98]⟩) (.int .i64 0) (.slice none 0 0) (.slice none 0 0) := ⟨_, rfl⟩
    rw [← hF] at z0 z1 z2 z3 HQ
    unfold set4 at hF
    obtain ⟨y0, y1, y2, y3⟩ := HBw2.out.c2
    obtain ⟨f0, f1, f2, f3⟩ := HBw2.out.f4
    clear g1 g2 g3
    go_wp2_with fail
    rw [← hF]
    exact bodyPost_ret (v := .agg #[.string ⟨#[98]⟩, .int .i64 0, .slice none 0 0, .slice none 0 0]) (by simp [results, Tryd.results33, go_sem, z0, z1, z2, z3]) rfl HQ.out
  by_cases h43 : atB s i = 43
  · have H45 := Lib.hid h45
    have H43 := Lib.hid h43
    have hl : i < s.size := (atB_hit (by decide) h43).1
    clear h45 h43 hno
    go_enter Tryd.func33, Tryd.ntmps33
    go_wp2_with fail
    refine (next_miss rb i 45 s _ HM.out (by omega) hs (by decide) (by decide) H45.out).mono ?_
    rintro e w2 ⟨rfl, hWw2, hMw2⟩
    have HBw2 := Lib.hid (show Blk w2 w.heap.size 27 #[.string ⟨#[]⟩, .int .i64 0, .slice none 0 0, .slice none 0 0] from (hWw2.block _ HB.out.lt (by omega)).trans HB.out)
    have HWw2 := Lib.hid (HW.out.trans hWw2)
    have HMw2 := Lib.hid hMw2
    clear hWw2 hMw2 HM HB HW
    go_wp2_with fail
    refine (next_hit rb i 43 s _ HMw2.out (by omega) hs (by decide) (by decide) H43.out).mono ?_
    rintro e w3 ⟨rfl, hWw3, hMw3⟩
    have HBw3 := Lib.hid (show Blk w3 w.heap.size 27 #[.string ⟨#[]⟩, .int .i64 0, .slice none 0 0, .slice none 0 0] from (hWw3.block _ HBw2.out.lt (by omega)).trans HBw2.out)
    have HWw3 := Lib.hid (HWw2.out.trans hWw3)
    have HMw3 := Lib.hid hMw3
    clear hWw3 hMw3 HMw2 HBw2 HWw2
    obtain ⟨g1, g2, g3⟩ := ans_done (w := w) HBw3.out HMw3.out (by omega) HWw3.out (Nat.le_refl _) (.string ⟨#[98]⟩) (.int .i64 1) (.slice none 0 0) (.slice none 0 0)
    obtain ⟨z0, z1, z2, z3⟩ := g1.c2
    have HQ := Lib.hid (show ValM ks rb s i w (.returned (.agg #[.string ⟨#[98]⟩, .int .i64 1, .slice none 0 0, .slice none 0 0])) (set4 w3 w.heap.size (.string ⟨#[98]⟩) (.int .i64 1) (.slice none 0 0) (.slice none 0 0)) from
      ⟨g3, i + 1, false, 0, truV 1, none, 0, fun _ => by omega, by omega, hl, g2, rfl, rfl, plain_rd _ _ (by decide) (by decide) (by decide) _ _, good_truth (.inr ⟨rfl, rfl⟩) H43.out⟩)
    obtain ⟨wF, hF⟩ : ∃ wF, wF = set4 w3 w.heap.size (.string ⟨#[98]⟩) (.int .i64 1) (.slice none 0 0) (.slice none 0 0) := ⟨_, rfl⟩
    rw [← hF] at z0 z1 z2 z3 HQ
    unfold set4 at hF
    obtain ⟨y0, y1, y2, y3⟩ := HBw3.out.c2
    obtain ⟨f0, f1, f2, f3⟩ := HBw3.out.f4
    clear g1 g2 g3
    go_wp2_with fail
    rw [← hF]
    exact bodyPost_ret (v := .agg #[.string ⟨#[98]⟩, .int .i64 1, .slice none 0 0, .slice none 0 0]) (by simp [results, Tryd.results33, go_sem, z0, z1, z2, z3]) rfl HQ.out
  by_cases h64 : atB s i = 64
  · have H45 := Lib.hid h45
    have H43 := Lib.hid h43
    have H64 := Lib.hid h64
    have hl : i < s.size := (atB_hit (by decide) h64).1
    clear h45 h43 h64 hno
    go_enter Tryd.func33, Tryd.ntmps33
    go_wp2_with fail
    refine (next_miss rb i 45 s _ HM.out (by omega) hs (by decide) (by decide) H45.out).mono ?_
    rintro e w2 ⟨rfl, hWw2, hMw2⟩
    have HBw2 := Lib.hid (show Blk w2 w.heap.size 27 #[.string ⟨#[]⟩, .int .i64 0, .slice none 0 0, .slice none 0 0] from (hWw2.block _ HB.out.lt (by omega)).trans HB.out)
    have HWw2 := Lib.hid (HW.out.trans hWw2)
    have HMw2 := Lib.hid hMw2
    clear hWw2 hMw2 HM HB HW
    go_wp2_with fail
    refine (next_miss rb i 43 s _ HMw2.out (by omega) hs (by decide) (by decide) H43.out).mono ?_
    rintro e w3 ⟨rfl, hWw3, hMw3⟩
    have HBw3 := Lib.hid (show Blk w3 w.heap.size 27 #[.string ⟨#[]⟩, .int .i64 0, .slice none 0 0, .slice none 0 0] from (hWw3.block _ HBw2.out.lt (by omega)).trans HBw2.out)
    have HWw3 := Lib.hid (HWw2.out.trans hWw3)
    have HMw3 := Lib.hid hMw3
    clear hWw3 hMw3 HMw2 HBw2 HWw2
    go_wp2_with fail
    refine (next_hit rb i 64 s _ HMw3.out (by omega) hs (by decide) (by decide) H64.out).mono ?_
    rintro e w4 ⟨rfl, hWw4, hMw4⟩
    have HBw4 := Lib.hid (show Blk w4 w.heap.size 27 #[.string ⟨#[]⟩, .int .i64 0, .slice none 0 0, .slice none 0 0] from (hWw4.block _ HBw3.out.lt (by omega)).trans HBw3.out)
    have HWw4 := Lib.hid (HWw3.out.trans hWw4)
    have HMw4 := Lib.hid hMw4
    clear hWw4 hMw4 HMw3 HBw3 HWw3
    go_wp2_with fail
    refine (numberM_any rb (i + 1) s _ HMw4.out hl hs).mono ?_
    rintro e w5 ⟨hW, p, q1, q2, q3, q4, q5, rfl, hM⟩
    have HBw5 := Lib.hid (show Blk w5 w.heap.size 27 #[.string ⟨#[]⟩, .int .i64 0, .slice none 0 0, .slice none 0 0] from (hW.block _ HBw4.out.lt (by omega)).trans HBw4.out)
    have HWw5 := Lib.hid (HWw4.out.trans hW)
    have HMw5 := Lib.hid hM
    have HN := Lib.hid (num_small q4 q1 q2 q3)
    have Hq := Lib.hid (show _ ∧ _ ∧ _ ∧ _ from ⟨q1, q3, q4, q5⟩)
    clear hW hM q1 q2 q3 q4 q5
    obtain ⟨g1, g2, g3⟩ := ans_done (w := w) HBw5.out HMw5.out (by omega) HWw5.out (Nat.le_refl _) (.string ⟨#[111]⟩) (.int .i64 (numAt s (i + 1) p : Nat)) (.slice none 0 0) (.slice none 0 0)
    obtain ⟨z0, z1, z2, z3⟩ := g1.c2
    have HQ := Lib.hid (show ValM ks rb s i w (.returned (.agg #[.string ⟨#[111]⟩, .int .i64 (numAt s (i + 1) p : Nat), .slice none 0 0, .slice none 0 0])) (set4 w5 w.heap.size (.string ⟨#[111]⟩) (.int .i64 (numAt s (i + 1) p : Nat)) (.slice none 0 0) (.slice none 0 0)) from
      ⟨g3, p, _, 0, numV ⟨#[111]⟩ (numAt s (i + 1) p), none, 0, fun _ => by have := Hq.out.1; omega, by have := Hq.out.1; omega, Hq.out.2.1, g2, rfl, rfl, plain_rd _ _ (by decide) (by omega) (by have := HN.out; omega) _ _, good_owner H64.out Hq.out.1 Hq.out.2.1 Hq.out.2.2.1 Hq.out.2.2.2⟩)
    obtain ⟨wF, hF⟩ : ∃ wF, wF = set4 w5 w.heap.size (.string ⟨#[111]⟩) (.int .i64 (numAt s (i + 1) p : Nat)) (.slice none 0 0) (.slice none 0 0) := ⟨_, rfl⟩
    rw [← hF] at z0 z1 z2 z3 HQ
    unfold set4 at hF
    obtain ⟨y0, y1, y2, y3⟩ := HBw5.out.c2
    obtain ⟨f0, f1, f2, f3⟩ := HBw5.out.f4
    clear g1 g2 g3
    go_wp2_with fail
    rw [← hF]
    exact bodyPost_ret (v := .agg #[.string ⟨#[111]⟩, .int .i64 (numAt s (i + 1) p : Nat), .slice none 0 0, .slice none 0 0]) (by simp [results, Tryd.results33, go_sem, z0, z1, z2, z3]) rfl HQ.out
  by_cases h83 : atB s i ≠ 83
  · have H45 := Lib.hid h45
    have H43 := Lib.hid h43
    have H64 := Lib.hid h64
    have H83 := Lib.hid h83
    clear h45 h43 h64 hno
    by_cases hl : i < s.size
    · have c0 : decide (s.size ≤ i) = false := by rw [decide_eq_false_iff_not]; omega
      have c0b : ¬ (s.size : Int) ≤ (i : Int) := by omega
      have c1 : (((s[i]'hl).toNat : Int) != 83) = true := by
        rw [bne_iff_ne]
        have := H83.out
        unfold atB at this
        rw [dif_pos hl] at this
        omega
      clear h83
      go_enter Tryd.func33, Tryd.ntmps33
      go_wp2_with fail
      refine (next_miss rb i 45 s _ HM.out (by omega) hs (by decide) (by decide) H45.out).mono ?_
      rintro e w2 ⟨rfl, hWw2, hMw2⟩
      have HBw2 := Lib.hid (show Blk w2 w.heap.size 27 #[.string ⟨#[]⟩, .int .i64 0, .slice none 0 0, .slice none 0 0] from (hWw2.block _ HB.out.lt (by omega)).trans HB.out)
      have HWw2 := Lib.hid (HW.out.trans hWw2)
      have HMw2 := Lib.hid hMw2
      clear hWw2 hMw2 HM HB HW
      go_wp2_with fail
      refine (next_miss rb i 43 s _ HMw2.out (by omega) hs (by decide) (by decide) H43.out).mono ?_
      rintro e w3 ⟨rfl, hWw3, hMw3⟩
      have HBw3 := Lib.hid (show Blk w3 w.heap.size 27 #[.string ⟨#[]⟩, .int .i64 0, .slice none 0 0, .slice none 0 0] from (hWw3.block _ HBw2.out.lt (by omega)).trans HBw2.out)
      have HWw3 := Lib.hid (HWw2.out.trans hWw3)
      have HMw3 := Lib.hid hMw3
      clear hWw3 hMw3 HMw2 HBw2 HWw2
      go_wp2_with fail
      refine (next_miss rb i 64 s _ HMw3.out (by omega) hs (by decide) (by decide) H64.out).mono ?_
      rintro e w4 ⟨rfl, hWw4, hMw4⟩
      have HBw4 := Lib.hid (show Blk w4 w.heap.size 27 #[.string ⟨#[]⟩, .int .i64 0, .slice none 0 0, .slice none 0 0] from (hWw4.block _ HBw3.out.lt (by omega)).trans HBw3.out)
      have HWw4 := Lib.hid (HWw3.out.trans hWw4)
      have HMw4 := Lib.hid hMw4
      clear hWw4 hMw4 HMw3 HBw3 HWw3
      obtain ⟨x0, x1, x2⟩ := HMw4.out.c
      go_wp2_with fail
      go_quiet (fail)
      clear x0 x1 x2
      have HMd := Lib.hid (HMw4.out.drewN nq)
      have HWd := Lib.hid (HWw4.out.drewN nq)
      go_wp2_with fail
      refine (numberM_any rb i s _ HMd.out (by omega) hs).mono ?_
      rintro e w5 ⟨hW, p, q1, q2, q3, q4, q5, rfl, hM⟩
      have HBw5 := Lib.hid (show Blk w5 w.heap.size 27 #[.string ⟨#[]⟩, .int .i64 0, .slice none 0 0, .slice none 0 0] from (hW.block _ HBw4.out.lt (by omega)).trans HBw4.out)
      have HWw5 := Lib.hid (HWd.out.trans hW)
      have HMw5 := Lib.hid hM
      have HN := Lib.hid (num_small q4 q1 q2 q3)
      have Hq := Lib.hid (show _ ∧ _ ∧ _ ∧ _ from ⟨q1, q3, q4, q5⟩)
      clear hW hM q1 q2 q3 q4 q5
      obtain ⟨g1, g2, g3⟩ := ans_done (w := w) HBw5.out HMw5.out (by omega) HWw5.out (Nat.le_refl _) (.string ⟨#[110]⟩) (.int .i64 (numAt s i p : Nat)) (.slice none 0 0) (.slice none 0 0)
      obtain ⟨z0, z1, z2, z3⟩ := g1.c2
      have HQ := Lib.hid (show ValM ks rb s i w (.returned (.agg #[.string ⟨#[110]⟩, .int .i64 (numAt s i p : Nat), .slice none 0 0, .slice none 0 0])) (set4 w5 w.heap.size (.string ⟨#[110]⟩) (.int .i64 (numAt s i p : Nat)) (.slice none 0 0) (.slice none 0 0)) from
        ⟨g3, p, _, 0, numV ⟨#[110]⟩ (numAt s i p), none, 0, (fun hb => by have h1 := Hq.out.1; rcases Nat.eq_or_lt_of_le h1 with h2 | h2; (rw [decide_eq_true h2.symm] at hb; cases hb); exact h2), Hq.out.1, Hq.out.2.1, g2, rfl, rfl, plain_rd _ _ (by decide) (by omega) (by have := HN.out; omega) _ _, good_number Hq.out.1 Hq.out.2.1 Hq.out.2.2.1 Hq.out.2.2.2 H45.out H43.out H64.out H83.out⟩)
      obtain ⟨wF, hF⟩ : ∃ wF, wF = set4 w5 w.heap.size (.string ⟨#[110]⟩) (.int .i64 (numAt s i p : Nat)) (.slice none 0 0) (.slice none 0 0) := ⟨_, rfl⟩
      rw [← hF] at z0 z1 z2 z3 HQ
      unfold set4 at hF
      obtain ⟨y0, y1, y2, y3⟩ := HBw5.out.c2
      obtain ⟨f0, f1, f2, f3⟩ := HBw5.out.f4
      clear g1 g2 g3
      go_wp2_with fail
      rw [← hF]
      exact bodyPost_ret (v := .agg #[.string ⟨#[110]⟩, .int .i64 (numAt s i p : Nat), .slice none 0 0, .slice none 0 0]) (by simp [results, Tryd.results33, go_sem, z0, z1, z2, z3]) rfl HQ.out
    · have c0 : decide (s.size ≤ i) = true := by rw [decide_eq_true_eq]; omega
      have c0b : (s.size : Int) ≤ (i : Int) := by omega
      clear h83 hl
      go_enter Tryd.func33, Tryd.ntmps33
      go_wp2_with fail
      refine (next_miss rb i 45 s _ HM.out (by omega) hs (by decide) (by decide) H45.out).mono ?_
      rintro e w2 ⟨rfl, hWw2, hMw2⟩
      have HBw2 := Lib.hid (show Blk w2 w.heap.size 27 #[.string ⟨#[]⟩, .int .i64 0, .slice none 0 0, .slice none 0 0] from (hWw2.block _ HB.out.lt (by omega)).trans HB.out)
      have HWw2 := Lib.hid (HW.out.trans hWw2)
      have HMw2 := Lib.hid hMw2
      clear hWw2 hMw2 HM HB HW
      go_wp2_with fail
      refine (next_miss rb i 43 s _ HMw2.out (by omega) hs (by decide) (by decide) H43.out).mono ?_
      rintro e w3 ⟨rfl, hWw3, hMw3⟩
      have HBw3 := Lib.hid (show Blk w3 w.heap.size 27 #[.string ⟨#[]⟩, .int .i64 0, .slice none 0 0, .slice none 0 0] from (hWw3.block _ HBw2.out.lt (by omega)).trans HBw2.out)
      have HWw3 := Lib.hid (HWw2.out.trans hWw3)
      have HMw3 := Lib.hid hMw3
      clear hWw3 hMw3 HMw2 HBw2 HWw2
      go_wp2_with fail
      refine (next_miss rb i 64 s _ HMw3.out (by omega) hs (by decide) (by decide) H64.out).mono ?_
      rintro e w4 ⟨rfl, hWw4, hMw4⟩
      have HBw4 := Lib.hid (show Blk w4 w.heap.size 27 #[.string ⟨#[]⟩, .int .i64 0, .slice none 0 0, .slice none 0 0] from (hWw4.block _ HBw3.out.lt (by omega)).trans HBw3.out)
      have HWw4 := Lib.hid (HWw3.out.trans hWw4)
      have HMw4 := Lib.hid hMw4
      clear hWw4 hMw4 HMw3 HBw3 HWw3
      obtain ⟨x0, x1, x2⟩ := HMw4.out.c
      go_wp2_with fail
      go_quiet (fail)
      clear x0 x1 x2
      have HMd := Lib.hid (HMw4.out.drewN nq)
      have HWd := Lib.hid (HWw4.out.drewN nq)
      go_wp2_with fail
      refine (numberM_any rb i s _ HMd.out (by omega) hs).mono ?_
      rintro e w5 ⟨hW, p, q1, q2, q3, q4, q5, rfl, hM⟩
      have HBw5 := Lib.hid (show Blk w5 w.heap.size 27 #[.string ⟨#[]⟩, .int .i64 0, .slice none 0 0, .slice none 0 0] from (hW.block _ HBw4.out.lt (by omega)).trans HBw4.out)
      have HWw5 := Lib.hid (HWd.out.trans hW)
      have HMw5 := Lib.hid hM
      have HN := Lib.hid (num_small q4 q1 q2 q3)
      have Hq := Lib.hid (show _ ∧ _ ∧ _ ∧ _ from ⟨q1, q3, q4, q5⟩)
      clear hW hM q1 q2 q3 q4 q5
      obtain ⟨g1, g2, g3⟩ := ans_done (w := w) HBw5.out HMw5.out (by omega) HWw5.out (Nat.le_refl _) (.string ⟨#[110]⟩) (.int .i64 (numAt s i p : Nat)) (.slice none 0 0) (.slice none 0 0)
      obtain ⟨z0, z1, z2, z3⟩ := g1.c2
      have HQ := Lib.hid (show ValM ks rb s i w (.returned (.agg #[.string ⟨#[110]⟩, .int .i64 (numAt s i p : Nat), .slice none 0 0, .slice none 0 0])) (set4 w5 w.heap.size (.string ⟨#[110]⟩) (.int .i64 (numAt s i p : Nat)) (.slice none 0 0) (.slice none 0 0)) from
        ⟨g3, p, _, 0, numV ⟨#[110]⟩ (numAt s i p), none, 0, (fun hb => by have h1 := Hq.out.1; rcases Nat.eq_or_lt_of_le h1 with h2 | h2; (rw [decide_eq_true h2.symm] at hb; cases hb); exact h2), Hq.out.1, Hq.out.2.1, g2, rfl, rfl, plain_rd _ _ (by decide) (by omega) (by have := HN.out; omega) _ _, good_number Hq.out.1 Hq.out.2.1 Hq.out.2.2.1 Hq.out.2.2.2 H45.out H43.out H64.out H83.out⟩)
      obtain ⟨wF, hF⟩ : ∃ wF, wF = set4 w5 w.heap.size (.string ⟨#[110]⟩) (.int .i64 (numAt s i p : Nat)) (.slice none 0 0) (.slice none 0 0) := ⟨_, rfl⟩
      rw [← hF] at z0 z1 z2 z3 HQ
      unfold set4 at hF
      obtain ⟨y0, y1, y2, y3⟩ := HBw5.out.c2
      obtain ⟨f0, f1, f2, f3⟩ := HBw5.out.f4
      clear g1 g2 g3
      go_wp2_with fail
      rw [← hF]
      exact bodyPost_ret (v := .agg #[.string ⟨#[110]⟩, .int .i64 (numAt s i p : Nat), .slice none 0 0, .slice none 0 0]) (by simp [results, Tryd.results33, go_sem, z0, z1, z2, z3]) rfl HQ.out
  have h83' : atB s i = 83 := by omega
  have hl3 : s.size < i + 3 := by omega
  have hl : i < s.size := (atB_hit (by decide) h83').1
  have H45 := Lib.hid h45
  have H43 := Lib.hid h43
  have H64 := Lib.hid h64
  have HG := Lib.hid (show GoodM ks s i i true (.mk ⟨#[]⟩ 0 [] []) from fun hok D u r hu ht _ => by
    obtain ⟨_, e, _⟩ := row_text h83' hok hu ht
    rw [tl_end (by omega)] at e
    cases e)
  have c0 : decide (s.size ≤ i) = false := by rw [decide_eq_false_iff_not]; omega
  have c0b : ¬ (s.size : Int) ≤ (i : Int) := by omega
  have c1 : (((s[i]'hl).toNat : Int) != 83) = false := by
    rw [bne_eq_false_iff_eq]
    unfold atB at h83'
    rw [dif_pos hl] at h83'
    omega
  have c2 : (s.size : Int) < (i : Int) + 3 := by omega
  clear h45 h43 h64 hno h83 h83'
  go_enter Tryd.func33, Tryd.ntmps33
  go_wp2_with fail
  refine (next_miss rb i 45 s _ HM.out (by omega) hs (by decide) (by decide) H45.out).mono ?_
  rintro e w2 ⟨rfl, hWw2, hMw2⟩
  have HBw2 := Lib.hid (show Blk w2 w.heap.size 27 #[.string ⟨#[]⟩, .int .i64 0, .slice none 0 0, .slice none 0 0] from (hWw2.block _ HB.out.lt (by omega)).trans HB.out)
  have HWw2 := Lib.hid (HW.out.trans hWw2)
  have HMw2 := Lib.hid hMw2
  clear hWw2 hMw2 HM HB HW
  go_wp2_with fail
  refine (next_miss rb i 43 s _ HMw2.out (by omega) hs (by decide) (by decide) H43.out).mono ?_
  rintro e w3 ⟨rfl, hWw3, hMw3⟩
  have HBw3 := Lib.hid (show Blk w3 w.heap.size 27 #[.string ⟨#[]⟩, .int .i64 0, .slice none 0 0, .slice none 0 0] from (hWw3.block _ HBw2.out.lt (by omega)).trans HBw2.out)
  have HWw3 := Lib.hid (HWw2.out.trans hWw3)
  have HMw3 := Lib.hid hMw3
  clear hWw3 hMw3 HMw2 HBw2 HWw2
  go_wp2_with fail
  refine (next_miss rb i 64 s _ HMw3.out (by omega) hs (by decide) (by decide) H64.out).mono ?_
  rintro e w4 ⟨rfl, hWw4, hMw4⟩
  have HBw4 := Lib.hid (show Blk w4 w.heap.size 27 #[.string ⟨#[]⟩, .int .i64 0, .slice none 0 0, .slice none 0 0] from (hWw4.block _ HBw3.out.lt (by omega)).trans HBw3.out)
  have HWw4 := Lib.hid (HWw3.out.trans hWw4)
  have HMw4 := Lib.hid hMw4
  clear hWw4 hMw4 HMw3 HBw3 HWw3
  obtain ⟨x0, x1, x2⟩ := HMw4.out.c
  go_wp2_with fail
  go_quiet (fail)
  go_wp2_with fail
  go_quiet (fail)
  clear x0 x1 x2
  generalize hw5 : (w4.drewN _).drewN _ = w5
  have HM5 := Lib.hid (show MrB rb s i false w5 by rw [← hw5]; exact (HMw4.out.drewN _).drewN _)
  have HW5 := Lib.hid (show Wrote rb (rb + 1) w w5 by rw [← hw5]; exact (HWw4.out.drewN _).drewN _)
  have HB5 := Lib.hid (show Blk w5 w.heap.size 27 #[.string ⟨#[]⟩, .int .i64 0, .slice none 0 0, .slice none 0 0] by rw [← hw5]; exact HBw4.out)
  clear hw5
  have x2 := HM5.out.c.2.2
  have f2 := Blk.frozen HM5.out 2
  go_upto_region 11 with fail
  clear x2 f2
  have HM6 := Lib.hid (HM5.out.turn true)
  have HW6 := Lib.hid (HW5.out.trans (Wrote.set_ (w := w5) (b := rb) (o := 2) (Nat.le_refl rb) (Nat.lt_succ_self rb) (.bool true)))
  have HB6 := Lib.hid (HB5.out.far (p := ⟨rb, 2, none⟩) (by simp; omega) (.bool true))
  generalize hw6 : w5.setCell ⟨rb, 2, none⟩ (.bool true) = w6 at *
  clear hw6
  obtain ⟨g1, g2, g3⟩ := ans_done (w := w) HB6.out HM6.out (by omega) HW6.out (Nat.le_refl _) (.string ⟨#[]⟩) (.int .i64 0) (.slice none 0 0) (.slice none 0 0)
  obtain ⟨z0, z1, z2, z3⟩ := g1.c2
  have HQ := Lib.hid (show ValM ks rb s i w (.returned (.agg #[.string ⟨#[]⟩, .int .i64 0, .slice none 0 0, .slice none 0 0])) (set4 w6 w.heap.size (.string ⟨#[]⟩) (.int .i64 0) (.slice none 0 0) (.slice none 0 0)) from
    ⟨g3, i, true, 0, .mk ⟨#[]⟩ 0 [] [], none, 0, (fun h => by cases h), Nat.le_refl _, hi, g2, rfl, rfl, plain_rd _ _ (by decide) (by decide) (by decide) _ _, HG.out⟩)
  obtain ⟨wF, hF⟩ : ∃ wF, wF = set4 w6 w.heap.size (.string ⟨#[]⟩) (.int .i64 0) (.slice none 0 0) (.slice none 0 0) := ⟨_, rfl⟩
  rw [← hF] at z0 z1 z2 z3 HQ
  unfold set4 at hF
  obtain ⟨y0, y1, y2, y3⟩ := HB6.out.c2
  obtain ⟨f0, f1, f2, f3⟩ := HB6.out.f4
  clear g1 g2 g3
  go_wp2_with fail
  rw [← hF]
  exact bodyPost_ret (v := .agg #[.string ⟨#[]⟩, .int .i64 0, .slice none 0 0, .slice none 0 0]) (by simp [results, Tryd.results33, go_sem, z0, z1, z2, z3]) rfl HQ.out
end Go.Proofs.YtelhjdccfomafaaDoor

namespace Go.Proofs.YtelhjdccfomafaaDoor
open Go.RowKit

theorem OwnRow.imp {α : Type} {c c' : Cod α} {e : TypeId} {base cb : Nat} {w : World} {v : Value} {xs : List α} (hs : c.size = c'.size) (hi : ∀ {F : Nat → Prop} {w : World} {cs : List Value} {x : α}, c.rd F w cs x → c'.rd F w cs x) (h : OwnRow c e base cb w v xs) : OwnRow c' e base cb w v xs := by
  obtain ⟨us, h1, h2, h3⟩ := h
  refine ⟨us, by rw [← hs]; exact h1, h2, fun i x hx => ?_⟩
  obtain ⟨cs, g1, g2⟩ := h3 i x hx
  exact ⟨cs, fun j u hu => by rw [← hs]; exact g1 j u hu, hi g2⟩
theorem OwnRow.nilC {α : Type} (c : Cod α) (e : TypeId) (base cb : Nat) (w : World) : OwnRow c e base cb w (.slice none 0 0) [] := ⟨[], World.ownsRow_nil _ _ _ _, fun _ h => by simp at h, fun _ _ h => by simp at h⟩
theorem OwnRow.own_ltC {α : Type} {c : Cod α} {e : TypeId} {base cb : Nat} {w : World} {v : Value} {xs : List α} (h : OwnRow c e base cb w v xs) {g : Nat} (hg : v.ownBlock = some g) : base ≤ g ∧ g < w.heap.size := by
  obtain ⟨us, h, _⟩ := h
  rcases h.2 with ⟨rfl, _⟩ | ⟨g', cap, cur, rfl, hb, hh, _⟩
  · cases hg
  · simp [Value.ownBlock] at hg
    subst hg
    have hB : Blk w g' e cur := hh
    exact ⟨hb, hB.lt⟩
theorem OwnRow.form_ {α : Type} {c : Cod α} {e : TypeId} {base cb : Nat} {w : World} {v : Value} {xs : List α} (h : OwnRow c e base cb w v xs) : ∃ A cA, v = .slice A xs.length cA ∧ xs.length ≤ cA ∧ cA ≤ maxLen := by
  obtain ⟨us, h, _⟩ := h
  rcases h.2 with ⟨rfl, h0⟩ | ⟨g', cap, cur, rfl, hb, hh, h1, h2, _⟩
  · exact ⟨none, 0, by rw [h0], by omega, Nat.zero_le _⟩
  · exact ⟨_, _, rfl, h1, h2⟩

/-- A record that is being read: the answer's variable, the record's, and its parts. -/
structure RowB (rb : Nat) (s : ByteArray) (w : World) (x : Nat) (ty : ByteArray) (done : List Val) (d : Nat) (A : Option Addr) (cA ij : Nat) (bad : Bool) (wr : World) : Prop where
  rd : MrB rb s ij bad wr
  wrote : Wrote rb (rb + 1) w wr
  res : Blk wr w.heap.size 27 #[.string ⟨#[]⟩, .int .i64 0, .slice none 0 0, .slice none 0 0]
  var : Blk wr x 27 #[.string ty, .int .i64 0, .slice A done.length cA, .slice none 0 0]
  own : OwnRow (Cod.val d) 27 (x + 1) (x + 1) wr (.slice A done.length cA) done
section
variable {rb x d cA ij : Nat} {s ty : ByteArray} {w wr w' : World} {done : List Val} {A : Option Addr} {bad : Bool}
theorem RowB.go (h : RowB rb s w x ty done d A cA ij bad wr) (hr : rb < w.heap.size) (hx : w.heap.size < x) {i' : Nat} {b' : Bool} (hW : Wrote rb (rb + 1) wr w') (hM : MrB rb s i' b' w') : RowB rb s w x ty done d A cA i' b' w' :=
  ⟨hM, h.wrote.trans hW, (hW.block _ h.res.lt (by omega)).trans h.res, (hW.block _ h.var.lt (by omega)).trans h.var, h.own.keep (Nat.le_refl _) hW.size fun i h1 h2 => hW.block i h2 (by omega)⟩
theorem RowB.drew (h : RowB rb s w x ty done d A cA ij bad wr) : RowB rb s w x ty done d A cA ij bad wr.drew :=
  ⟨h.rd, h.wrote.drew, h.res, h.var, h.own.keep (Nat.le_refl _) (Nat.le_refl _) fun _ _ _ => rfl⟩
theorem RowB.turn (h : RowB rb s w x ty done d A cA ij bad wr) (hr : rb < w.heap.size) (hx : w.heap.size < x) (b' : Bool) : RowB rb s w x ty done d A cA ij b' (wr.setCell ⟨rb, 2, none⟩ (.bool b')) :=
  h.go hr hx (Wrote.set_ (Nat.le_refl _) (Nat.lt_succ_self _) _) (h.rd.turn b')
/-- The row's depth, made greater. -/
theorem RowB.deep (h : RowB rb s w x ty done d A cA ij bad wr) {e : Nat} (he : d ≤ e) : RowB rb s w x ty done e A cA ij bad wr :=
  ⟨h.rd, h.wrote, h.res, h.var, h.own.imp (by rw [val_size, val_size]) fun hr => val_le he hr⟩
/-- A value appended, as the memory has it. -/
theorem RowB.push (h : RowB rb s w x ty done d A cA ij bad wr) (hx : w.heap.size < x) (hn : done.length ≤ 100000) {i' : Nat} {b' : Bool} {wv : World} (hr : rb < w.heap.size) (hW : Wrote rb (rb + 1) wr wv) (hM : MrB rb s i' b' wv) {dv cv : Nat} {v : Val} {Av : Option Addr} (hp : v.path = [])
    (hv : VRd (Cod.val dv) (Fresh wr wv) wv (.slice Av v.parts.length cv) (.slice none 0 0) v) :
    ∃ g cap w4, (Builtin.append_ #[24, 24] 24 #[.slice A done.length cA, .slice (some ⟨wv.heap.size, 0, none⟩) 1 1]).run Tryd.prog (wv.alloc (.cells #[.string v.ty, .int .i64 v.n, .slice Av v.parts.length cv, .slice none 0 0] 27)) = .ok (.slice (some ⟨g, 0, none⟩) (done.length + 1) cap) w4 ∧
      w4.cell? ⟨x, 2, none⟩ = some (.slice A done.length cA) ∧ w4.frozen? ⟨x, 2, none⟩ = false ∧
      RowB rb s w x ty (done ++ [v]) (max d (dv + 1)) (some ⟨g, 0, none⟩) cap i' b' (w4.setCell ⟨x, 2, none⟩ (.slice (some ⟨g, 0, none⟩) (done.length + 1) cap)) := by
  have h1 := (h.go hr hx hW hM).deep (Nat.le_max_left d (dv + 1))
  have hs := hW.size
  have hlt := h.var.lt
  obtain ⟨g, cap, w4, happ, ho, hg, hge, hgat⟩ := h1.own.push (P := Tryd.prog) 24 24 _ 72 Tryd.underlying24 (by rw [val_size]; exact info_val) (by rw [val_size]; rfl) (by rw [val_size]; decide) (by decide) hn (Nat.le_refl _) (by omega) 1
    [.string v.ty, .int .i64 v.n, .slice Av v.parts.length cv, .slice none 0 0] v (fun u hu => by simp at hu; rcases hu with rfl | rfl | rfl | rfl <;> rfl)
    (val_le (d := dv + 1) (Nat.le_max_right _ _) ⟨_, _, rfl, hv.mono fun b hb => ⟨by have := hb.1; omega, hb.2, fun hc => by have := (h.own.own_ltC hc).2; have := hb.1; omega⟩⟩)
  have hB : Below (x + 1) wv w4 := ⟨hg.os, hg.tape, hg.output, hg.size, fun i hi => hg.block i (by omega) fun hc => by have := (h.own.own_ltC hc.symm).1; omega⟩
  have hX : Blk w4 x 27 #[.string ty, .int .i64 0, .slice A done.length cA, .slice none 0 0] := (hB.block x (by omega)).trans h1.var
  have hW4 : Wrote rb (rb + 1) w w4 := ⟨hB.os.trans h1.wrote.os, hB.tape.trans h1.wrote.tape, hB.output.trans h1.wrote.output, Nat.le_trans h1.wrote.size hB.size, fun i hi hn => (hB.block i (by omega)).trans (h1.wrote.block i hi hn)⟩
  refine ⟨g, cap, w4, happ, hX.cell 2, hX.frozen 2, ?_⟩
  have hl : (done ++ [v]).length = done.length + 1 := by simp
  refine ⟨(Below.heap_setCell _ _ _ _ (by simp; omega)).trans ((hB.block rb (by omega)).trans h1.rd), hW4.new_ (by omega) _, (Below.heap_setCell _ _ _ _ (by simp; omega)).trans ((hB.block _ (by omega)).trans h1.res), ?_, ?_⟩
  · rw [hl]
    exact hX.set_ 2 _
  · rw [hl]
    exact ho.keep (Nat.le_refl _) (by simp [World.setCell]) fun i h2 h3 => Below.heap_setCell _ _ _ _ (by simp; omega)
/-- The record as the answer. -/
theorem RowB.done_ {ks : Ks} {i : Nat} (h : RowB rb s w x ty done d A cA ij bad wr) (hr : rb < w.heap.size) (hx : w.heap.size < x) (ht : ty.size ≤ 3) (hi : i < ij) (hs : ij ≤ s.size) (hg : GoodM ks s i ij bad (.mk ty 0 done [])) :
    ValM ks rb s i w (.returned (.agg #[.string ty, .int .i64 0, .slice A done.length cA, .slice none 0 0])) (set4 wr w.heap.size (.string ty) (.int .i64 0) (.slice A done.length cA) (.slice none 0 0)) ∧
    Blk (set4 wr w.heap.size (.string ty) (.int .i64 0) (.slice A done.length cA) (.slice none 0 0)) w.heap.size 27 #[.string ty, .int .i64 0, .slice A done.length cA, .slice none 0 0] := by
  obtain ⟨g1, g2, g3⟩ := ans_done (w := w) h.res h.rd (by omega) h.wrote (Nat.le_refl _) (.string ty) (.int .i64 0) (.slice A done.length cA) (.slice none 0 0)
  have hs4 : (set4 wr w.heap.size (.string ty) (.int .i64 0) (.slice A done.length cA) (.slice none 0 0)).heap.size = wr.heap.size := by simp [World.setCell]
  have hp := h.own.sl (Nat.le_refl _)
  refine ⟨⟨g3, ij, bad, d, .mk ty 0 done [], A, cA, fun _ => hi, by omega, hs, g2, rfl, rfl, ⟨by show ty.size ≤ maxLen; unfold maxLen; omega, by show I64 0; unfold I64; omega, ?_, Cod.Sl.nil_⟩, hg⟩, g1⟩
  exact (hp.keep fun b hb => set4at_far (o := 0) (by omega)).mono fun b hb => ⟨by omega, by rw [hs4]; exact hb.2⟩
end

/-- Whether the reader is bad, off the memory. -/
def badM (rb : Nat) (w : World) : Bool := match w.cell? ⟨rb, 2, none⟩ with | some (.bool b) => b | _ => false
theorem MrB.bad_ {rb i : Nat} {s : ByteArray} {bad : Bool} {w : World} (h : MrB rb s i bad w) : badM rb w = bad := by unfold badM; rw [h.c.2.2]
def measM (s : ByteArray) (rb : Nat) (w : World) : Nat := if badM rb w then 0 else s.size - posM rb w + 1
theorem MrB.meas {rb i : Nat} {s : ByteArray} {bad : Bool} {w : World} (h : MrB rb s i bad w) : measM s rb w = if bad then 0 else s.size - i + 1 := by unfold measM; rw [h.bad_, h.pos]

theorem next_sym (rb i b : Nat) (s : ByteArray) (w : World) (h : MrB rb s i false w) (hi : i ≤ s.size) (hs : s.size ≤ 2000000) (h0 : 0 < b) (hb : b < 256) :
    Calls Tryd.prog 50 #[.pointer (some ⟨rb, 0, none⟩), .int .u8 b] w fun e w' => ∃ hit : Bool, e = .returned (.bool hit) ∧ Wrote rb (rb + 1) w w' ∧ ((hit = true ∧ atB s i = b ∧ i + 1 ≤ s.size ∧ MrB rb s (i + 1) false w') ∨ (hit = false ∧ atB s i ≠ b ∧ MrB rb s i false w')) :=
  (next_any rb i b s w h hi hs h0 hb).mono fun e w' ⟨hW, hh⟩ => by
    rcases hh with ⟨h1, h2, h3⟩ | ⟨h1, h2, h3⟩
    · exact ⟨true, h2, hW, .inl ⟨rfl, h1, (atB_hit h0 h1).1, h3⟩⟩
    · exact ⟨false, h2, hW, .inr ⟨rfl, h1, h3⟩⟩
end Go.Proofs.YtelhjdccfomafaaDoor

namespace Go.Proofs.YtelhjdccfomafaaDoor
open Go.RowKit

set_option maxRecDepth 100000 in
set_option maxHeartbeats 8000000 in
theorem valueM_rec {ks : Ks} (rb i : Nat) (s : ByteArray) (w : World) (h : MrB rb s i false w) (hi : i + 3 ≤ s.size) (hs : s.size ≤ 2000000) (h83 : atB s i = 83)
    (IH : ∀ (i' : Nat) (w' : World), i < i' → i' ≤ s.size → MrB rb s i' false w' → Calls Tryd.prog 33 #[.pointer (some ⟨rb, 0, none⟩)] w' (ValM ks rb s i' w')) :
    Calls Tryd.prog 33 #[.pointer (some ⟨rb, 0, none⟩)] w (ValM ks rb s i w) := by
  have hr := h.lt
  have HM := Lib.hid (h.alloc (.cells #[.string ⟨#[]⟩, .int .i64 0, .slice none 0 0, .slice none 0 0] 27))
  have HB := Lib.hid (Blk.new w 27 #[.string ⟨#[]⟩, .int .i64 0, .slice none 0 0, .slice none 0 0])
  have HW := Lib.hid (show Wrote rb (rb + 1) w (w.alloc (.cells #[.string ⟨#[]⟩, .int .i64 0, .slice none 0 0, .slice none 0 0] 27)) from Wrote.of_below ((Below.refl _ _).alloc (Nat.le_refl _) _))
  have HIH := Lib.hid IH
  have H83 := Lib.hid h83
  have H45 := Lib.hid (show atB s i ≠ 45 by omega)
  have H43 := Lib.hid (show atB s i ≠ 43 by omega)
  have H64 := Lib.hid (show atB s i ≠ 64 by omega)
  have hl : i < s.size := by omega
  have c0 : decide (s.size ≤ i) = false := by rw [decide_eq_false_iff_not]; omega
  have c0b : ¬ (s.size : Int) ≤ (i : Int) := by omega
  have c1 : (((s[i]'hl).toNat : Int) != 83) = false := by
    rw [bne_eq_false_iff_eq]
    unfold atB at h83
    rw [dif_pos hl] at h83
    omega
  have c2 : ¬ (s.size : Int) < (i : Int) + 3 := by omega
  clear h h83 IH
  go_enter Tryd.func33, Tryd.ntmps33
  go_wp2_with fail
  refine (next_miss rb i 45 s _ HM.out (by omega) hs (by decide) (by decide) H45.out).mono ?_
  rintro e w2 ⟨rfl, hWw2, hMw2⟩
  have HBw2 := Lib.hid (show Blk w2 w.heap.size 27 #[.string ⟨#[]⟩, .int .i64 0, .slice none 0 0, .slice none 0 0] from (hWw2.block _ HB.out.lt (by omega)).trans HB.out)
  have HWw2 := Lib.hid (HW.out.trans hWw2)
  have HMw2 := Lib.hid hMw2
  clear hWw2 hMw2 HM HB HW
  go_wp2_with fail
  refine (next_miss rb i 43 s _ HMw2.out (by omega) hs (by decide) (by decide) H43.out).mono ?_
  rintro e w3 ⟨rfl, hWw3, hMw3⟩
  have HBw3 := Lib.hid (show Blk w3 w.heap.size 27 #[.string ⟨#[]⟩, .int .i64 0, .slice none 0 0, .slice none 0 0] from (hWw3.block _ HBw2.out.lt (by omega)).trans HBw2.out)
  have HWw3 := Lib.hid (HWw2.out.trans hWw3)
  have HMw3 := Lib.hid hMw3
  clear hWw3 hMw3 HMw2 HBw2 HWw2
  go_wp2_with fail
  refine (next_miss rb i 64 s _ HMw3.out (by omega) hs (by decide) (by decide) H64.out).mono ?_
  rintro e w4 ⟨rfl, hWw4, hMw4⟩
  have HBw4 := Lib.hid (show Blk w4 w.heap.size 27 #[.string ⟨#[]⟩, .int .i64 0, .slice none 0 0, .slice none 0 0] from (hWw4.block _ HBw3.out.lt (by omega)).trans HBw3.out)
  have HWw4 := Lib.hid (HWw3.out.trans hWw4)
  have HMw4 := Lib.hid hMw4
  clear hWw4 hMw4 HMw3 HBw3 HWw3
  obtain ⟨x0, x1, x2⟩ := HMw4.out.c
  go_wp2_with fail
  go_quiet (fail)
  go_wp2_with fail
  go_quiet (fail)
  clear x0 x1 x2
  generalize hw5 : (w4.drewN _).drewN _ = w5
  have HM5 := Lib.hid (show MrB rb s i false w5 by rw [← hw5]; exact (HMw4.out.drewN _).drewN _)
  have HW5 := Lib.hid (show Wrote rb (rb + 1) w w5 by rw [← hw5]; exact (HWw4.out.drewN _).drewN _)
  have HB5 := Lib.hid (show Blk w5 w.heap.size 27 #[.string ⟨#[]⟩, .int .i64 0, .slice none 0 0, .slice none 0 0] by rw [← hw5]; exact HBw4.out)
  clear hw5 c0 c1 H45 H43 H64 HMw4 HWw4 HBw4
  obtain ⟨x0, x1, x2⟩ := HM5.out.c
  have f1 := Blk.frozen HM5.out 1
  have f2 := Blk.frozen HM5.out 2
  go_wp2_with fail
  have e1 : IntKind.i64.wrap ((i : Int) + 3) = (i : Int) + 3 := by rw [IntKind.wrap_i64]; omega
  have b1 : (i : Int) + 3 ≤ (s.size : Int) := by omega
  have b2 : (0 : Int) ≤ (i : Int) + 3 := by omega
  have b3 : (i : Int) ≤ (i : Int) + 3 := by omega
  have hr5 := HM5.out.lt
  have b4 : ((i : Int) + 3).toNat = i + 3 := by omega
  go_region
  have hx : w.heap.size < w5.heap.size := HB5.out.lt
  have HR6 := Lib.hid (show RowB rb s w w5.heap.size (s.extract i (i + 3)) [] 0 none 0 i false (w5.alloc (.cells #[.string (s.extract i (i + 3)), .int .i64 0, .slice none 0 0, .slice none 0 0] 27)).drew from
    RowB.drew ⟨HM5.out.alloc _, HW5.out.below ((Below.refl _ _).alloc (Nat.le_of_lt hx) _), HB5.out.alloc _, Blk.new _ _ _, OwnRow.nilC _ _ _ _ _⟩)
  generalize hw6 : (w5.alloc (.cells #[.string (s.extract i (i + 3)), .int .i64 0, .slice none 0 0, .slice none 0 0] 27)).drew = w6 at *
  generalize hxx : w5.heap.size = x at *
  clear hw6 hxx x0 x1 x2 f1 f2 HM5 HW5 HB5 hr5
  obtain ⟨x0, x1, x2⟩ := HR6.out.rd.c
  have f1 := Blk.frozen HR6.out.rd 1
  go_upto_region 14 with fail
  have HR7 := Lib.hid (show RowB rb s w x (s.extract i (i + 3)) [] 0 none 0 (i + 3) false (w6.setCell ⟨rb, 1, none⟩ (.int .i64 ((i : Int) + 3))) from HR6.out.go hr hx (Wrote.set_ (Nat.le_refl _) (Nat.lt_succ_self _) _) (HR6.out.rd.go (i + 3)))
  generalize hw7 : w6.setCell ⟨rb, 1, none⟩ (.int .i64 ((i : Int) + 3)) = w7 at *
  clear hw7 x0 x1 x2 f1 HR6 e1 b1 b2 b3 b4 c2
  obtain ⟨x0, x1, x2⟩ := HR7.out.rd.c
  go_wp2_with fail
  refine (next_sym rb (i + 3) 40 s w7 HR7.out.rd hi hs (by decide) (by decide)).mono ?_
  rintro e w8 ⟨hit, rfl, hW8, hh8⟩
  have H8 : ∃ (ij : Nat), i < ij ∧ ij ≤ s.size ∧ RowB rb s w x (s.extract i (i + 3)) [] 0 none 0 ij false w8 ∧ RowM ks s i ij (!hit) (s.extract i (i + 3)) [] := by
    rcases hh8 with ⟨rfl, h1, h2, h3⟩ | ⟨rfl, h1, h3⟩
    · exact ⟨i + 4, by omega, h2, HR7.out.go hr hx hW8 h3, row_start H83.out⟩
    · exact ⟨i + 3, by omega, hi, HR7.out.go hr hx hW8 h3, row_none H83.out h1⟩
  obtain ⟨ij, hij, hijs, HR8, HM8⟩ := H8
  have HR8' := Lib.hid HR8
  have HM8' := Lib.hid HM8
  have f2 := Blk.frozen HR8.rd 2
  obtain ⟨y0, y1, y2⟩ := HR8.rd.c
  clear hW8 hh8 HR8 HM8 x0 x1 x2
  go_upto_region 15 with fail
  have HR9 := Lib.hid (HR8'.out.turn hr hx (!hit))
  clear f2 y0 y1 y2
  generalize hw9 : w8.setCell ⟨rb, 2, none⟩ (.bool (!hit)) = w9 at *
  generalize hbb : (!hit) = bad0 at *
  clear hw9 hbb HR7 HR8'
  go_loopw [90] (fun _ wr => ∃ (ij : Nat) (bad : Bool) (done : List Val) (d : Nat) (A : Option Addr) (cA : Nat), i < ij ∧ ij ≤ s.size ∧ done.length ≤ 4 ∧ Hid (RowB rb s w x (s.extract i (i + 3)) done d A cA ij bad wr) ∧ Hid (RowM ks s i ij bad (s.extract i (i + 3)) done)) (fun _ wr => measM s rb wr)
  case atStart => exact ⟨ij, bad0, [], 0, none, 0, hij, hijs, by simp, HR9, HM8'⟩
  case round =>
    clear HR9 HM8' hij hijs
    obtain ⟨ij, bad, done, d, A, cA, hij, hijs, hdl, HR, HM⟩ := hrel
    obtain ⟨x0, x1, x2⟩ := HR.out.rd.c
    have Hmeas := Lib.hid HR.out.rd.meas
    cases bad
    · go_wp2_with fail
      refine (next_sym rb ij 41 s wr HR.out.rd hijs hs (by decide) (by decide)).mono ?_
      rintro e w1 ⟨hit, rfl, hW1, hh1⟩
      clear x0 x1 x2
      rcases hh1 with ⟨rfl, h1, h2, h3⟩ | ⟨rfl, h1, h3⟩
      · have HRc := Lib.hid (HR.out.go hr hx hW1 h3)
        have HG := Lib.hid (row_close HM.out h1)
        have hi2 : i < ij + 1 := by omega
        clear hW1 h3 h1
        have hty : (s.extract i (i + 3)).size ≤ 3 := by rw [ByteArray.size_extract]; omega
        obtain ⟨hV, hBF⟩ := HRc.out.done_ hr hx hty hi2 h2 HG.out
        obtain ⟨z0, z1, z2, z3⟩ := hBF.c2
        have HQ := Lib.hid hV
        obtain ⟨wF, hF⟩ : ∃ wF, wF = set4 w1 w.heap.size (.string (s.extract i (i + 3))) (.int .i64 0) (.slice A done.length cA) (.slice none 0 0) := ⟨_, rfl⟩
        rw [← hF] at z0 z1 z2 z3 HQ
        unfold set4 at hF
        obtain ⟨t0, t1, t2, t3⟩ := HRc.out.var.c2
        obtain ⟨y0, y1, y2, y3⟩ := HRc.out.res.c2
        obtain ⟨f0, f1, f2, f3⟩ := HRc.out.res.f4
        clear hV hBF
        go_wp2_with fail
        rw [← hF]
        exact bodyPost_ret (v := .agg #[.string (s.extract i (i + 3)), .int .i64 0, .slice A done.length cA, .slice none 0 0]) (by simp [results, Tryd.results33, go_sem, z0, z1, z2, z3]) rfl HQ.out
      · have HRm := Lib.hid (HR.out.go hr hx hW1 h3)
        have H41 := Lib.hid h1
        clear hW1 h3 h1
        obtain ⟨n, Hn⟩ : ∃ n, Hid (n = done.length) := ⟨_, rfl⟩
        obtain ⟨y0, y1, y2, y3⟩ := HRm.out.var.c2
        rw [← Hn.out] at y2
        go_upto_if 103 with fail
        clear y0 y1 y2 y3
        go_cut [103] (fun _ wx => ∃ (i1 : Nat) (bad1 : Bool), ij ≤ i1 ∧ i1 ≤ s.size ∧ Hid (RowB rb s w x (s.extract i (i + 3)) done d A cA i1 bad1 wx) ∧ Hid ((bad1 = true ∧ RowM ks s i i1 true (s.extract i (i + 3)) done) ∨ (bad1 = false ∧ ((done = [] ∧ i1 = ij) ∨ (done ≠ [] ∧ atB s ij = 32 ∧ i1 = ij + 1)))))
        case first =>
          by_cases h0 : n = 0
          · have b1 : ¬ 0 < n := by omega
            have Hd0 := Lib.hid (nil_of (Hn.out.symm.trans h0))
            clear h0
            go_wp2_with fail
            go_meet
            exact ⟨ij, false, Nat.le_refl _, hijs, HRm, Lib.hid (.inr ⟨rfl, .inl ⟨Hd0.out, rfl⟩⟩)⟩
          · have b1 : 0 < n := by omega
            have Hd0 := Lib.hid (show done ≠ [] from fun h => h0 (by rw [Hn.out, h]; rfl))
            clear h0
            obtain ⟨x0, x1, x2⟩ := HRm.out.rd.c
            go_wp2_with fail
            refine (next_sym rb ij 32 s w1 HRm.out.rd hijs hs (by decide) (by decide)).mono ?_
            rintro e wa ⟨hit, rfl, hWa, hha⟩
            clear x0 x1 x2
            rcases hha with ⟨rfl, h1, h2, h3⟩ | ⟨rfl, h1, h3⟩
            · have HRa := Lib.hid (HRm.out.go hr hx hWa h3)
              have H32 := Lib.hid h1
              clear hWa h3 h1
              have f2 := Blk.frozen HRa.out.rd 2
              obtain ⟨y0, y1, y2⟩ := HRa.out.rd.c
              go_wp2_with fail
              go_meet
              exact ⟨ij + 1, false, by omega, h2, Lib.hid (HRa.out.turn hr hx false), Lib.hid (.inr ⟨rfl, .inr ⟨Hd0.out, H32.out, rfl⟩⟩)⟩
            · have HRa := Lib.hid (HRm.out.go hr hx hWa h3)
              have H32 := Lib.hid h1
              clear hWa h3 h1
              have f2 := Blk.frozen HRa.out.rd 2
              obtain ⟨y0, y1, y2⟩ := HRa.out.rd.c
              go_wp2_with fail
              go_meet
              exact ⟨ij, true, Nat.le_refl _, hijs, Lib.hid (HRa.out.turn hr hx true), Lib.hid (.inl ⟨rfl, row_blank HM.out H41.out Hd0.out H32.out⟩)⟩
        case rest =>
          obtain ⟨i1, bad1, hi1, hi1s, HR1, HO1⟩ := hcut
          obtain ⟨x0, x1, x2⟩ := HR1.out.rd.c
          have f2 := Blk.frozen HR1.out.rd 2
          obtain ⟨y0, y1, y2, y3⟩ := HR1.out.var.c2
          rw [← Hn.out] at y2
          cases bad1
          · by_cases h3 : 3 < n
            · have b0 : decide ((3 : Int) < (n : Int)) = true := by rw [decide_eq_true_eq]; omega
              have b1 : decide (3 < n) = true := by rw [decide_eq_true_eq]; omega
              have H3 := Lib.hid (show 3 < done.length by rw [← Hn.out]; exact h3)
              clear h3
              go_upto_region 19 with fail
              have HRn := Lib.hid (HR1.out.turn hr hx true)
              generalize hwn : wc.setCell ⟨rb, 2, none⟩ (.bool true) = wn at *
              clear hwn x0 x1 x2 f2 y0 y1 y2 y3
              obtain ⟨x0, x1, x2⟩ := HRn.out.rd.c
              go_wp2_with fail
              go_roundw
              case rel => exact ⟨i1, true, done, d, A, cA, by omega, hi1s, hdl, HRn, Lib.hid (row_many HM.out H41.out H3.out)⟩
              case measure => rw [HRn.out.rd.meas, Hmeas.out]; simp
            · have b0 : decide ((3 : Int) < (n : Int)) = false := by rw [decide_eq_false_iff_not]; omega
              have b1 : decide (3 < n) = false := by rw [decide_eq_false_iff_not]; omega
              have hd3 : done.length ≤ 3 := by have := Hn.out; omega
              have HO := Lib.hid (show (done = [] ∧ i1 = ij) ∨ (done ≠ [] ∧ atB s ij = 32 ∧ i1 = ij + 1) by rcases HO1.out with ⟨h, _⟩ | ⟨_, h⟩; (cases h); exact h)
              clear h3 HO1
              go_upto_region 19 with fail
              have HRn := Lib.hid (HR1.out.turn hr hx false)
              generalize hwn : wc.setCell ⟨rb, 2, none⟩ (.bool false) = wn at *
              clear hwn x0 x1 x2 f2 y0 y1 y2 y3 b0 b1
              obtain ⟨x0, x1, x2⟩ := HRn.out.rd.c
              go_upto_region 20 with fail
              clear x0 x1 x2
              have hi1i : i < i1 := by rcases HO.out with ⟨_, h⟩ | ⟨_, _, h⟩ <;> omega
              have HC := Lib.hid (HIH.out i1 wn.drew hi1i hi1s HRn.out.rd.drew)
              have HCb := Lib.hid (HIH.out i1 wn hi1i hi1s HRn.out.rd)
              obtain ⟨y0, y1, y2, y3⟩ := HRn.out.var.c2
              have hxl := HRn.out.var.lt
              go_region_law (first | (refine step_append_run rfl _ _ _ rfl rfl rfl happ ?_) | (go_simp; go_at_call 33; refine HC.out.mono ?_; rintro e wv ⟨hWv, i2, bad2, dv, v, Av, cv, hb2, hi2, hi2s, hMv, rfl, hpv, hVv, hGv⟩; go_must (have HPv := Lib.hid hpv; have HGv := Lib.hid hGv; have Hb2 := Lib.hid hb2; have hi2 := hi2; have hi2s := hi2s; obtain ⟨g, cap, w4, happ, hc4, hf4, hR4⟩ := HRn.out.drew.push hx (by omega) hr hWv hMv hpv hVv; have HR4 := Lib.hid hR4; obtain ⟨yv0, yv1, yv2, yv3⟩ := ((HRn.out.drew.go hr hx hWv hMv).var).c2; have hxv := (HRn.out.drew.go hr hx hWv hMv).var.lt; clear hWv hMv hpv hVv hGv hb2 hR4)))
              all_goals
                go_wp2
                go_roundw
                case rel => exact ⟨i2, bad2, done ++ [v], max d (dv + 1), some ⟨g, 0, none⟩, cap, by omega, hi2s, by simp; omega, HR4, Lib.hid (row_step HM.out H41.out HO.out HGv.out)⟩
                case measure =>
                  rw [HR4.out.rd.meas, Hmeas.out]
                  cases bad2 with
                  | true => simp
                  | false =>
                    have := Hb2.out rfl
                    simp
                    omega
          · go_upto_region 19 with fail
            have HRn := Lib.hid (HR1.out.turn hr hx true)
            have HMn := Lib.hid (show RowM ks s i i1 true (s.extract i (i + 3)) done by rcases HO1.out with ⟨_, h⟩ | ⟨h, _⟩; (exact h); cases h)
            generalize hwn : wc.setCell ⟨rb, 2, none⟩ (.bool true) = wn at *
            clear hwn x0 x1 x2 f2 y0 y1 y2 y3
            obtain ⟨x0, x1, x2⟩ := HRn.out.rd.c
            go_wp2_with fail
            go_roundw
            case rel => exact ⟨i1, true, done, d, A, cA, by omega, hi1s, hdl, HRn, HMn⟩
            case measure => rw [HRn.out.rd.meas, Hmeas.out]; simp
    · have HRc := HR
      have HG := Lib.hid (show GoodM ks s i ij true (.mk (s.extract i (i + 3)) 0 done []) from row_lost HM.out)
      have hi2 := hij
      have hty : (s.extract i (i + 3)).size ≤ 3 := by rw [ByteArray.size_extract]; omega
      obtain ⟨hV, hBF⟩ := HRc.out.done_ hr hx hty hi2 hijs HG.out
      obtain ⟨z0, z1, z2, z3⟩ := hBF.c2
      have HQ := Lib.hid hV
      obtain ⟨wF, hF⟩ : ∃ wF, wF = set4 wr w.heap.size (.string (s.extract i (i + 3))) (.int .i64 0) (.slice A done.length cA) (.slice none 0 0) := ⟨_, rfl⟩
      rw [← hF] at z0 z1 z2 z3 HQ
      unfold set4 at hF
      obtain ⟨t0, t1, t2, t3⟩ := HRc.out.var.c2
      obtain ⟨y0, y1, y2, y3⟩ := HRc.out.res.c2
      obtain ⟨f0, f1, f2, f3⟩ := HRc.out.res.f4
      clear hV hBF
      go_wp2_with fail
      rw [← hF]
      exact bodyPost_ret (v := .agg #[.string (s.extract i (i + 3)), .int .i64 0, .slice A done.length cA, .slice none 0 0]) (by simp [results, Tryd.results33, go_sem, z0, z1, z2, z3]) rfl HQ.out
end Go.Proofs.YtelhjdccfomafaaDoor
