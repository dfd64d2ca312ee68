/- The model's reader: a value that is no record, or of which there is too little. The model's reader: what is in memory while a record is read. No walk. -/
import Derived.Test.YtbjnjdhkillbiaaSs
namespace Go.Proofs.Ytbjnjdhkillbiaa
open Go.RowKit

theorem next_hit (rb i b : Nat) (s : ByteArray) (w : World) (h : MrB rb s i false w) (hi : i ≤ s.size) (hs : s.size ≤ 2000000) (h0 : 0 < b) (hb : b < 256) (hc : atB s i = b) :
    Calls Try.prog 63 #[.pointer (some ⟨rb, 0, none⟩), .int .u8 b] w fun e w' => e = .returned (.bool true) ∧ Wrote rb (rb + 1) w w' ∧ MrB rb s (i + 1) false w' :=
  (next_any rb i b s w h hi hs h0 hb).mono fun e w' ⟨hW, hh⟩ => by
    rcases hh with ⟨_, h1, h2⟩ | ⟨h1, _⟩
    · exact ⟨h1, hW, h2⟩
    · exact absurd hc h1
theorem next_miss (rb i b : Nat) (s : ByteArray) (w : World) (h : MrB rb s i false w) (hi : i ≤ s.size) (hs : s.size ≤ 2000000) (h0 : 0 < b) (hb : b < 256) (hc : atB s i ≠ b) :
    Calls Try.prog 63 #[.pointer (some ⟨rb, 0, none⟩), .int .u8 b] w fun e w' => e = .returned (.bool false) ∧ Wrote rb (rb + 1) w w' ∧ MrB rb s i false w' :=
  (next_any rb i b s w h hi hs h0 hb).mono fun e w' ⟨hW, hh⟩ => by
    rcases hh with ⟨h1, _⟩ | ⟨_, h1, h2⟩
    · exact absurd h1 hc
    · exact ⟨h1, hW, h2⟩

/-- What the model's reader hands back at a place. -/
def ValM (ks : Ks) (rb : Nat) (s : ByteArray) (i : Nat) (w : World) (e : Ending) (w' : World) : Prop :=
  Wrote rb (rb + 1) w w' ∧ ∃ (i' : Nat) (bad : Bool) (d : Nat) (v : Val) (A : Option Addr) (cA : Nat), (bad = false → i < i') ∧ i ≤ i' ∧ i' ≤ s.size ∧ MrB rb s i' bad w' ∧ e = .returned (.agg #[.string v.ty, .int .i64 v.n, .slice A v.parts.length cA, .slice none 0 0]) ∧ v.path = [] ∧
    VRd (Cod.val d) (Fresh w w') w' (.slice A v.parts.length cA) (.slice none 0 0) v ∧ GoodM ks s i i' bad v

theorem plain_rd (ty : ByteArray) (n : Int) (ht : ty.size ≤ 3) (h0 : 0 ≤ n) (h1 : n ≤ 1000000000) (F : Nat → Prop) (w : World) : VRd (Cod.val 0) F w (.slice none 0 0) (.slice none 0 0) (.mk ty n [] []) :=
  ⟨by show ty.size ≤ maxLen; unfold maxLen; omega, by show I64 n; unfold I64; omega, Cod.Sl.nil_, Cod.Sl.nil_⟩

/-- The answer stored. -/
theorem ans_done {rb i b : Nat} {s : ByteArray} {bad : Bool} {t : TypeId} {w w1 : World} {x0 x1 x2 x3 : Value} (hB : Blk w1 b t #[x0, x1, x2, x3]) (hR : MrB rb s i bad w1) (hne : rb ≠ b) (hW : Wrote rb (rb + 1) w w1) (hb : w.heap.size ≤ b) (a0 a1 a2 a3 : Value) :
    Blk (set4 w1 b a0 a1 a2 a3) b t #[a0, a1, a2, a3] ∧ MrB rb s i bad (set4 w1 b a0 a1 a2 a3) ∧ Wrote rb (rb + 1) w (set4 w1 b a0 a1 a2 a3) := by
  have hk : ∀ b', b' ≠ b → (set4 w1 b a0 a1 a2 a3).heap[b']? = w1.heap[b']? := fun b' h => set4at_far (o := 0) h
  have hs : (set4 w1 b a0 a1 a2 a3).heap.size = w1.heap.size := by simp [World.setCell]
  exact ⟨(((hB.set_ 0 a0).set_ 1 a1).set_ 2 a2).set_ 3 a3, (hk rb hne).trans hR, ⟨hW.os, hW.tape, hW.output, by rw [hs]; exact hW.size, fun b' h1 h2 => (hk b' (by omega)).trans (hW.block b' h1 h2)⟩⟩
theorem num_small {s : ByteArray} {i p : Nat} (hd : DigAt s i (p - i)) (hp : i ≤ p) (h8 : p ≤ i + 8) (hs : p ≤ s.size) : numAt s i p ≤ 100000000 := by
  have h1 := numAt_bound hd hp h8 hs
  have h2 : 10 ^ (p - i) ≤ 10 ^ 8 := Nat.pow_le_pow_right (by decide) (by omega)
  omega

set_option maxRecDepth 100000 in
set_option maxHeartbeats 4000000 in
theorem valueM_base {ks : Ks} (rb i : Nat) (s : ByteArray) (w : World) (h : MrB rb s i false w) (hi : i ≤ s.size) (hs : s.size ≤ 2000000) (hno : atB s i ≠ 83 ∨ s.size < i + 3) :
    Calls Try.prog 38 #[.pointer (some ⟨rb, 0, none⟩)] w (ValM ks rb s i w) := by
  have hr := h.lt
  have HM := Lib.hid (h.alloc (.cells #[.string ⟨#[]⟩, .int .i64 0, .slice none 0 0, .slice none 0 0] 27))
  have HB := Lib.hid (Blk.new w 27 #[.string ⟨#[]⟩, .int .i64 0, .slice none 0 0, .slice none 0 0])
  have HW := Lib.hid (show Wrote rb (rb + 1) w (w.alloc (.cells #[.string ⟨#[]⟩, .int .i64 0, .slice none 0 0, .slice none 0 0] 27)) from Wrote.of_below ((Below.refl _ _).alloc (Nat.le_refl _) _))
  clear h
  by_cases h45 : atB s i = 45
  · have H45 := Lib.hid h45
    have hl : i < s.size := (atB_hit (by decide) h45).1
    clear h45 hno
    go_enter Try.func38, Try.ntmps38
    go_wp2_with fail
    refine (next_hit rb i 45 s _ HM.out (by omega) hs (by decide) (by decide) H45.out).mono ?_
    rintro e w2 ⟨rfl, hWw2, hMw2⟩
    have HBw2 := Lib.hid (show Blk w2 w.heap.size 27 #[.string ⟨#[]⟩, .int .i64 0, .slice none 0 0, .slice none 0 0] from (hWw2.block _ HB.out.lt (by omega)).trans HB.out)
    have HWw2 := Lib.hid (HW.out.trans hWw2)
    have HMw2 := Lib.hid hMw2
    clear hWw2 hMw2 HM HB HW
    obtain ⟨g1, g2, g3⟩ := ans_done (w := w) HBw2.out HMw2.out (by omega) HWw2.out (Nat.le_refl _) (.string ⟨#[98]⟩) (.int .i64 0) (.slice none 0 0) (.slice none 0 0)
    obtain ⟨z0, z1, z2, z3⟩ := g1.c2
    have HQ := Lib.hid (show ValM ks rb s i w (.returned (.agg #[.string ⟨#[98]⟩, .int .i64 0, .slice none 0 0, .slice none 0 0])) (set4 w2 w.heap.size (.string ⟨#[98]⟩) (.int .i64 0) (.slice none 0 0) (.slice none 0 0)) from
      ⟨g3, i + 1, false, 0, truV 0, none, 0, fun _ => by omega, by omega, hl, g2, rfl, rfl, plain_rd _ _ (by decide) (by decide) (by decide) _ _, good_truth (.inl ⟨rfl, rfl⟩) H45.out⟩)
    obtain ⟨wF, hF⟩ : ∃ wF, wF = set4 w2 w.heap.size (.string ⟨#[98]⟩) (.int .i64 0) (.slice none 0 0) (.slice none 0 0) := ⟨_, rfl⟩
    rw [← hF] at z0 z1 z2 z3 HQ
    unfold set4 at hF
    obtain ⟨y0, y1, y2, y3⟩ := HBw2.out.c2
    obtain ⟨f0, f1, f2, f3⟩ := HBw2.out.f4
    clear g1 g2 g3
    go_wp2_with fail
    rw [← hF]
    exact bodyPost_ret (v := .agg #[.string ⟨#[98]⟩, .int .i64 0, .slice none 0 0, .slice none 0 0]) (by simp [results, Try.results38, go_sem, z0, z1, z2, z3]) rfl HQ.out
  by_cases h43 : atB s i = 43
  · have H45 := Lib.hid h45
    have H43 := Lib.hid h43
    have hl : i < s.size := (atB_hit (by decide) h43).1
    clear h45 h43 hno
    go_enter Try.func38, Try.ntmps38
    go_wp2_with fail
    refine (next_miss rb i 45 s _ HM.out (by omega) hs (by decide) (by decide) H45.out).mono ?_
    rintro e w2 ⟨rfl, hWw2, hMw2⟩
    have HBw2 := Lib.hid (show Blk w2 w.heap.size 27 #[.string ⟨#[]⟩, .int .i64 0, .slice none 0 0, .slice none 0 0] from (hWw2.block _ HB.out.lt (by omega)).trans HB.out)
    have HWw2 := Lib.hid (HW.out.trans hWw2)
    have HMw2 := Lib.hid hMw2
    clear hWw2 hMw2 HM HB HW
    go_wp2_with fail
    refine (next_hit rb i 43 s _ HMw2.out (by omega) hs (by decide) (by decide) H43.out).mono ?_
    rintro e w3 ⟨rfl, hWw3, hMw3⟩
    have HBw3 := Lib.hid (show Blk w3 w.heap.size 27 #[.string ⟨#[]⟩, .int .i64 0, .slice none 0 0, .slice none 0 0] from (hWw3.block _ HBw2.out.lt (by omega)).trans HBw2.out)
    have HWw3 := Lib.hid (HWw2.out.trans hWw3)
    have HMw3 := Lib.hid hMw3
    clear hWw3 hMw3 HMw2 HBw2 HWw2
    obtain ⟨g1, g2, g3⟩ := ans_done (w := w) HBw3.out HMw3.out (by omega) HWw3.out (Nat.le_refl _) (.string ⟨#[98]⟩) (.int .i64 1) (.slice none 0 0) (.slice none 0 0)
    obtain ⟨z0, z1, z2, z3⟩ := g1.c2
    have HQ := Lib.hid (show ValM ks rb s i w (.returned (.agg #[.string ⟨#[98]⟩, .int .i64 1, .slice none 0 0, .slice none 0 0])) (set4 w3 w.heap.size (.string ⟨#[98]⟩) (.int .i64 1) (.slice none 0 0) (.slice none 0 0)) from
      ⟨g3, i + 1, false, 0, truV 1, none, 0, fun _ => by omega, by omega, hl, g2, rfl, rfl, plain_rd _ _ (by decide) (by decide) (by decide) _ _, good_truth (.inr ⟨rfl, rfl⟩) H43.out⟩)
    obtain ⟨wF, hF⟩ : ∃ wF, wF = set4 w3 w.heap.size (.string ⟨#[98]⟩) (.int .i64 1) (.slice none 0 0) (.slice none 0 0) := ⟨_, rfl⟩
    rw [← hF] at z0 z1 z2 z3 HQ
    unfold set4 at hF
    obtain ⟨y0, y1, y2, y3⟩ := HBw3.out.c2
    obtain ⟨f0, f1, f2, f3⟩ := HBw3.out.f4
    clear g1 g2 g3
    go_wp2_with fail
    rw [← hF]
    exact bodyPost_ret (v := .agg #[.string ⟨#[98]⟩, .int .i64 1, .slice none 0 0, .slice none 0 0]) (by simp [results, Try.results38, go_sem, z0, z1, z2, z3]) rfl HQ.out
  by_cases h64 : atB s i = 64
  · have H45 := Lib.hid h45
    have H43 := Lib.hid h43
    have H64 := Lib.hid h64
    have hl : i < s.size := (atB_hit (by decide) h64).1
    clear h45 h43 h64 hno
    go_enter Try.func38, Try.ntmps38
    go_wp2_with fail
    refine (next_miss rb i 45 s _ HM.out (by omega) hs (by decide) (by decide) H45.out).mono ?_
    rintro e w2 ⟨rfl, hWw2, hMw2⟩
    have HBw2 := Lib.hid (show Blk w2 w.heap.size 27 #[.string ⟨#[]⟩, .int .i64 0, .slice none 0 0, .slice none 0 0] from (hWw2.block _ HB.out.lt (by omega)).trans HB.out)
    have HWw2 := Lib.hid (HW.out.trans hWw2)
    have HMw2 := Lib.hid hMw2
    clear hWw2 hMw2 HM HB HW
    go_wp2_with fail
    refine (next_miss rb i 43 s _ HMw2.out (by omega) hs (by decide) (by decide) H43.out).mono ?_
    rintro e w3 ⟨rfl, hWw3, hMw3⟩
    have HBw3 := Lib.hid (show Blk w3 w.heap.size 27 #[.string ⟨#[]⟩, .int .i64 0, .slice none 0 0, .slice none 0 0] from (hWw3.block _ HBw2.out.lt (by omega)).trans HBw2.out)
    have HWw3 := Lib.hid (HWw2.out.trans hWw3)
    have HMw3 := Lib.hid hMw3
    clear hWw3 hMw3 HMw2 HBw2 HWw2
    go_wp2_with fail
    refine (next_hit rb i 64 s _ HMw3.out (by omega) hs (by decide) (by decide) H64.out).mono ?_
    rintro e w4 ⟨rfl, hWw4, hMw4⟩
    have HBw4 := Lib.hid (show Blk w4 w.heap.size 27 #[.string ⟨#[]⟩, .int .i64 0, .slice none 0 0, .slice none 0 0] from (hWw4.block _ HBw3.out.lt (by omega)).trans HBw3.out)
    have HWw4 := Lib.hid (HWw3.out.trans hWw4)
    have HMw4 := Lib.hid hMw4
    clear hWw4 hMw4 HMw3 HBw3 HWw3
    go_wp2_with fail
    refine (numberM_any rb (i + 1) s _ HMw4.out hl hs).mono ?_
    rintro e w5 ⟨hW, p, q1, q2, q3, q4, q5, rfl, hM⟩
    have HBw5 := Lib.hid (show Blk w5 w.heap.size 27 #[.string ⟨#[]⟩, .int .i64 0, .slice none 0 0, .slice none 0 0] from (hW.block _ HBw4.out.lt (by omega)).trans HBw4.out)
    have HWw5 := Lib.hid (HWw4.out.trans hW)
    have HMw5 := Lib.hid hM
    have HN := Lib.hid (num_small q4 q1 q2 q3)
    have Hq := Lib.hid (show _ ∧ _ ∧ _ ∧ _ from ⟨q1, q3, q4, q5⟩)
    clear hW hM q1 q2 q3 q4 q5
    obtain ⟨g1, g2, g3⟩ := ans_done (w := w) HBw5.out HMw5.out (by omega) HWw5.out (Nat.le_refl _) (.string ⟨#[111]⟩) (.int .i64 (numAt s (i + 1) p : Nat)) (.slice none 0 0) (.slice none 0 0)
    obtain ⟨z0, z1, z2, z3⟩ := g1.c2
    have HQ := Lib.hid (show ValM ks rb s i w (.returned (.agg #[.string ⟨#[111]⟩, .int .i64 (numAt s (i + 1) p : Nat), .slice none 0 0, .slice none 0 0])) (set4 w5 w.heap.size (.string ⟨#[111]⟩) (.int .i64 (numAt s (i + 1) p : Nat)) (.slice none 0 0) (.slice none 0 0)) from
      ⟨g3, p, _, 0, numV ⟨#[111]⟩ (numAt s (i + 1) p), none, 0, fun _ => by have := Hq.out.1; omega, by have := Hq.out.1; omega, Hq.out.2.1, g2, rfl, rfl, plain_rd _ _ (by decide) (by omega) (by have := HN.out; omega) _ _, good_owner H64.out Hq.out.1 Hq.out.2.1 Hq.out.2.2.1 Hq.out.2.2.2⟩)
    obtain ⟨wF, hF⟩ : ∃ wF, wF = set4 w5 w.heap.size (.string ⟨#[111]⟩) (.int .i64 (numAt s (i + 1) p : Nat)) (.slice none 0 0) (.slice none 0 0) := ⟨_, rfl⟩
    rw [← hF] at z0 z1 z2 z3 HQ
    unfold set4 at hF
    obtain ⟨y0, y1, y2, y3⟩ := HBw5.out.c2
    obtain ⟨f0, f1, f2, f3⟩ := HBw5.out.f4
    clear g1 g2 g3
    go_wp2_with fail
    rw [← hF]
    exact bodyPost_ret (v := .agg #[.string ⟨#[111]⟩, .int .i64 (numAt s (i + 1) p : Nat), .slice none 0 0, .slice none 0 0]) (by simp [results, Try.results38, go_sem, z0, z1, z2, z3]) rfl HQ.out
  by_cases h83 : atB s i ≠ 83
  · have H45 := Lib.hid h45
    have H43 := Lib.hid h43
    have H64 := Lib.hid h64
    have H83 := Lib.hid h83
    clear h45 h43 h64 hno
    by_cases hl : i < s.size
    · have c0 : decide (s.size ≤ i) = false := by rw [decide_eq_false_iff_not]; omega
      have c0b : ¬ (s.size : Int) ≤ (i : Int) := by omega
      have c1 : (((s[i]'hl).toNat : Int) != 83) = true := by
        rw [bne_iff_ne]
        have := H83.out
        unfold atB at this
        rw [dif_pos hl] at this
        omega
      clear h83
      go_enter Try.func38, Try.ntmps38
      go_wp2_with fail
      refine (next_miss rb i 45 s _ HM.out (by omega) hs (by decide) (by decide) H45.out).mono ?_
      rintro e w2 ⟨rfl, hWw2, hMw2⟩
      have HBw2 := Lib.hid (show Blk w2 w.heap.size 27 #[.string ⟨#[]⟩, .int .i64 0, .slice none 0 0, .slice none 0 0] from (hWw2.block _ HB.out.lt (by omega)).trans HB.out)
      have HWw2 := Lib.hid (HW.out.trans hWw2)
      have HMw2 := Lib.hid hMw2
      clear hWw2 hMw2 HM HB HW
      go_wp2_with fail
      refine (next_miss rb i 43 s _ HMw2.out (by omega) hs (by decide) (by decide) H43.out).mono ?_
      rintro e w3 ⟨rfl, hWw3, hMw3⟩
      have HBw3 := Lib.hid (show Blk w3 w.heap.size 27 #[.string ⟨#[]⟩, .int .i64 0, .slice none 0 0, .slice none 0 0] from (hWw3.block _ HBw2.out.lt (by omega)).trans HBw2.out)
      have HWw3 := Lib.hid (HWw2.out.trans hWw3)
      have HMw3 := Lib.hid hMw3
      clear hWw3 hMw3 HMw2 HBw2 HWw2
      go_wp2_with fail
      refine (next_miss rb i 64 s _ HMw3.out (by omega) hs (by decide) (by decide) H64.out).mono ?_
      rintro e w4 ⟨rfl, hWw4, hMw4⟩
      have HBw4 := Lib.hid (show Blk w4 w.heap.size 27 #[.string ⟨#[]⟩, .int .i64 0, .slice none 0 0, .slice none 0 0] from (hWw4.block _ HBw3.out.lt (by omega)).trans HBw3.out)
      have HWw4 := Lib.hid (HWw3.out.trans hWw4)
      have HMw4 := Lib.hid hMw4
      clear hWw4 hMw4 HMw3 HBw3 HWw3
      obtain ⟨x0, x1, x2⟩ := HMw4.out.c
      go_wp2_with fail
      go_quiet (fail)
      clear x0 x1 x2
      have HMd := Lib.hid (HMw4.out.drewN nq)
      have HWd := Lib.hid (HWw4.out.drewN nq)
      go_wp2_with fail
      refine (numberM_any rb i s _ HMd.out (by omega) hs).mono ?_
      rintro e w5 ⟨hW, p, q1, q2, q3, q4, q5, rfl, hM⟩
      have HBw5 := Lib.hid (show Blk w5 w.heap.size 27 #[.string ⟨#[]⟩, .int .i64 0, .slice none 0 0, .slice none 0 0] from (hW.block _ HBw4.out.lt (by omega)).trans HBw4.out)
      have HWw5 := Lib.hid (HWd.out.trans hW)
      have HMw5 := Lib.hid hM
      have HN := Lib.hid (num_small q4 q1 q2 q3)
      have Hq := Lib.hid (show _ ∧ _ ∧ _ ∧ _ from ⟨q1, q3, q4, q5⟩)
      clear hW hM q1 q2 q3 q4 q5
      obtain ⟨g1, g2, g3⟩ := ans_done (w := w) HBw5.out HMw5.out (by omega) HWw5.out (Nat.le_refl _) (.string ⟨#[110]⟩) (.int .i64 (numAt s i p : Nat)) (.slice none 0 0) (.slice none 0 0)
      obtain ⟨z0, z1, z2, z3⟩ := g1.c2
      have HQ := Lib.hid (show ValM ks rb s i w (.returned (.agg #[.string ⟨#[110]⟩, .int .i64 (numAt s i p : Nat), .slice none 0 0, .slice none 0 0])) (set4 w5 w.heap.size (.string ⟨#[110]⟩) (.int .i64 (numAt s i p : Nat)) (.slice none 0 0) (.slice none 0 0)) from
        ⟨g3, p, _, 0, numV ⟨#[110]⟩ (numAt s i p), none, 0, (fun hb => by have h1 := Hq.out.1; rcases Nat.eq_or_lt_of_le h1 with h2 | h2; (rw [decide_eq_true h2.symm] at hb; cases hb); exact h2), Hq.out.1, Hq.out.2.1, g2, rfl, rfl, plain_rd _ _ (by decide) (by omega) (by have := HN.out; omega) _ _, good_number Hq.out.1 Hq.out.2.1 Hq.out.2.2.1 Hq.out.2.2.2 H45.out H43.out H64.out H83.out⟩)
      obtain ⟨wF, hF⟩ : ∃ wF, wF = set4 w5 w.heap.size (.string ⟨#[110]⟩) (.int .i64 (numAt s i p : Nat)) (.slice none 0 0) (.slice none 0 0) := ⟨_, rfl⟩
      rw [← hF] at z0 z1 z2 z3 HQ
      unfold set4 at hF
      obtain ⟨y0, y1, y2, y3⟩ := HBw5.out.c2
      obtain ⟨f0, f1, f2, f3⟩ := HBw5.out.f4
      clear g1 g2 g3
      go_wp2_with fail
      rw [← hF]
      exact bodyPost_ret (v := .agg #[.string ⟨#[110]⟩, .int .i64 (numAt s i p : Nat), .slice none 0 0, .slice none 0 0]) (by simp [results, Try.results38, go_sem, z0, z1, z2, z3]) rfl HQ.out
    · have c0 : decide (s.size ≤ i) = true := by rw [decide_eq_true_eq]; omega
      have c0b : (s.size : Int) ≤ (i : Int) := by omega
      clear h83 hl
      go_enter Try.func38, Try.ntmps38
      go_wp2_with fail
      refine (next_miss rb i 45 s _ HM.out (by omega) hs (by decide) (by decide) H45.out).mono ?_
      rintro e w2 ⟨rfl, hWw2, hMw2⟩
      have HBw2 := Lib.hid (show Blk w2 w.heap.size 27 #[.string ⟨#[]⟩, .int .i64 0, .slice none 0 0, .slice none 0 0] from (hWw2.block _ HB.out.lt (by omega)).trans HB.out)
      have HWw2 := Lib.hid (HW.out.trans hWw2)
      have HMw2 := Lib.hid hMw2
      clear hWw2 hMw2 HM HB HW
      go_wp2_with fail
      refine (next_miss rb i 43 s _ HMw2.out (by omega) hs (by decide) (by decide) H43.out).mono ?_
      rintro e w3 ⟨rfl, hWw3, hMw3⟩
      have HBw3 := Lib.hid (show Blk w3 w.heap.size 27 #[.string ⟨#[]⟩, .int .i64 0, .slice none 0 0, .slice none 0 0] from (hWw3.block _ HBw2.out.lt (by omega)).trans HBw2.out)
      have HWw3 := Lib.hid (HWw2.out.trans hWw3)
      have HMw3 := Lib.hid hMw3
      clear hWw3 hMw3 HMw2 HBw2 HWw2
      go_wp2_with fail
      refine (next_miss rb i 64 s _ HMw3.out (by omega) hs (by decide) (by decide) H64.out).mono ?_
      rintro e w4 ⟨rfl, hWw4, hMw4⟩
      have HBw4 := Lib.hid (show Blk w4 w.heap.size 27 #[.string ⟨#[]⟩, .int .i64 0, .slice none 0 0, .slice none 0 0] from (hWw4.block _ HBw3.out.lt (by omega)).trans HBw3.out)
      have HWw4 := Lib.hid (HWw3.out.trans hWw4)
      have HMw4 := Lib.hid hMw4
      clear hWw4 hMw4 HMw3 HBw3 HWw3
      obtain ⟨x0, x1, x2⟩ := HMw4.out.c
      go_wp2_with fail
      go_quiet (fail)
      clear x0 x1 x2
      have HMd := Lib.hid (HMw4.out.drewN nq)
      have HWd := Lib.hid (HWw4.out.drewN nq)
      go_wp2_with fail
      refine (numberM_any rb i s _ HMd.out (by omega) hs).mono ?_
      rintro e w5 ⟨hW, p, q1, q2, q3, q4, q5, rfl, hM⟩
      have HBw5 := Lib.hid (show Blk w5 w.heap.size 27 #[.string ⟨#[]⟩, .int .i64 0, .slice none 0 0, .slice none 0 0] from (hW.block _ HBw4.out.lt (by omega)).trans HBw4.out)
      have HWw5 := Lib.hid (HWd.out.trans hW)
      have HMw5 := Lib.hid hM
      have HN := Lib.hid (num_small q4 q1 q2 q3)
      have Hq := Lib.hid (show _ ∧ _ ∧ _ ∧ _ from ⟨q1, q3, q4, q5⟩)
      clear hW hM q1 q2 q3 q4 q5
      obtain ⟨g1, g2, g3⟩ := ans_done (w := w) HBw5.out HMw5.out (by omega) HWw5.out (Nat.le_refl _) (.string ⟨#[110]⟩) (.int .i64 (numAt s i p : Nat)) (.slice none 0 0) (.slice none 0 0)
      obtain ⟨z0, z1, z2, z3⟩ := g1.c2
      have HQ := Lib.hid (show ValM ks rb s i w (.returned (.agg #[.string ⟨#[110]⟩, .int .i64 (numAt s i p : Nat), .slice none 0 0, .slice none 0 0])) (set4 w5 w.heap.size (.string ⟨#[110]⟩) (.int .i64 (numAt s i p : Nat)) (.slice none 0 0) (.slice none 0 0)) from
        ⟨g3, p, _, 0, numV ⟨#[110]⟩ (numAt s i p), none, 0, (fun hb => by have h1 := Hq.out.1; rcases Nat.eq_or_lt_of_le h1 with h2 | h2; (rw [decide_eq_true h2.symm] at hb; cases hb); exact h2), Hq.out.1, Hq.out.2.1, g2, rfl, rfl, plain_rd _ _ (by decide) (by omega) (by have := HN.out; omega) _ _, good_number Hq.out.1 Hq.out.2.1 Hq.out.2.2.1 Hq.out.2.2.2 H45.out H43.out H64.out H83.out⟩)
      obtain ⟨wF, hF⟩ : ∃ wF, wF = set4 w5 w.heap.size (.string ⟨#[110]⟩) (.int .i64 (numAt s i p : Nat)) (.slice none 0 0) (.slice none 0 0) := ⟨_, rfl⟩
      rw [← hF] at z0 z1 z2 z3 HQ
      unfold set4 at hF
      obtain ⟨y0, y1, y2, y3⟩ := HBw5.out.c2
      obtain ⟨f0, f1, f2, f3⟩ := HBw5.out.f4
      clear g1 g2 g3
      go_wp2_with fail
      rw [← hF]
      exact bodyPost_ret (v := .agg #[.string ⟨#[110]⟩, .int .i64 (numAt s i p : Nat), .slice none 0 0, .slice none 0 0]) (by simp [results, Try.results38, go_sem, z0, z1, z2, z3]) rfl HQ.out
  have h83' : atB s i = 83 := by omega
  have hl3 : s.size < i + 3 := by omega
  have hl : i < s.size := (atB_hit (by decide) h83').1
  have H45 := Lib.hid h45
  have H43 := Lib.hid h43
  have H64 := Lib.hid h64
  have HG := Lib.hid (show GoodM ks s i i true (.mk ⟨#[]⟩ 0 [] []) from fun hok D u r hu ht _ => by
    obtain ⟨_, e, _⟩ := row_text h83' hok hu ht
    rw [tl_end (by omega)] at e
    cases e)
  have c0 : decide (s.size ≤ i) = false := by rw [decide_eq_false_iff_not]; omega
  have c0b : ¬ (s.size : Int) ≤ (i : Int) := by omega
  have c1 : (((s[i]'hl).toNat : Int) != 83) = false := by
    rw [bne_eq_false_iff_eq]
    unfold atB at h83'
    rw [dif_pos hl] at h83'
    omega
  have c2 : (s.size : Int) < (i : Int) + 3 := by omega
  clear h45 h43 h64 hno h83 h83'
  go_enter Try.func38, Try.ntmps38
  go_wp2_with fail
  refine (next_miss rb i 45 s _ HM.out (by omega) hs (by decide) (by decide) H45.out).mono ?_
  rintro e w2 ⟨rfl, hWw2, hMw2⟩
  have HBw2 := Lib.hid (show Blk w2 w.heap.size 27 #[.string ⟨#[]⟩, .int .i64 0, .slice none 0 0, .slice none 0 0] from (hWw2.block _ HB.out.lt (by omega)).trans HB.out)
  have HWw2 := Lib.hid (HW.out.trans hWw2)
  have HMw2 := Lib.hid hMw2
  clear hWw2 hMw2 HM HB HW
  go_wp2_with fail
  refine (next_miss rb i 43 s _ HMw2.out (by omega) hs (by decide) (by decide) H43.out).mono ?_
  rintro e w3 ⟨rfl, hWw3, hMw3⟩
  have HBw3 := Lib.hid (show Blk w3 w.heap.size 27 #[.string ⟨#[]⟩, .int .i64 0, .slice none 0 0, .slice none 0 0] from (hWw3.block _ HBw2.out.lt (by omega)).trans HBw2.out)
  have HWw3 := Lib.hid (HWw2.out.trans hWw3)
  have HMw3 := Lib.hid hMw3
  clear hWw3 hMw3 HMw2 HBw2 HWw2
  go_wp2_with fail
  refine (next_miss rb i 64 s _ HMw3.out (by omega) hs (by decide) (by decide) H64.out).mono ?_
  rintro e w4 ⟨rfl, hWw4, hMw4⟩
  have HBw4 := Lib.hid (show Blk w4 w.heap.size 27 #[.string ⟨#[]⟩, .int .i64 0, .slice none 0 0, .slice none 0 0] from (hWw4.block _ HBw3.out.lt (by omega)).trans HBw3.out)
  have HWw4 := Lib.hid (HWw3.out.trans hWw4)
  have HMw4 := Lib.hid hMw4
  clear hWw4 hMw4 HMw3 HBw3 HWw3
  obtain ⟨x0, x1, x2⟩ := HMw4.out.c
  go_wp2_with fail
  go_quiet (fail)
  go_wp2_with fail
  go_quiet (fail)
  clear x0 x1 x2
  generalize hw5 : (w4.drewN _).drewN _ = w5
  have HM5 := Lib.hid (show MrB rb s i false w5 by rw [← hw5]; exact (HMw4.out.drewN _).drewN _)
  have HW5 := Lib.hid (show Wrote rb (rb + 1) w w5 by rw [← hw5]; exact (HWw4.out.drewN _).drewN _)
  have HB5 := Lib.hid (show Blk w5 w.heap.size 27 #[.string ⟨#[]⟩, .int .i64 0, .slice none 0 0, .slice none 0 0] by rw [← hw5]; exact HBw4.out)
  clear hw5
  have x2 := HM5.out.c.2.2
  have f2 := Blk.frozen HM5.out 2
  go_upto_region 11 with fail
  clear x2 f2
  have HM6 := Lib.hid (HM5.out.turn true)
  have HW6 := Lib.hid (HW5.out.trans (Wrote.set_ (w := w5) (b := rb) (o := 2) (Nat.le_refl rb) (Nat.lt_succ_self rb) (.bool true)))
  have HB6 := Lib.hid (HB5.out.far (p := ⟨rb, 2, none⟩) (by simp; omega) (.bool true))
  generalize hw6 : w5.setCell ⟨rb, 2, none⟩ (.bool true) = w6 at *
  clear hw6
  obtain ⟨g1, g2, g3⟩ := ans_done (w := w) HB6.out HM6.out (by omega) HW6.out (Nat.le_refl _) (.string ⟨#[]⟩) (.int .i64 0) (.slice none 0 0) (.slice none 0 0)
  obtain ⟨z0, z1, z2, z3⟩ := g1.c2
  have HQ := Lib.hid (show ValM ks rb s i w (.returned (.agg #[.string ⟨#[]⟩, .int .i64 0, .slice none 0 0, .slice none 0 0])) (set4 w6 w.heap.size (.string ⟨#[]⟩) (.int .i64 0) (.slice none 0 0) (.slice none 0 0)) from
    ⟨g3, i, true, 0, .mk ⟨#[]⟩ 0 [] [], none, 0, (fun h => by cases h), Nat.le_refl _, hi, g2, rfl, rfl, plain_rd _ _ (by decide) (by decide) (by decide) _ _, HG.out⟩)
  obtain ⟨wF, hF⟩ : ∃ wF, wF = set4 w6 w.heap.size (.string ⟨#[]⟩) (.int .i64 0) (.slice none 0 0) (.slice none 0 0) := ⟨_, rfl⟩
  rw [← hF] at z0 z1 z2 z3 HQ
  unfold set4 at hF
  obtain ⟨y0, y1, y2, y3⟩ := HB6.out.c2
  obtain ⟨f0, f1, f2, f3⟩ := HB6.out.f4
  clear g1 g2 g3
  go_wp2_with fail
  rw [← hF]
  exact bodyPost_ret (v := .agg #[.string ⟨#[]⟩, .int .i64 0, .slice none 0 0, .slice none 0 0]) (by simp [results, Try.results38, go_sem, z0, z1, z2, z3]) rfl HQ.out
end Go.Proofs.Ytbjnjdhkillbiaa

namespace Go.Proofs.Ytbjnjdhkillbiaa
open Go.RowKit

theorem OwnRow.imp {α : Type} {c c' : Cod α} {e : TypeId} {base cb : Nat} {w : World} {v : Value} {xs : List α} (hs : c.size = c'.size) (hi : ∀ {F : Nat → Prop} {w : World} {cs : List Value} {x : α}, c.rd F w cs x → c'.rd F w cs x) (h : OwnRow c e base cb w v xs) : OwnRow c' e base cb w v xs := by
  obtain ⟨us, h1, h2, h3⟩ := h
  refine ⟨us, by rw [← hs]; exact h1, h2, fun i x hx => ?_⟩
  obtain ⟨cs, g1, g2⟩ := h3 i x hx
  exact ⟨cs, fun j u hu => by rw [← hs]; exact g1 j u hu, hi g2⟩
theorem OwnRow.nil_ {α : Type} (c : Cod α) (e : TypeId) (base cb : Nat) (w : World) : OwnRow c e base cb w (.slice none 0 0) [] := ⟨[], World.ownsRow_nil _ _ _ _, fun _ h => by simp at h, fun _ _ h => by simp at h⟩
theorem OwnRow.own_lt {α : Type} {c : Cod α} {e : TypeId} {base cb : Nat} {w : World} {v : Value} {xs : List α} (h : OwnRow c e base cb w v xs) {g : Nat} (hg : v.ownBlock = some g) : base ≤ g ∧ g < w.heap.size := by
  obtain ⟨us, h, _⟩ := h
  rcases h.2 with ⟨rfl, _⟩ | ⟨g', cap, cur, rfl, hb, hh, _⟩
  · cases hg
  · simp [Value.ownBlock] at hg
    subst hg
    have hB : Blk w g' e cur := hh
    exact ⟨hb, hB.lt⟩
theorem OwnRow.form_ {α : Type} {c : Cod α} {e : TypeId} {base cb : Nat} {w : World} {v : Value} {xs : List α} (h : OwnRow c e base cb w v xs) : ∃ A cA, v = .slice A xs.length cA ∧ xs.length ≤ cA ∧ cA ≤ maxLen := by
  obtain ⟨us, h, _⟩ := h
  rcases h.2 with ⟨rfl, h0⟩ | ⟨g', cap, cur, rfl, hb, hh, h1, h2, _⟩
  · exact ⟨none, 0, by rw [h0], by omega, Nat.zero_le _⟩
  · exact ⟨_, _, rfl, h1, h2⟩

/-- A record that is being read: the answer's variable, the record's, and its parts. -/
structure RowB (rb : Nat) (s : ByteArray) (w : World) (x : Nat) (ty : ByteArray) (done : List Val) (d : Nat) (A : Option Addr) (cA ij : Nat) (bad : Bool) (wr : World) : Prop where
  rd : MrB rb s ij bad wr
  wrote : Wrote rb (rb + 1) w wr
  res : Blk wr w.heap.size 27 #[.string ⟨#[]⟩, .int .i64 0, .slice none 0 0, .slice none 0 0]
  var : Blk wr x 27 #[.string ty, .int .i64 0, .slice A done.length cA, .slice none 0 0]
  own : OwnRow (Cod.val d) 27 (x + 1) (x + 1) wr (.slice A done.length cA) done
section
variable {rb x d cA ij : Nat} {s ty : ByteArray} {w wr w' : World} {done : List Val} {A : Option Addr} {bad : Bool}
theorem RowB.go (h : RowB rb s w x ty done d A cA ij bad wr) (hr : rb < w.heap.size) (hx : w.heap.size < x) {i' : Nat} {b' : Bool} (hW : Wrote rb (rb + 1) wr w') (hM : MrB rb s i' b' w') : RowB rb s w x ty done d A cA i' b' w' :=
  ⟨hM, h.wrote.trans hW, (hW.block _ h.res.lt (by omega)).trans h.res, (hW.block _ h.var.lt (by omega)).trans h.var, h.own.keep (Nat.le_refl _) hW.size fun i h1 h2 => hW.block i h2 (by omega)⟩
theorem RowB.drew (h : RowB rb s w x ty done d A cA ij bad wr) : RowB rb s w x ty done d A cA ij bad wr.drew :=
  ⟨h.rd, h.wrote.drew, h.res, h.var, h.own.keep (Nat.le_refl _) (Nat.le_refl _) fun _ _ _ => rfl⟩
theorem RowB.turn (h : RowB rb s w x ty done d A cA ij bad wr) (hr : rb < w.heap.size) (hx : w.heap.size < x) (b' : Bool) : RowB rb s w x ty done d A cA ij b' (wr.setCell ⟨rb, 2, none⟩ (.bool b')) :=
  h.go hr hx (Wrote.set_ (Nat.le_refl _) (Nat.lt_succ_self _) _) (h.rd.turn b')
/-- The row's depth, made greater. -/
theorem RowB.deep (h : RowB rb s w x ty done d A cA ij bad wr) {e : Nat} (he : d ≤ e) : RowB rb s w x ty done e A cA ij bad wr :=
  ⟨h.rd, h.wrote, h.res, h.var, h.own.imp (by rw [val_size, val_size]) fun hr => val_le he hr⟩
/-- A value appended, as the memory has it. -/
theorem RowB.push (h : RowB rb s w x ty done d A cA ij bad wr) (hx : w.heap.size < x) (hn : done.length ≤ 100000) {i' : Nat} {b' : Bool} {wv : World} (hr : rb < w.heap.size) (hW : Wrote rb (rb + 1) wr wv) (hM : MrB rb s i' b' wv) {dv cv : Nat} {v : Val} {Av : Option Addr} (hp : v.path = [])
    (hv : VRd (Cod.val dv) (Fresh wr wv) wv (.slice Av v.parts.length cv) (.slice none 0 0) v) :
    ∃ g cap w4, (Builtin.append_ #[24, 24] 24 #[.slice A done.length cA, .slice (some ⟨wv.heap.size, 0, none⟩) 1 1]).run Try.prog (wv.alloc (.cells #[.string v.ty, .int .i64 v.n, .slice Av v.parts.length cv, .slice none 0 0] 27)) = .ok (.slice (some ⟨g, 0, none⟩) (done.length + 1) cap) w4 ∧
      w4.cell? ⟨x, 2, none⟩ = some (.slice A done.length cA) ∧ w4.frozen? ⟨x, 2, none⟩ = false ∧
      RowB rb s w x ty (done ++ [v]) (max d (dv + 1)) (some ⟨g, 0, none⟩) cap i' b' (w4.setCell ⟨x, 2, none⟩ (.slice (some ⟨g, 0, none⟩) (done.length + 1) cap)) := by
  have h1 := (h.go hr hx hW hM).deep (Nat.le_max_left d (dv + 1))
  have hs := hW.size
  have hlt := h.var.lt
  obtain ⟨g, cap, w4, happ, ho, hg, hge, hgat⟩ := h1.own.push (P := Try.prog) 24 24 _ 72 Try.underlying24 (by rw [val_size]; exact info_val) (by rw [val_size]; rfl) (by rw [val_size]; decide) (by decide) hn (Nat.le_refl _) (by omega) 1
    [.string v.ty, .int .i64 v.n, .slice Av v.parts.length cv, .slice none 0 0] v (fun u hu => by simp at hu; rcases hu with rfl | rfl | rfl | rfl <;> rfl)
    (val_le (d := dv + 1) (Nat.le_max_right _ _) ⟨_, _, rfl, hv.mono fun b hb => ⟨by have := hb.1; omega, hb.2, fun hc => by have := (h.own.own_lt hc).2; have := hb.1; omega⟩⟩)
  have hB : Below (x + 1) wv w4 := ⟨hg.os, hg.tape, hg.output, hg.size, fun i hi => hg.block i (by omega) fun hc => by have := (h.own.own_lt hc.symm).1; omega⟩
  have hX : Blk w4 x 27 #[.string ty, .int .i64 0, .slice A done.length cA, .slice none 0 0] := (hB.block x (by omega)).trans h1.var
  have hW4 : Wrote rb (rb + 1) w w4 := ⟨hB.os.trans h1.wrote.os, hB.tape.trans h1.wrote.tape, hB.output.trans h1.wrote.output, Nat.le_trans h1.wrote.size hB.size, fun i hi hn => (hB.block i (by omega)).trans (h1.wrote.block i hi hn)⟩
  refine ⟨g, cap, w4, happ, hX.cell 2, hX.frozen 2, ?_⟩
  have hl : (done ++ [v]).length = done.length + 1 := by simp
  refine ⟨(Below.heap_setCell _ _ _ _ (by simp; omega)).trans ((hB.block rb (by omega)).trans h1.rd), hW4.new_ (by omega) _, (Below.heap_setCell _ _ _ _ (by simp; omega)).trans ((hB.block _ (by omega)).trans h1.res), ?_, ?_⟩
  · rw [hl]
    exact hX.set_ 2 _
  · rw [hl]
    exact ho.keep (Nat.le_refl _) (by simp [World.setCell]) fun i h2 h3 => Below.heap_setCell _ _ _ _ (by simp; omega)
/-- The record as the answer. -/
theorem RowB.done_ {ks : Ks} {i : Nat} (h : RowB rb s w x ty done d A cA ij bad wr) (hr : rb < w.heap.size) (hx : w.heap.size < x) (ht : ty.size ≤ 3) (hi : i < ij) (hs : ij ≤ s.size) (hg : GoodM ks s i ij bad (.mk ty 0 done [])) :
    ValM ks rb s i w (.returned (.agg #[.string ty, .int .i64 0, .slice A done.length cA, .slice none 0 0])) (set4 wr w.heap.size (.string ty) (.int .i64 0) (.slice A done.length cA) (.slice none 0 0)) ∧
    Blk (set4 wr w.heap.size (.string ty) (.int .i64 0) (.slice A done.length cA) (.slice none 0 0)) w.heap.size 27 #[.string ty, .int .i64 0, .slice A done.length cA, .slice none 0 0] := by
  obtain ⟨g1, g2, g3⟩ := ans_done (w := w) h.res h.rd (by omega) h.wrote (Nat.le_refl _) (.string ty) (.int .i64 0) (.slice A done.length cA) (.slice none 0 0)
  have hs4 : (set4 wr w.heap.size (.string ty) (.int .i64 0) (.slice A done.length cA) (.slice none 0 0)).heap.size = wr.heap.size := by simp [World.setCell]
  have hp := h.own.sl (Nat.le_refl _)
  refine ⟨⟨g3, ij, bad, d, .mk ty 0 done [], A, cA, fun _ => hi, by omega, hs, g2, rfl, rfl, ⟨by show ty.size ≤ maxLen; unfold maxLen; omega, by show I64 0; unfold I64; omega, ?_, Cod.Sl.nil_⟩, hg⟩, g1⟩
  exact (hp.keep fun b hb => set4at_far (o := 0) (by omega)).mono fun b hb => ⟨by omega, by rw [hs4]; exact hb.2⟩
end

/-- Whether the reader is bad, off the memory. -/
def badM (rb : Nat) (w : World) : Bool := match w.cell? ⟨rb, 2, none⟩ with | some (.bool b) => b | _ => false
theorem MrB.bad_ {rb i : Nat} {s : ByteArray} {bad : Bool} {w : World} (h : MrB rb s i bad w) : badM rb w = bad := by unfold badM; rw [h.c.2.2]
def measM (s : ByteArray) (rb : Nat) (w : World) : Nat := if badM rb w then 0 else s.size - posM rb w + 1
theorem MrB.meas {rb i : Nat} {s : ByteArray} {bad : Bool} {w : World} (h : MrB rb s i bad w) : measM s rb w = if bad then 0 else s.size - i + 1 := by unfold measM; rw [h.bad_, h.pos]

theorem next_sym (rb i b : Nat) (s : ByteArray) (w : World) (h : MrB rb s i false w) (hi : i ≤ s.size) (hs : s.size ≤ 2000000) (h0 : 0 < b) (hb : b < 256) :
    Calls Try.prog 63 #[.pointer (some ⟨rb, 0, none⟩), .int .u8 b] w fun e w' => ∃ hit : Bool, e = .returned (.bool hit) ∧ Wrote rb (rb + 1) w w' ∧ ((hit = true ∧ atB s i = b ∧ i + 1 ≤ s.size ∧ MrB rb s (i + 1) false w') ∨ (hit = false ∧ atB s i ≠ b ∧ MrB rb s i false w')) :=
  (next_any rb i b s w h hi hs h0 hb).mono fun e w' ⟨hW, hh⟩ => by
    rcases hh with ⟨h1, h2, h3⟩ | ⟨h1, h2, h3⟩
    · exact ⟨true, h2, hW, .inl ⟨rfl, h1, (atB_hit h0 h1).1, h3⟩⟩
    · exact ⟨false, h2, hW, .inr ⟨rfl, h1, h3⟩⟩
end Go.Proofs.Ytbjnjdhkillbiaa
