/- The model's reader of values: bytes and numbers. -/
import Derived.Test.YtelhjdccfomafaaDoorRs
namespace Go.Proofs.YtelhjdccfomafaaDoor
open Go.RowKit

/-- The model's reader, at a place. -/
def MrB (rb : Nat) (s : ByteArray) (i : Nat) (bad : Bool) (w : World) : Prop := Blk w rb 63 #[.string s, .int .i64 i, .bool bad]
section
variable {rb i : Nat} {s : ByteArray} {bad : Bool} {w : World}
theorem MrB.c (h : MrB rb s i bad w) : w.cell? ⟨rb, 0, none⟩ = some (.string s) ∧ w.cell? ⟨rb, 1, none⟩ = some (.int .i64 i) ∧ w.cell? ⟨rb, 2, none⟩ = some (.bool bad) := ⟨Blk.cell h 0, Blk.cell h 1, Blk.cell h 2⟩
theorem MrB.lt (h : MrB rb s i bad w) : rb < w.heap.size := Blk.lt h
theorem MrB.alloc (h : MrB rb s i bad w) (o : Obj) : MrB rb s i bad (w.alloc o) := Blk.alloc h o
theorem MrB.drew (h : MrB rb s i bad w) : MrB rb s i bad w.drew := h
theorem MrB.drewN (h : MrB rb s i bad w) (n : Nat) : MrB rb s i bad (w.drewN n) := h
theorem MrB.go (h : MrB rb s i bad w) (j : Nat) : MrB rb s j bad (w.setCell ⟨rb, 1, none⟩ (.int .i64 j)) := Blk.set_ h 1 _
theorem MrB.turn (h : MrB rb s i bad w) (b : Bool) : MrB rb s i b (w.setCell ⟨rb, 2, none⟩ (.bool b)) := Blk.set_ h 2 _
end
theorem Wrote.drew {lo hi : Nat} {w w' : World} (h : Wrote lo hi w w') : Wrote lo hi w w'.drew := ⟨h.os, h.tape, h.output, h.size, h.block⟩
theorem Wrote.drewN {lo hi : Nat} {w w' : World} (h : Wrote lo hi w w') (n : Nat) : Wrote lo hi w (w'.drewN n) := ⟨h.os, h.tape, h.output, h.size, h.block⟩

/-- The place, off the memory. -/
def posM (rb : Nat) (w : World) : Nat := match w.cell? ⟨rb, 1, none⟩ with | some (.int .i64 n) => n.toNat | _ => 0
theorem MrB.pos {rb i : Nat} {s : ByteArray} {bad : Bool} {w : World} (h : MrB rb s i bad w) : posM rb w = i := by unfold posM; rw [h.c.2.1]; simp

def NextD (rb : Nat) (s : ByteArray) (i b : Nat) (w : World) (e : Ending) (w' : World) : Prop :=
  Wrote rb (rb + 1) w w' ∧ ((atB s i = b ∧ e = .returned (.bool true) ∧ MrB rb s (i + 1) false w') ∨ (atB s i ≠ b ∧ e = .returned (.bool false) ∧ MrB rb s i false w'))

set_option maxRecDepth 100000 in
set_option maxHeartbeats 1000000 in
theorem next_any (rb i b : Nat) (s : ByteArray) (w : World) (h : MrB rb s i false w) (hi : i ≤ s.size) (hs : s.size ≤ 2000000) (h0 : 0 < b) (hb : b < 256) :
    Calls Tryd.prog 50 #[.pointer (some ⟨rb, 0, none⟩), .int .u8 b] w (NextD rb s i b w) := by
  have HM := Lib.hid h
  obtain ⟨x0, x1, x2⟩ := h.c
  clear h
  by_cases hl : i < s.size
  · have c0 : decide ((i : Int) < (s.size : Int)) = true := by rw [decide_eq_true_eq]; omega
    have c1 : (i : Int) < (s.size : Int) := by omega
    by_cases hh : (s[i]'hl).toNat = b
    · have HH := Lib.hid (show atB s i = b by unfold atB; rw [dif_pos hl]; exact hh)
      have b0 : (((s[i]'hl).toNat : Int) == (b : Int)) = true := by rw [beq_iff_eq]; omega
      clear hh
      go_enter Tryd.func50, Tryd.ntmps50
      go_wp2
      go_quiet (fail)
      have f1 := Blk.frozen HM.out 1
      go_wp2
      go_ret
      exact ⟨((Wrote.refl rb (rb + 1) w).drewN _).trans (Wrote.set_ (Nat.le_refl _) (Nat.lt_succ_self _) _), .inl ⟨HH.out, rfl, (HM.out.drewN _).go (i + 1)⟩⟩
    · have HH := Lib.hid (show atB s i ≠ b by unfold atB; rw [dif_pos hl]; exact hh)
      have b0 : (((s[i]'hl).toNat : Int) == (b : Int)) = false := by rw [beq_eq_false_iff_ne]; omega
      clear hh
      go_enter Tryd.func50, Tryd.ntmps50
      go_wp2
      go_quiet (fail)
      go_wp2
      go_ret
      exact ⟨(Wrote.refl rb (rb + 1) w).drewN _, .inr ⟨HH.out, rfl, HM.out.drewN _⟩⟩
  · have HH := Lib.hid (show atB s i ≠ b by unfold atB; rw [dif_neg hl]; omega)
    have c0 : decide (i < s.size) = false := by rw [decide_eq_false_iff_not]; omega
    have c1 : ¬ (i : Int) < (s.size : Int) := by omega
    clear hl
    go_enter Tryd.func50, Tryd.ntmps50
    go_wp2
    go_quiet (fail)
    go_wp2
    go_ret
    exact ⟨(Wrote.refl rb (rb + 1) w).drewN _, .inr ⟨HH.out, rfl, HM.out.drewN _⟩⟩

/-- A digit at a place. -/
def digP (s : ByteArray) (i : Nat) : Prop := 48 ≤ atB s i ∧ atB s i ≤ 57
theorem digP_lt {s : ByteArray} {i : Nat} (h : digP s i) : i < s.size := by
  rcases Nat.lt_or_ge i s.size with h1 | h1
  · exact h1
  · unfold digP atB at h
    rw [dif_neg (by omega)] at h
    omega
/-- k digits from a place on. -/
def DigAt (s : ByteArray) (i k : Nat) : Prop := ∀ j, j < k → digP s (i + j)
theorem take_next {s : ByteArray} {i k : Nat} (h : i + k < s.size) : (tl s i).take (k + 1) = (tl s i).take k ++ [s[i + k]'h] := by
  have e : (tl s i)[k]? = some (s[i + k]'h) := by
    show (s.data.toList.drop i)[k]? = _
    rw [List.getElem?_drop, List.getElem?_eq_getElem (by simpa using h)]
    rfl
  rw [List.take_add_one, e]
  rfl
theorem numL_bound : ∀ (k : Nat) (l : List UInt8), l.length ≤ k → (∀ c ∈ l, isD c) → numL l < 10 ^ k := by
  intro k
  induction k with
  | zero => intro l h _; have : l = [] := List.eq_nil_of_length_eq_zero (by omega); subst this; decide
  | succ k ih =>
    intro l h hd
    rcases List.eq_nil_or_concat l with rfl | ⟨init, c, rfl⟩
    · show 0 < _; exact Nat.pow_pos (by decide)
    · rw [List.concat_eq_append] at h hd ⊢
      rw [numL_snoc]
      have h1 := ih init (by simp at h; omega) fun c hc => hd c (by simp [hc])
      have h2 := hd c (by simp)
      unfold isD at h2
      rw [Nat.pow_succ]
      omega
/-- The digits' number so far. -/
def numAt (s : ByteArray) (i p : Nat) : Nat := numL ((tl s i).take (p - i))
theorem digit_dig {s : ByteArray} {p : Nat} (hp : p < s.size) (h : digP s p) : isD (s[p]'hp) := by unfold digP atB at h; rw [dif_pos hp] at h; exact h
theorem numAt_bound {s : ByteArray} {i p : Nat} (h : DigAt s i (p - i)) (hp : i ≤ p) (h8 : p ≤ i + 8) (hs : p ≤ s.size) : numAt s i p < 10 ^ (p - i) := by
  refine numL_bound _ _ (List.length_take_le _ _) fun c hc => ?_
  obtain ⟨j, hj, rfl⟩ := List.mem_iff_getElem.1 hc
  have hj' : j < p - i := by rw [List.length_take] at hj; omega
  have := digit_dig (s := s) (p := i + j) (by omega) (h j hj')
  rw [List.getElem_take]
  have e : (tl s i)[j]'(by rw [List.length_take] at hj; omega) = s[i + j]'(by omega) := by
    show (s.data.toList.drop i)[j]'_ = _
    rw [List.getElem_drop]
    rfl
  rw [e]
  exact this
theorem numAt_next {s : ByteArray} {i p : Nat} (hp : i ≤ p) (h : p < s.size) : numAt s i (p + 1) = numAt s i p * 10 + ((s[p]'h).toNat - 48) := by
  unfold numAt
  rw [show p + 1 - i = (p - i) + 1 by omega, take_next (by omega), numL_snoc]
  have e : s[i + (p - i)]'(by omega) = s[p]'h := by
    congr 1
    omega
  rw [e]
def NumM (rb : Nat) (s : ByteArray) (i : Nat) (w : World) (e : Ending) (w' : World) : Prop :=
  Wrote rb (rb + 1) w w' ∧ ∃ p : Nat, i ≤ p ∧ p ≤ i + 8 ∧ p ≤ s.size ∧ DigAt s i (p - i) ∧ (p = i + 8 ∨ ¬ digP s p) ∧ e = .returned (.int .i64 (numAt s i p : Nat)) ∧
    MrB rb s p (decide (p = i) || (decide (1 < p - i) && decide (atB s i = 48))) w'

set_option maxRecDepth 100000 in
set_option maxHeartbeats 2000000 in
theorem numberM_any (rb i : Nat) (s : ByteArray) (w : World) (h : MrB rb s i false w) (hi : i ≤ s.size) (hs : s.size ≤ 2000000) :
    Calls Tryd.prog 51 #[.pointer (some ⟨rb, 0, none⟩)] w (NumM rb s i w) := by
  have HM := Lib.hid h
  obtain ⟨x0, x1, x2⟩ := h.c
  clear h
  go_enter Tryd.func51, Tryd.ntmps51
  go_wp2
  clear x0 x1 x2
  go_loopw [3] (fun n wr => ∃ p : Nat, i ≤ p ∧ p ≤ i + 8 ∧ p ≤ s.size ∧ Hid (DigAt s i (p - i)) ∧ n = .int .i64 (numAt s i p : Nat) ∧ Hid (MrB rb s p false wr) ∧ Hid (Wrote rb (rb + 1) w wr)) (fun _ wr => s.size - posM rb wr)
  case atStart => exact ⟨i, by omega, by omega, hi, fun _ h => by omega, by simp [numAt, numL], HM, Wrote.refl _ _ _⟩
  case round =>
    obtain ⟨p, hp0, hp8, hps, HD, rfl, HMr, HWr⟩ := hrel
    have hnb : numAt s i p < 100000000 := by
      have h1 := numAt_bound HD.out hp0 hp8 hps
      have h2 : 10 ^ (p - i) ≤ 10 ^ 8 := Nat.pow_le_pow_right (by decide) (by omega)
      omega
    have Hpos := Lib.hid HMr.out.pos
    have hrw := HMr.out.lt
    obtain ⟨x0, x1, x2⟩ := HMr.out.c
    have e0 : IntKind.i64.wrap ((p : Int) - (i : Int)) = (p : Int) - (i : Int) := by rw [IntKind.wrap_i64]; omega
    generalize hn : numAt s i p = n at *
    have HN := Lib.hid hn
    clear hn
    by_cases hgo : digP s p ∧ p < i + 8
    · obtain ⟨hd, h8⟩ := hgo
      have hlt := digP_lt hd
      have hb : 48 ≤ (s[p]'hlt).toNat ∧ (s[p]'hlt).toNat ≤ 57 := digit_dig hlt hd
      have c0 : (p : Int) < (s.size : Int) := by omega
      have c0b : decide (p < s.size) = true := by simpa using hlt
      have c1 : (48 : Int) ≤ ((s[p]'hlt).toNat : Int) := by omega
      have c2 : ((s[p]'hlt).toNat : Int) ≤ 57 := by omega
      have c3 : (p : Int) - (i : Int) < 8 := by omega
      have e1 : IntKind.u8.wrap (((s[p]'hlt).toNat : Int) - 48) = ((s[p]'hlt).toNat : Int) - 48 := by rw [IntKind.wrap_u8]; omega
      have HD1 := Lib.hid (show DigAt s i (p + 1 - i) from fun j hj => by
        by_cases he : i + j = p
        · rw [he]; exact hd
        · exact HD.out j (by omega))
      have HN1 := Lib.hid (numAt_next hp0 hlt)
      have f1 := Blk.frozen HMr.out 1
      clear hd
      go_wp2
      go_quiet (fail)
      go_wp2
      go_quiet (fail)
      go_wp2
      go_roundw
      case rel => exact ⟨p + 1, by omega, by omega, hlt, HD1, by rw [HN1.out, HN.out]; congr 1; omega, (HMr.out.drewN _).go (p + 1), (HWr.out.drewN _).trans (Wrote.set_ (Nat.le_refl _) (Nat.lt_succ_self _) _)⟩
      case measure =>
        have hm : ∀ k, posM rb ((wr.drewN k).setCell ⟨rb, 1, none⟩ (.int .i64 ((p : Int) + 1))) = p + 1 := fun k => MrB.pos ((HMr.out.drewN k).go (p + 1))
        rw [hm, Hpos.out]
        omega
    · have hend : p = i + 8 ∨ ¬ digP s p := by
        by_cases hd : digP s p
        · left
          have : ¬ p < i + 8 := fun h => hgo ⟨hd, h⟩
          omega
        · exact .inr hd
      have HEnd := Lib.hid hend
      have f2 := Blk.frozen HMr.out 2
      have HX : ∀ (b : Bool) (nq : Nat), b = (decide (p = i) || (decide (1 < p - i) && decide (atB s i = 48))) → NumM rb s i w (.returned (.int .i64 (n : Int))) ((wr.drewN nq).setCell ⟨rb, 2, none⟩ (.bool b)) := fun b nq hb => by
        subst hb
        exact ⟨(HWr.out.drewN _).trans (Wrote.set_ (Nat.le_refl _) (Nat.lt_succ_self _) _), p, hp0, hp8, hps, HD.out, HEnd.out, by rw [HN.out], (HMr.out.drewN _).turn _⟩
      have HXX := Lib.hid HX
      clear HX
      -- how the loop ends
      have hcase : (¬ p < s.size) ∨ (∃ hlt : p < s.size, (s[p]'hlt).toNat < 48) ∨ (∃ hlt : p < s.size, 48 ≤ (s[p]'hlt).toNat ∧ 57 < (s[p]'hlt).toNat) ∨ (∃ hlt : p < s.size, 48 ≤ (s[p]'hlt).toNat ∧ (s[p]'hlt).toNat ≤ 57 ∧ p = i + 8) := by
        by_cases hlt : p < s.size
        · rcases Nat.lt_or_ge (s[p]'hlt).toNat 48 with h1 | h1
          · exact .inr (.inl ⟨hlt, h1⟩)
          · rcases Nat.lt_or_ge 57 (s[p]'hlt).toNat with h2 | h2
            · exact .inr (.inr (.inl ⟨hlt, h1, h2⟩))
            · refine .inr (.inr (.inr ⟨hlt, h1, h2, ?_⟩))
              rcases HEnd.out with h3 | h3
              · exact h3
              · exfalso
                apply h3
                unfold digP atB
                rw [dif_pos hlt]
                exact ⟨h1, h2⟩
        · exact .inl hlt
      clear hgo hend
      -- what is bad
      have hbad : (p = i) ∨ (p = i + 1) ∨ (∃ h : i < s.size, i + 1 < p ∧ (s[i]'h).toNat = 48) ∨ (∃ h : i < s.size, i + 1 < p ∧ (s[i]'h).toNat ≠ 48) := by
        by_cases h1 : p = i
        · exact .inl h1
        · by_cases h2 : p = i + 1
          · exact .inr (.inl h2)
          · by_cases h3 : (s[i]'(by omega)).toNat = 48
            · exact .inr (.inr (.inl ⟨by omega, by omega, h3⟩))
            · exact .inr (.inr (.inr ⟨by omega, by omega, h3⟩))
      rcases hbad with h1 | h1 | ⟨h0, h1, h2⟩ | ⟨h0, h1, h2⟩
      · have HB := Lib.hid (show true = (decide (p = i) || (decide (1 < p - i) && decide (atB s i = 48))) by rw [decide_eq_true h1]; rfl)
        have g1 : ((p : Int) == (i : Int)) = true := by rw [beq_iff_eq]; omega
        clear h1
        rcases hcase with k1 | ⟨hlt, k1⟩ | ⟨hlt, k1, k2⟩ | ⟨hlt, k1, k2, k3⟩
        · have c0 : decide (p < s.size) = false := by simpa using k1
          have c0b : ¬ (p : Int) < (s.size : Int) := by omega
          clear k1
          go_wp2
          go_quiet (fail)
          go_wp2
          go_ret
          exact HXX.out _ _ HB.out
        · have c0 : decide (p < s.size) = true := by simpa using hlt
          have c0b : (p : Int) < (s.size : Int) := by omega
          have c1 : decide ((48 : Int) ≤ ((s[p]'hlt).toNat : Int)) = false := by rw [decide_eq_false_iff_not]; omega
          have c1b : decide (48 ≤ (s[p]'hlt).toNat) = false := by rw [decide_eq_false_iff_not]; omega
          clear k1
          go_wp2
          go_quiet (fail)
          go_wp2
          go_ret
          exact HXX.out _ _ HB.out
        · have c0 : decide (p < s.size) = true := by simpa using hlt
          have c0b : (p : Int) < (s.size : Int) := by omega
          have c1 : (48 : Int) ≤ ((s[p]'hlt).toNat : Int) := by omega
          have c2 : decide (((s[p]'hlt).toNat : Int) ≤ 57) = false := by rw [decide_eq_false_iff_not]; omega
          have c2b : decide ((s[p]'hlt).toNat ≤ 57) = false := by rw [decide_eq_false_iff_not]; omega
          clear k1 k2
          go_wp2
          go_quiet (fail)
          go_wp2
          go_ret
          exact HXX.out _ _ HB.out
        · have c0 : decide (p < s.size) = true := by simpa using hlt
          have c0b : (p : Int) < (s.size : Int) := by omega
          have c1 : (48 : Int) ≤ ((s[p]'hlt).toNat : Int) := by omega
          have c2 : ((s[p]'hlt).toNat : Int) ≤ 57 := by omega
          have c3 : ¬ (p : Int) - (i : Int) < 8 := by omega
          clear k1 k2 k3
          go_wp2
          all_goals go_quiet (fail)
          all_goals go_wp2
          all_goals go_ret
          all_goals exact HXX.out _ _ HB.out
      · have HB := Lib.hid (show false = (decide (p = i) || (decide (1 < p - i) && decide (atB s i = 48))) by rw [decide_eq_false (show ¬ p = i by omega), decide_eq_false (show ¬ 1 < p - i by omega)]; rfl)
        have g1 : ((p : Int) == (i : Int)) = false := by rw [beq_eq_false_iff_ne]; omega
        have g2 : ¬ (1 : Int) < (p : Int) - (i : Int) := by omega
        clear h1
        rcases hcase with k1 | ⟨hlt, k1⟩ | ⟨hlt, k1, k2⟩ | ⟨hlt, k1, k2, k3⟩
        · have c0 : decide (p < s.size) = false := by simpa using k1
          have c0b : ¬ (p : Int) < (s.size : Int) := by omega
          clear k1
          go_wp2
          go_quiet (fail)
          go_wp2
          go_ret
          exact HXX.out _ _ HB.out
        · have c0 : decide (p < s.size) = true := by simpa using hlt
          have c0b : (p : Int) < (s.size : Int) := by omega
          have c1 : decide ((48 : Int) ≤ ((s[p]'hlt).toNat : Int)) = false := by rw [decide_eq_false_iff_not]; omega
          have c1b : decide (48 ≤ (s[p]'hlt).toNat) = false := by rw [decide_eq_false_iff_not]; omega
          clear k1
          go_wp2
          go_quiet (fail)
          go_wp2
          go_ret
          exact HXX.out _ _ HB.out
        · have c0 : decide (p < s.size) = true := by simpa using hlt
          have c0b : (p : Int) < (s.size : Int) := by omega
          have c1 : (48 : Int) ≤ ((s[p]'hlt).toNat : Int) := by omega
          have c2 : decide (((s[p]'hlt).toNat : Int) ≤ 57) = false := by rw [decide_eq_false_iff_not]; omega
          have c2b : decide ((s[p]'hlt).toNat ≤ 57) = false := by rw [decide_eq_false_iff_not]; omega
          clear k1 k2
          go_wp2
          go_quiet (fail)
          go_wp2
          go_ret
          exact HXX.out _ _ HB.out
        · have c0 : decide (p < s.size) = true := by simpa using hlt
          have c0b : (p : Int) < (s.size : Int) := by omega
          have c1 : (48 : Int) ≤ ((s[p]'hlt).toNat : Int) := by omega
          have c2 : ((s[p]'hlt).toNat : Int) ≤ 57 := by omega
          have c3 : ¬ (p : Int) - (i : Int) < 8 := by omega
          clear k1 k2 k3
          go_wp2
          all_goals go_quiet (fail)
          all_goals go_wp2
          all_goals go_ret
          all_goals exact HXX.out _ _ HB.out
      · have HB := Lib.hid (show true = (decide (p = i) || (decide (1 < p - i) && decide (atB s i = 48))) by rw [decide_eq_false (show ¬ p = i by omega), decide_eq_true (show 1 < p - i by omega), decide_eq_true (show atB s i = 48 by unfold atB; rw [dif_pos h0]; exact h2)]; rfl)
        have g1 : ((p : Int) == (i : Int)) = false := by rw [beq_eq_false_iff_ne]; omega
        have g2 : (1 : Int) < (p : Int) - (i : Int) := by omega
        have g3 : (((s[i]'h0).toNat : Int) == 48) = true := by rw [beq_iff_eq]; omega
        clear h1 h2
        rcases hcase with k1 | ⟨hlt, k1⟩ | ⟨hlt, k1, k2⟩ | ⟨hlt, k1, k2, k3⟩
        · have c0 : decide (p < s.size) = false := by simpa using k1
          have c0b : ¬ (p : Int) < (s.size : Int) := by omega
          clear k1
          go_wp2
          go_quiet (fail)
          go_wp2
          go_ret
          exact HXX.out _ _ HB.out
        · have c0 : decide (p < s.size) = true := by simpa using hlt
          have c0b : (p : Int) < (s.size : Int) := by omega
          have c1 : decide ((48 : Int) ≤ ((s[p]'hlt).toNat : Int)) = false := by rw [decide_eq_false_iff_not]; omega
          have c1b : decide (48 ≤ (s[p]'hlt).toNat) = false := by rw [decide_eq_false_iff_not]; omega
          clear k1
          go_wp2
          go_quiet (fail)
          go_wp2
          go_ret
          exact HXX.out _ _ HB.out
        · have c0 : decide (p < s.size) = true := by simpa using hlt
          have c0b : (p : Int) < (s.size : Int) := by omega
          have c1 : (48 : Int) ≤ ((s[p]'hlt).toNat : Int) := by omega
          have c2 : decide (((s[p]'hlt).toNat : Int) ≤ 57) = false := by rw [decide_eq_false_iff_not]; omega
          have c2b : decide ((s[p]'hlt).toNat ≤ 57) = false := by rw [decide_eq_false_iff_not]; omega
          clear k1 k2
          go_wp2
          go_quiet (fail)
          go_wp2
          go_ret
          exact HXX.out _ _ HB.out
        · have c0 : decide (p < s.size) = true := by simpa using hlt
          have c0b : (p : Int) < (s.size : Int) := by omega
          have c1 : (48 : Int) ≤ ((s[p]'hlt).toNat : Int) := by omega
          have c2 : ((s[p]'hlt).toNat : Int) ≤ 57 := by omega
          have c3 : ¬ (p : Int) - (i : Int) < 8 := by omega
          clear k1 k2 k3
          go_wp2
          all_goals go_quiet (fail)
          all_goals go_wp2
          all_goals go_ret
          all_goals exact HXX.out _ _ HB.out
      · have HB := Lib.hid (show false = (decide (p = i) || (decide (1 < p - i) && decide (atB s i = 48))) by rw [decide_eq_false (show ¬ p = i by omega), decide_eq_true (show 1 < p - i by omega), decide_eq_false (show ¬ atB s i = 48 by unfold atB; rw [dif_pos h0]; exact h2)]; rfl)
        have g1 : ((p : Int) == (i : Int)) = false := by rw [beq_eq_false_iff_ne]; omega
        have g2 : (1 : Int) < (p : Int) - (i : Int) := by omega
        have g3 : (((s[i]'h0).toNat : Int) == 48) = false := by rw [beq_eq_false_iff_ne]; omega
        clear h1 h2
        rcases hcase with k1 | ⟨hlt, k1⟩ | ⟨hlt, k1, k2⟩ | ⟨hlt, k1, k2, k3⟩
        · have c0 : decide (p < s.size) = false := by simpa using k1
          have c0b : ¬ (p : Int) < (s.size : Int) := by omega
          clear k1
          go_wp2
          go_quiet (fail)
          go_wp2
          go_ret
          exact HXX.out _ _ HB.out
        · have c0 : decide (p < s.size) = true := by simpa using hlt
          have c0b : (p : Int) < (s.size : Int) := by omega
          have c1 : decide ((48 : Int) ≤ ((s[p]'hlt).toNat : Int)) = false := by rw [decide_eq_false_iff_not]; omega
          have c1b : decide (48 ≤ (s[p]'hlt).toNat) = false := by rw [decide_eq_false_iff_not]; omega
          clear k1
          go_wp2
          go_quiet (fail)
          go_wp2
          go_ret
          exact HXX.out _ _ HB.out
        · have c0 : decide (p < s.size) = true := by simpa using hlt
          have c0b : (p : Int) < (s.size : Int) := by omega
          have c1 : (48 : Int) ≤ ((s[p]'hlt).toNat : Int) := by omega
          have c2 : decide (((s[p]'hlt).toNat : Int) ≤ 57) = false := by rw [decide_eq_false_iff_not]; omega
          have c2b : decide ((s[p]'hlt).toNat ≤ 57) = false := by rw [decide_eq_false_iff_not]; omega
          clear k1 k2
          go_wp2
          go_quiet (fail)
          go_wp2
          go_ret
          exact HXX.out _ _ HB.out
        · have c0 : decide (p < s.size) = true := by simpa using hlt
          have c0b : (p : Int) < (s.size : Int) := by omega
          have c1 : (48 : Int) ≤ ((s[p]'hlt).toNat : Int) := by omega
          have c2 : ((s[p]'hlt).toNat : Int) ≤ 57 := by omega
          have c3 : ¬ (p : Int) - (i : Int) < 8 := by omega
          clear k1 k2 k3
          go_wp2
          all_goals go_quiet (fail)
          all_goals go_wp2
          all_goals go_ret
          all_goals exact HXX.out _ _ HB.out
end Go.Proofs.YtelhjdccfomafaaDoor
