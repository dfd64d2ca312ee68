/- The program's reader of values: bytes, truths, numbers. The program's reader of values: truths, numbers. -/
import Derived.Test.YtelhjdccfomafaaDoorRm
import Derived.Test.YtelhjdccfomafaaDoorMk
import Derived.Test.YtelhjdccfomafaaDoorVim
namespace Go.Proofs.YtelhjdccfomafaaDoor
open Go.RowKit

/-- The byte at a place; behind the end 0. -/
def atB (s : ByteArray) (i : Nat) : Nat := if h : i < s.size then (s[i]'h).toNat else 0
abbrev tl (s : ByteArray) (i : Nat) : List UInt8 := s.data.toList.drop i
theorem tl_cons {s : ByteArray} {i : Nat} (h : i < s.size) : tl s i = (s[i]'h) :: tl s (i + 1) := by
  show s.data.toList.drop i = _
  rw [drop_cons (by simpa using h)]
  rfl
theorem tl_end {s : ByteArray} {i : Nat} (h : s.size ≤ i) : tl s i = [] := List.drop_eq_nil_of_le (by simpa using h)
theorem atB_hit {s : ByteArray} {i b : Nat} (hb : 0 < b) (h : atB s i = b) : ∃ hi : i < s.size, (s[i]'hi).toNat = b ∧ tl s i = UInt8.ofNat b :: tl s (i + 1) := by
  unfold atB at h
  by_cases hi : i < s.size
  · rw [dif_pos hi] at h
    refine ⟨hi, h, ?_⟩
    rw [tl_cons hi]
    congr 1
    apply UInt8.toNat_inj.1
    have := (s[i]'hi).toNat_lt
    rw [UInt8.toNat_ofNat']
    omega
  · rw [dif_neg hi] at h; omega
theorem atB_miss {s : ByteArray} {i b : Nat} (hb : b < 256) (h : atB s i ≠ b) (r : List UInt8) : tl s i ≠ UInt8.ofNat b :: r := by
  intro e
  by_cases hi : i < s.size
  · rw [tl_cons hi] at e
    simp only [List.cons.injEq] at e
    apply h
    unfold atB
    rw [dif_pos hi, e.1, UInt8.toNat_ofNat']
    omega
  · rw [tl_end (by omega)] at e; cases e

/-- The reader, at a place. -/
def RdB (rb tb : Nat) (s : ByteArray) (i : Nat) (w : World) : Prop := Blk w rb 53 #[.map (some tb), .string s, .int .i64 i]
theorem RdB.c {rb tb i : Nat} {s : ByteArray} {w : World} (h : RdB rb tb s i w) : w.cell? ⟨rb, 0, none⟩ = some (.map (some tb)) ∧ w.cell? ⟨rb, 1, none⟩ = some (.string s) ∧ w.cell? ⟨rb, 2, none⟩ = some (.int .i64 i) := ⟨Blk.cell h 0, Blk.cell h 1, Blk.cell h 2⟩

/-- Memory is as it was. -/
def Quiet (w w' : World) : Prop := w'.os = w.os ∧ w'.tape = w.tape ∧ w'.output = w.output ∧ w'.heap = w.heap
theorem Quiet.wrote {w w' : World} (h : Quiet w w') (lo hi : Nat) : Wrote lo hi w w' := ⟨h.1, h.2.1, h.2.2.1, by rw [h.2.2.2]; exact Nat.le_refl _, fun _ _ _ => by rw [h.2.2.2]⟩
theorem Quiet.rd {w w' : World} (h : Quiet w w') {rb tb i : Nat} {s : ByteArray} (hr : RdB rb tb s i w) : RdB rb tb s i w' := by
  unfold RdB Blk
  rw [h.2.2.2]
  exact hr

set_option maxRecDepth 100000 in
theorem peek_any (rb tb i : Nat) (s : ByteArray) (w : World) (h : RdB rb tb s i w) (hi : i ≤ s.size) (hs : s.size ≤ 2000000) :
    Calls Tryd.prog 49 #[.pointer (some ⟨rb, 0, none⟩)] w fun e w' => e = .returned (.int .u8 (atB s i)) ∧ Quiet w w' := by
  obtain ⟨x0, x1, x2⟩ := h.c
  by_cases hl : i < s.size
  · have HA : Hid (atB s i = (s[i]'hl).toNat) := by show _ = _; unfold atB; rw [dif_pos hl]
    have b0 : ((i : Int) == (s.size : Int)) = false := by rw [beq_eq_false_iff_ne]; omega
    go_enter Tryd.func49, Tryd.ntmps49
    go_wp2
    go_quiet (fail)
    go_wp2
    go_quiet (fail)
    go_wp2
    go_ret
    exact ⟨ret_int (by rw [HA.out]), rfl, rfl, rfl, rfl⟩
  · have HA : Hid (atB s i = 0) := by show _ = _; unfold atB; rw [dif_neg hl]
    have b0 : ((i : Int) == (s.size : Int)) = true := by rw [beq_iff_eq]; omega
    go_enter Tryd.func49, Tryd.ntmps49
    go_wp2
    go_quiet (fail)
    go_wp2
    go_ret
    exact ⟨ret_int (by rw [HA.out]; rfl), rfl, rfl, rfl, rfl⟩

/-- A byte skipped, or not. -/
def SkipD (rb tb : Nat) (s : ByteArray) (i b : Nat) (w : World) (e : Ending) (w' : World) : Prop :=
  Wrote rb (rb + 1) w w' ∧ ((atB s i = b ∧ e = .returned (.bool true) ∧ RdB rb tb s (i + 1) w') ∨ (atB s i ≠ b ∧ e = .returned (.bool false) ∧ RdB rb tb s i w'))

set_option maxRecDepth 100000 in
theorem skip_any (rb tb i b : Nat) (s : ByteArray) (w : World) (h : RdB rb tb s i w) (hi : i ≤ s.size) (hs : s.size ≤ 2000000) (hb : b < 256) :
    Calls Tryd.prog 47 #[.pointer (some ⟨rb, 0, none⟩), .int .u8 b] w (SkipD rb tb s i b w) := by
  have HP := Lib.hid (peek_any rb tb i s w h hi hs)
  have HR := Lib.hid h
  by_cases hh : atB s i = b
  · have HH := Lib.hid hh
    have b0 : (((atB s i : Nat) : Int) != (b : Int)) = false := bne_eq_false_iff_eq.2 (by omega)
    go_enter Tryd.func47, Tryd.ntmps47
    go_wp2_with fail
    refine HP.out.mono ?_
    rintro e w1 ⟨rfl, hq⟩
    have HR1 := Lib.hid (hq.rd HR.out)
    obtain ⟨x0, x1, x2⟩ := HR1.out.c
    have f2 := Blk.frozen HR1.out 2
    have HQ := Lib.hid (show SkipD rb tb s i b w (.returned (.bool true)) (w1.setCell ⟨rb, 2, none⟩ (.int .i64 ((i : Int) + 1))) from
      ⟨(hq.wrote _ _).trans (Wrote.set_ (Nat.le_refl _) (Nat.lt_succ_self _) _), .inl ⟨HH.out, rfl, Blk.set_ HR1.out 2 _⟩⟩)
    clear hh hq
    go_wp2
    go_ret
    exact HQ.out
  · have HH := Lib.hid hh
    have b0 : (((atB s i : Nat) : Int) != (b : Int)) = true := by rw [bne_iff_ne]; omega
    go_enter Tryd.func47, Tryd.ntmps47
    go_wp2_with fail
    refine HP.out.mono ?_
    rintro e w1 ⟨rfl, hq⟩
    have HQ := Lib.hid (show SkipD rb tb s i b w (.returned (.bool false)) w1 from ⟨hq.wrote _ _, .inr ⟨HH.out, rfl, hq.rd HR.out⟩⟩)
    clear hq
    clear hh
    go_wp2
    go_ret
    exact HQ.out

/-- A text begins with that of a value of a type, of a depth. -/
def Cand (ks : Ks) (d : Nat) (t : ByteArray) (l : List UInt8) : Prop := ∃ (v : Val) (r : List UInt8), okV ks (d + 1) v = true ∧ v.ty = t ∧ l = lOf (textV (d + 1)) v ++ r ∧ EndsFor v r
/-- An answer of the reader: a value of a type, and where it is then; or none. -/
def ReadD (ks : Ks) (d rb tb : Nat) (s : ByteArray) (i : Nat) (t : ByteArray) (w : World) (e : Ending) (w' : World) : Prop :=
  Wrote rb (rb + 1) w w' ∧ ∃ i', i' ≤ s.size ∧ RdB rb tb s i' w' ∧
    ((∃ (v : Val) (A : Option Addr) (cA : Nat), e = .returned (.tuple #[.agg #[.string v.ty, .int .i64 v.n, .slice A v.parts.length cA, .slice none 0 0], .bool true]) ∧ v.path = [] ∧ okV ks (d + 1) v = true ∧ v.ty = t ∧ tl s i = lOf (textV (d + 1)) v ++ tl s i' ∧ EndsFor v (tl s i') ∧ OV (OCod.val 27 3 d) 27 3 w.heap.size w'.heap.size w' (.slice A v.parts.length cA) (.slice none 0 0) v) ∨
     (e = .returned (.tuple #[.agg #[.string ⟨#[]⟩, .int .i64 0, .slice none 0 0, .slice none 0 0], .bool false]) ∧ ¬ Cand ks d t (tl s i)))
end Go.Proofs.YtelhjdccfomafaaDoor

namespace Go.Proofs.YtelhjdccfomafaaDoor
open Go.RowKit

def bT : ByteArray := ⟨#[98]⟩
theorem RdB.lt {rb tb i : Nat} {s : ByteArray} {w : World} (h : RdB rb tb s i w) : rb < w.heap.size := Blk.lt h
theorem RdB.alloc {rb tb i : Nat} {s : ByteArray} {w : World} (h : RdB rb tb s i w) (o : Obj) : RdB rb tb s i (w.alloc o) := Blk.alloc h o

/-- A truth's value. -/
def truV (n : Int) : Val := .mk bT n [] []
theorem bT_list : bT.toList = [98] := by rw [toList_data]; rfl
theorem truV_ok (ks : Ks) (d : Nat) {n : Int} (h : n = 0 ∨ n = 1) : okV ks (d + 1) (truV n) = true := by
  show okOf ks (okV ks d) (truV n) = true
  unfold okOf
  have e : (truV n).ty.toList = [98] := bT_list
  rw [e]
  rcases h with rfl | rfl <;> rfl
theorem truV_text (d : Nat) (n : Int) : lOf (textV (d + 1)) (truV n) = if n = 0 then [45] else [43] := by
  show lOf (textOf (textV d)) (truV n) = _
  rw [textOf_L]
  have e : (truV n).ty.toList = [98] := bT_list
  rw [e]
  rfl
theorem truV_ov (n : Int) (hn : n = 0 ∨ n = 1) (d lo hi : Nat) (h : lo ≤ hi) (w : World) (a p : Value) (ha : a = .slice none 0 0) (hp : p = .slice none 0 0) : OV (OCod.val 27 3 d) 27 3 lo hi w a p (truV n) := by
  subst ha hp
  refine ⟨by show bT.size ≤ maxLen; decide, by show I64 n; unfold I64; omega, lo, Nat.le_refl _, h, ⟨none, 0, rfl, Nat.le_refl _, Nat.zero_le _, fun h => absurd h (by simp [truV, Val.parts])⟩, ⟨none, 0, rfl, Nat.le_refl _, Nat.zero_le _, fun h => absurd h (by simp [truV, Val.path])⟩⟩

abbrev set4 (w : World) (b : Nat) (a0 a1 a2 a3 : Value) : World := (((w.setCell ⟨b, 0, none⟩ a0).setCell ⟨b, 1, none⟩ a1).setCell ⟨b, 2, none⟩ a2).setCell ⟨b, 3, none⟩ a3
/-- A value stored into the variable of the answer. -/
theorem four_done {rb tb i b : Nat} {s : ByteArray} {t : TypeId} {w w1 : World} {x0 x1 x2 x3 : Value} (hB : Blk w1 b t #[x0, x1, x2, x3]) (hR : RdB rb tb s i w1) (hne : rb ≠ b) (hW : Wrote rb (rb + 1) w w1) (hb : w.heap.size ≤ b) (a0 a1 a2 a3 : Value) :
    Blk (set4 w1 b a0 a1 a2 a3) b t #[a0, a1, a2, a3] ∧ RdB rb tb s i (set4 w1 b a0 a1 a2 a3) ∧ Wrote rb (rb + 1) w (set4 w1 b a0 a1 a2 a3) ∧ (set4 w1 b a0 a1 a2 a3).heap.size = w1.heap.size ∧ ∀ b', b' ≠ b → (set4 w1 b a0 a1 a2 a3).heap[b']? = w1.heap[b']? := by
  have hk : ∀ b', b' ≠ b → (set4 w1 b a0 a1 a2 a3).heap[b']? = w1.heap[b']? := fun b' h => by
    rw [Below.heap_setCell _ _ _ _ (by simpa using h), Below.heap_setCell _ _ _ _ (by simpa using h), Below.heap_setCell _ _ _ _ (by simpa using h), Below.heap_setCell _ _ _ _ (by simpa using h)]
  have hs : (set4 w1 b a0 a1 a2 a3).heap.size = w1.heap.size := by simp [World.setCell]
  refine ⟨(((hB.set_ 0 a0).set_ 1 a1).set_ 2 a2).set_ 3 a3, (hk rb hne).trans hR, ⟨hW.os, hW.tape, hW.output, by rw [hs]; exact hW.size, fun b' h1 h2 => (hk b' (by omega)).trans (hW.block b' h1 h2)⟩, hs, hk⟩
set_option maxRecDepth 100000 in
set_option maxHeartbeats 1000000 in
theorem truth_any (ks : Ks) (d rb tb i : Nat) (s : ByteArray) (w : World) (h : RdB rb tb s i w) (hi : i ≤ s.size) (hs : s.size ≤ 2000000) :
    Calls Tryd.prog 46 #[.pointer (some ⟨rb, 0, none⟩)] w (ReadD ks d rb tb s i bT w) := by
  have hr := h.lt
  have HB := Lib.hid (Blk.new w 27 #[.string ByteArray.empty, .int .i64 0, .slice none 0 0, .slice none 0 0])
  have HP := Lib.hid (skip_any rb tb i 45 s _ (h.alloc (.cells #[.string ByteArray.empty, .int .i64 0, .slice none 0 0, .slice none 0 0] 27)) hi hs (by decide))
  have HW0 := Lib.hid (show Wrote rb (rb + 1) w (w.alloc (.cells #[.string ByteArray.empty, .int .i64 0, .slice none 0 0, .slice none 0 0] 27)) from Wrote.of_below ((Below.refl _ _).alloc (Nat.le_refl _) _))
  go_enter Tryd.func46, Tryd.ntmps46
  go_wp2_with fail
  refine HP.out.mono ?_
  rintro e w1 ⟨hW, hh⟩
  have hB1 : Blk w1 w.heap.size 27 #[.string ByteArray.empty, .int .i64 0, .slice none 0 0, .slice none 0 0] := (hW.block _ (by simp) (by omega)).trans HB.out
  have HB1 := Lib.hid hB1
  have HW1 := Lib.hid (HW0.out.trans hW)
  obtain ⟨y0, y1, y2, y3⟩ := hB1.c2
  obtain ⟨f0, f1, f2, f3⟩ := hB1.f4
  clear hW hB1
  rcases hh with ⟨hc, rfl, hR⟩ | ⟨hc, rfl, hR⟩
  · obtain ⟨hl, hb0, ht⟩ := atB_hit (by decide) hc
    obtain ⟨g1, g2, g3, g4, g5⟩ := four_done (w := w) HB1.out hR (by omega) HW1.out (Nat.le_refl _) (.string ⟨#[98]⟩) (.int .i64 0) (.slice none 0 0) (.slice none 0 0)
    obtain ⟨z0, z1, z2, z3⟩ := g1.c2
    have HQ := Lib.hid (show ReadD ks d rb tb s i bT w (.returned (.tuple #[.agg #[.string ⟨#[98]⟩, .int .i64 0, .slice none 0 0, .slice none 0 0], .bool true])) (set4 w1 w.heap.size (.string ⟨#[98]⟩) (.int .i64 0) (.slice none 0 0) (.slice none 0 0)) from
      ⟨g3, i + 1, hl, g2, .inl ⟨truV 0, none, 0, rfl, rfl, truV_ok ks d (.inl rfl), rfl, by rw [truV_text]; exact ht, fun h => by rcases h with h | h <;> (have e : (truV 0).ty.toList = [98] := bT_list; rw [e] at h; cases h), truV_ov 0 (.inl rfl) d _ _ g3.size _ _ _ rfl rfl⟩⟩)
    obtain ⟨wF, hF⟩ : ∃ wF, wF = set4 w1 w.heap.size (.string ⟨#[98]⟩) (.int .i64 0) (.slice none 0 0) (.slice none 0 0) := ⟨_, rfl⟩
    rw [← hF] at z0 z1 z2 z3 HQ
    unfold set4 at hF
    clear hc hR ht g1 g2 g3 g4 g5 hb0 hl
    go_wp2_with fail
    rw [← hF]
    exact bodyPost_ret (v := .tuple #[.agg #[.string ⟨#[98]⟩, .int .i64 0, .slice none 0 0, .slice none 0 0], .bool true]) (by simp [results, Tryd.results46, go_sem, z0, z1, z2, z3]) rfl HQ.out
  · have HC := Lib.hid hc
    have HP2 := Lib.hid (skip_any rb tb i 43 s w1 hR hi hs (by decide))
    clear hc hR
    go_wp2_with fail
    refine HP2.out.mono ?_
    rintro e w2 ⟨hW, hh⟩
    have hs1 : w.heap.size < w1.heap.size := HB1.out.lt
    have hB2 : Blk w2 w.heap.size 27 #[.string ByteArray.empty, .int .i64 0, .slice none 0 0, .slice none 0 0] := (hW.block _ hs1 (by omega)).trans HB1.out
    have HB2 := Lib.hid hB2
    have HW2 := Lib.hid (HW1.out.trans hW)
    clear y0 y1 y2 y3 f0 f1 f2 f3
    obtain ⟨y0, y1, y2, y3⟩ := hB2.c2
    obtain ⟨f0, f1, f2, f3⟩ := hB2.f4
    clear hW hB2 HP HP2
    rcases hh with ⟨hc, rfl, hR⟩ | ⟨hc, rfl, hR⟩
    · obtain ⟨hl, hb0, ht⟩ := atB_hit (by decide) hc
      obtain ⟨g1, g2, g3, g4, g5⟩ := four_done (w := w) HB2.out hR (by omega) HW2.out (Nat.le_refl _) (.string ⟨#[98]⟩) (.int .i64 1) (.slice none 0 0) (.slice none 0 0)
      obtain ⟨z0, z1, z2, z3⟩ := g1.c2
      have HQ := Lib.hid (show ReadD ks d rb tb s i bT w (.returned (.tuple #[.agg #[.string ⟨#[98]⟩, .int .i64 1, .slice none 0 0, .slice none 0 0], .bool true])) (set4 w2 w.heap.size (.string ⟨#[98]⟩) (.int .i64 1) (.slice none 0 0) (.slice none 0 0)) from
        ⟨g3, i + 1, hl, g2, .inl ⟨truV 1, none, 0, rfl, rfl, truV_ok ks d (.inr rfl), rfl, by rw [truV_text]; exact ht, fun h => by rcases h with h | h <;> (have e : (truV 1).ty.toList = [98] := bT_list; rw [e] at h; cases h), truV_ov 1 (.inr rfl) d _ _ g3.size _ _ _ rfl rfl⟩⟩)
      obtain ⟨wF, hF⟩ : ∃ wF, wF = set4 w2 w.heap.size (.string ⟨#[98]⟩) (.int .i64 1) (.slice none 0 0) (.slice none 0 0) := ⟨_, rfl⟩
      rw [← hF] at z0 z1 z2 z3 HQ
      unfold set4 at hF
      clear hc hR ht g1 g2 g3 g4 g5 hb0 hl
      go_wp2_with fail
      rw [← hF]
      exact bodyPost_ret (v := .tuple #[.agg #[.string ⟨#[98]⟩, .int .i64 1, .slice none 0 0, .slice none 0 0], .bool true]) (by simp [results, Tryd.results46, go_sem, z0, z1, z2, z3]) rfl HQ.out
    · obtain ⟨g1, g2, g3, g4, g5⟩ := four_done (w := w) HB2.out hR (by omega) HW2.out (Nat.le_refl _) (.string ⟨#[]⟩) (.int .i64 0) (.slice none 0 0) (.slice none 0 0)
      obtain ⟨z0, z1, z2, z3⟩ := g1.c2
      have HQ := Lib.hid (show ReadD ks d rb tb s i bT w (.returned (.tuple #[.agg #[.string ⟨#[]⟩, .int .i64 0, .slice none 0 0, .slice none 0 0], .bool false])) (set4 w2 w.heap.size (.string ⟨#[]⟩) (.int .i64 0) (.slice none 0 0) (.slice none 0 0)) from
        ⟨g3, i, hi, g2, .inr ⟨rfl, fun ⟨v, r, h1, h2, h3, h4⟩ => by
          have hv : okOf ks (okV ks d) v = true := h1
          have e : v.ty.toList = [98] := by rw [h2]; exact bT_list
          rw [show textV (d + 1) = textOf (textV d) from rfl, textOf_L, e] at h3
          have h5 : tl s i = (if v.n = 0 then [45] else [43]) ++ r := h3
          split at h5
          · exact atB_miss (by decide) HC.out _ h5
          · exact atB_miss (by decide) hc _ h5⟩⟩)
      obtain ⟨wF, hF⟩ : ∃ wF, wF = set4 w2 w.heap.size (.string ⟨#[]⟩) (.int .i64 0) (.slice none 0 0) (.slice none 0 0) := ⟨_, rfl⟩
      rw [← hF] at z0 z1 z2 z3 HQ
      unfold set4 at hF
      clear hc hR g1 g2 g3 g4 g5
      go_wp2_with fail
      rw [← hF]
      exact bodyPost_ret (v := .tuple #[.agg #[.string ⟨#[]⟩, .int .i64 0, .slice none 0 0, .slice none 0 0], .bool false]) (by simp [results, Tryd.results46, go_sem, z0, z1, z2, z3]) rfl HQ.out
end Go.Proofs.YtelhjdccfomafaaDoor
