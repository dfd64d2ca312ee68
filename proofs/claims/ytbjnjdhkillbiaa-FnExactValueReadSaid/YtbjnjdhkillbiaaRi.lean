/- The program's reader of values: bytes, truths, numbers. -/
import Derived.Test.YtbjnjdhkillbiaaRm
import Derived.Test.YtbjnjdhkillbiaaOw
import Derived.Test.YtbjnjdhkillbiaaVimc
namespace Go.Proofs.Ytbjnjdhkillbiaa
open Go.RowKit

/-- The byte at a place; behind the end 0. -/
def atB (s : ByteArray) (i : Nat) : Nat := if h : i < s.size then (s[i]'h).toNat else 0
abbrev tl (s : ByteArray) (i : Nat) : List UInt8 := s.data.toList.drop i
theorem tl_cons {s : ByteArray} {i : Nat} (h : i < s.size) : tl s i = (s[i]'h) :: tl s (i + 1) := by
  show s.data.toList.drop i = _
  rw [drop_cons (by simpa using h)]
  rfl
theorem tl_end {s : ByteArray} {i : Nat} (h : s.size ≤ i) : tl s i = [] := List.drop_eq_nil_of_le (by simpa using h)
theorem atB_hit {s : ByteArray} {i b : Nat} (hb : 0 < b) (h : atB s i = b) : ∃ hi : i < s.size, (s[i]'hi).toNat = b ∧ tl s i = UInt8.ofNat b :: tl s (i + 1) := by
  unfold atB at h
  by_cases hi : i < s.size
  · rw [dif_pos hi] at h
    refine ⟨hi, h, ?_⟩
    rw [tl_cons hi]
    congr 1
    apply UInt8.toNat_inj.1
    have := (s[i]'hi).toNat_lt
    rw [UInt8.toNat_ofNat']
    omega
  · rw [dif_neg hi] at h; omega
theorem atB_miss {s : ByteArray} {i b : Nat} (hb : b < 256) (h : atB s i ≠ b) (r : List UInt8) : tl s i ≠ UInt8.ofNat b :: r := by
  intro e
  by_cases hi : i < s.size
  · rw [tl_cons hi] at e
    simp only [List.cons.injEq] at e
    apply h
    unfold atB
    rw [dif_pos hi, e.1, UInt8.toNat_ofNat']
    omega
  · rw [tl_end (by omega)] at e; cases e

/-- The reader, at a place. -/
def RdB (rb tb : Nat) (s : ByteArray) (i : Nat) (w : World) : Prop := Blk w rb 77 #[.map (some tb), .string s, .int .i64 i]
theorem RdB.c {rb tb i : Nat} {s : ByteArray} {w : World} (h : RdB rb tb s i w) : w.cell? ⟨rb, 0, none⟩ = some (.map (some tb)) ∧ w.cell? ⟨rb, 1, none⟩ = some (.string s) ∧ w.cell? ⟨rb, 2, none⟩ = some (.int .i64 i) := ⟨Blk.cell h 0, Blk.cell h 1, Blk.cell h 2⟩

/-- Memory is as it was. -/
def Quiet (w w' : World) : Prop := w'.os = w.os ∧ w'.tape = w.tape ∧ w'.output = w.output ∧ w'.heap = w.heap
theorem Quiet.wrote {w w' : World} (h : Quiet w w') (lo hi : Nat) : Wrote lo hi w w' := ⟨h.1, h.2.1, h.2.2.1, by rw [h.2.2.2]; exact Nat.le_refl _, fun _ _ _ => by rw [h.2.2.2]⟩
theorem Quiet.rd {w w' : World} (h : Quiet w w') {rb tb i : Nat} {s : ByteArray} (hr : RdB rb tb s i w) : RdB rb tb s i w' := by
  unfold RdB Blk
  rw [h.2.2.2]
  exact hr

set_option maxRecDepth 100000 in
theorem peek_any (rb tb i : Nat) (s : ByteArray) (w : World) (h : RdB rb tb s i w) (hi : i ≤ s.size) (hs : s.size ≤ 2000000) :
    Calls Try.prog 70 #[.pointer (some ⟨rb, 0, none⟩)] w fun e w' => e = .returned (.int .u8 (atB s i)) ∧ Quiet w w' := by
  obtain ⟨x0, x1, x2⟩ := h.c
  by_cases hl : i < s.size
  · have HA : Hid (atB s i = (s[i]'hl).toNat) := by show _ = _; unfold atB; rw [dif_pos hl]
    have b0 : ((i : Int) == (s.size : Int)) = false := by rw [beq_eq_false_iff_ne]; omega
    go_enter Try.func70, Try.ntmps70
    go_wp2
    go_quiet (fail)
    go_wp2
    go_quiet (fail)
    go_wp2
    go_ret
    exact ⟨ret_int (by rw [HA.out]), rfl, rfl, rfl, rfl⟩
  · have HA : Hid (atB s i = 0) := by show _ = _; unfold atB; rw [dif_neg hl]
    have b0 : ((i : Int) == (s.size : Int)) = true := by rw [beq_iff_eq]; omega
    go_enter Try.func70, Try.ntmps70
    go_wp2
    go_quiet (fail)
    go_wp2
    go_ret
    exact ⟨ret_int (by rw [HA.out]; rfl), rfl, rfl, rfl, rfl⟩

/-- A byte skipped, or not. -/
def SkipD (rb tb : Nat) (s : ByteArray) (i b : Nat) (w : World) (e : Ending) (w' : World) : Prop :=
  Wrote rb (rb + 1) w w' ∧ ((atB s i = b ∧ e = .returned (.bool true) ∧ RdB rb tb s (i + 1) w') ∨ (atB s i ≠ b ∧ e = .returned (.bool false) ∧ RdB rb tb s i w'))

set_option maxRecDepth 100000 in
theorem skip_any (rb tb i b : Nat) (s : ByteArray) (w : World) (h : RdB rb tb s i w) (hi : i ≤ s.size) (hs : s.size ≤ 2000000) (hb : b < 256) :
    Calls Try.prog 68 #[.pointer (some ⟨rb, 0, none⟩), .int .u8 b] w (SkipD rb tb s i b w) := by
  have HP := Lib.hid (peek_any rb tb i s w h hi hs)
  have HR := Lib.hid h
  by_cases hh : atB s i = b
  · have HH := Lib.hid hh
    have b0 : (((atB s i : Nat) : Int) != (b : Int)) = false := bne_eq_false_iff_eq.2 (by omega)
    go_enter Try.func68, Try.ntmps68
    go_wp2_with fail
    refine HP.out.mono ?_
    rintro e w1 ⟨rfl, hq⟩
    have HR1 := Lib.hid (hq.rd HR.out)
    obtain ⟨x0, x1, x2⟩ := HR1.out.c
    have f2 := Blk.frozen HR1.out 2
    have HQ := Lib.hid (show SkipD rb tb s i b w (.returned (.bool true)) (w1.setCell ⟨rb, 2, none⟩ (.int .i64 ((i : Int) + 1))) from
      ⟨(hq.wrote _ _).trans (Wrote.set_ (Nat.le_refl _) (Nat.lt_succ_self _) _), .inl ⟨HH.out, rfl, Blk.set_ HR1.out 2 _⟩⟩)
    clear hh hq
    go_wp2
    go_ret
    exact HQ.out
  · have HH := Lib.hid hh
    have b0 : (((atB s i : Nat) : Int) != (b : Int)) = true := by rw [bne_iff_ne]; omega
    go_enter Try.func68, Try.ntmps68
    go_wp2_with fail
    refine HP.out.mono ?_
    rintro e w1 ⟨rfl, hq⟩
    have HQ := Lib.hid (show SkipD rb tb s i b w (.returned (.bool false)) w1 from ⟨hq.wrote _ _, .inr ⟨HH.out, rfl, hq.rd HR.out⟩⟩)
    clear hq
    clear hh
    go_wp2
    go_ret
    exact HQ.out

/-- A text begins with that of a value of a type, of a depth. -/
def Cand (ks : Ks) (d : Nat) (t : ByteArray) (l : List UInt8) : Prop := ∃ (v : Val) (r : List UInt8), okV ks (d + 1) v = true ∧ v.ty = t ∧ l = lOf (textV (d + 1)) v ++ r ∧ EndsFor v r
/-- An answer of the reader: a value of a type, and where it is then; or none. -/
def ReadD (ks : Ks) (d rb tb : Nat) (s : ByteArray) (i : Nat) (t : ByteArray) (w : World) (e : Ending) (w' : World) : Prop :=
  Wrote rb (rb + 1) w w' ∧ ∃ i', i' ≤ s.size ∧ RdB rb tb s i' w' ∧
    ((∃ (v : Val) (A : Option Addr) (cA : Nat), e = .returned (.tuple #[.agg #[.string v.ty, .int .i64 v.n, .slice A v.parts.length cA, .slice none 0 0], .bool true]) ∧ v.path = [] ∧ okV ks (d + 1) v = true ∧ v.ty = t ∧ tl s i = lOf (textV (d + 1)) v ++ tl s i' ∧ EndsFor v (tl s i') ∧ OV (OCod.val 27 3 d) 27 3 w.heap.size w'.heap.size w' (.slice A v.parts.length cA) (.slice none 0 0) v) ∨
     (e = .returned (.tuple #[.agg #[.string ⟨#[]⟩, .int .i64 0, .slice none 0 0, .slice none 0 0], .bool false]) ∧ ¬ Cand ks d t (tl s i)))
end Go.Proofs.Ytbjnjdhkillbiaa
