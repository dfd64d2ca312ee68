/- The program's comparing of records that are kept, and whether one may be kept. -/
import Derived.Test.YthkdkefkgmmoiaaYa
import Derived.Test.YthkdkefkgmmoiaaVim
import Derived.StillTailTactics
namespace Go.Proofs.Ythkdkefkgmmoiaa
open Go.RowKit

set_option maxHeartbeats 400000 in
theorem isNaN_int (x : Int) (w : World) : Calls Try.prog 116 #[.int .i64 x] w fun e w' => e = .returned (.bool false) ∧ w' = w := by
  have t : (x != x) = false := by simp
  go_enter Try.func116, Try.ntmps116
  go_wp2
  go_ret
  first | exact ⟨rfl, rfl⟩ | exact ⟨by simp, rfl⟩
set_option maxHeartbeats 400000 in
theorem isNaN_text (x : ByteArray) (w : World) : Calls Try.prog 117 #[.string x] w fun e w' => e = .returned (.bool false) ∧ w' = w := by
  have t : (x.toList == x.toList) = true := by simp
  go_enter Try.func117, Try.ntmps117
  go_wp2
  go_ret
  first | exact ⟨rfl, rfl⟩ | exact ⟨by simp, rfl⟩
set_option maxHeartbeats 400000 in
theorem compareInt_any (a b : Int) (w : World) : Calls Try.prog 100 #[.int .i64 a, .int .i64 b] w fun e w' => e = .returned (.int .i64 (cmpO a b)) ∧ w' = w := by
  by_cases h1 : a < b
  · have HR := Lib.hid (show cmpO a b = -1 by unfold cmpO; rw [if_pos h1])
    go_enter Try.func100, Try.ntmps100
    go_wp2_with (go_at_call 116; refine (isNaN_int _ _).mono ?_; rintro e w' ⟨rfl, rfl⟩)
    go_ret
    exact ⟨ret_int HR.out.symm, rfl⟩
  · by_cases h2 : b < a
    · have HR := Lib.hid (show cmpO a b = 1 by unfold cmpO; rw [if_neg h1, if_pos h2])
      go_enter Try.func100, Try.ntmps100
      go_wp2_with (go_at_call 116; refine (isNaN_int _ _).mono ?_; rintro e w' ⟨rfl, rfl⟩)
      go_ret
      exact ⟨ret_int HR.out.symm, rfl⟩
    · have HR := Lib.hid (show cmpO a b = 0 by unfold cmpO; rw [if_neg h1, if_neg h2])
      go_enter Try.func100, Try.ntmps100
      go_wp2_with (go_at_call 116; refine (isNaN_int _ _).mono ?_; rintro e w' ⟨rfl, rfl⟩)
      go_ret
      exact ⟨ret_int HR.out.symm, rfl⟩
set_option maxHeartbeats 400000 in
theorem compareText_any (a b : ByteArray) (w : World) : Calls Try.prog 101 #[.string a, .string b] w fun e w' => e = .returned (.int .i64 (cmpT a b)) ∧ w' = w := by
  cases h1 : Go.Op.bytesLess a.toList b.toList with
  | true =>
    have HR := Lib.hid (show cmpT a b = -1 by unfold cmpT; rw [if_pos h1])
    go_enter Try.func101, Try.ntmps101
    go_wp2_with (go_at_call 117; refine (isNaN_text _ _).mono ?_; rintro e w' ⟨rfl, rfl⟩)
    go_ret
    exact ⟨ret_int HR.out.symm, rfl⟩
  | false =>
    cases h2 : (a.toList == b.toList) with
    | true =>
      have HR := Lib.hid (show cmpT a b = 0 by unfold cmpT; rw [h1, ← beq_iff_eq.1 h2, less_irr]; rfl)
      go_enter Try.func101, Try.ntmps101
      go_wp2_with (go_at_call 117; refine (isNaN_text _ _).mono ?_; rintro e w' ⟨rfl, rfl⟩)
      go_ret
      exact ⟨ret_int HR.out.symm, rfl⟩
    | false =>
      have HR := Lib.hid (show cmpT a b = 1 by
        unfold cmpT
        rw [h1, if_neg (by simp), if_pos]
        rw [← Bool.not_eq_false]
        intro h3
        rw [less_tri h1 h3] at h2
        simp at h2)
      go_enter Try.func101, Try.ntmps101
      go_wp2_with (go_at_call 117; refine (isNaN_text _ _).mono ?_; rintro e w' ⟨rfl, rfl⟩)
      go_ret
      exact ⟨ret_int HR.out.symm, rfl⟩

set_option maxRecDepth 100000 in
set_option maxHeartbeats 1000000 in
theorem or_two (a b : Int) (w : World) (g : Nat) (hB : Blk w g 3 #[.int .i64 a, .int .i64 b]) : Calls Try.prog 99 #[.slice (some ⟨g, 0, none⟩) 2 2] w fun e w' => e = .returned (.int .i64 (if a = 0 then b else a)) ∧ w' = w := by
  obtain ⟨r, hr⟩ : ∃ r, r = if a = 0 then b else a := ⟨_, rfl⟩
  rw [← hr]
  have c0 : w.cell? ⟨g, 0, none⟩ = some (.int .i64 a) := hB.cell 0
  have c1 : w.cell? ⟨g, 1, none⟩ = some (.int .i64 b) := hB.cell 1
  have HA := Lib.hid (show a = 0 ∨ a ≠ 0 by omega)
  clear hB
  by_cases ha : a = 0
  · have t0 : (a != 0) = false := bne_eq_false_iff_eq.2 ha
    have HR := Lib.hid (show r = b by rw [hr, if_pos ha])
    by_cases hb : b = 0
    · have t1 : (b != 0) = false := bne_eq_false_iff_eq.2 hb
      have HR0 := Lib.hid (show b = 0 from hb)
      clear ha hb hr
      go_enter Try.func99, Try.ntmps99
      go_wp2
      go_loopw [8] (fun i wr => ∃ k : Nat, k ≤ 2 ∧ i = .int .i64 k ∧ w = wr) (fun i _ => 2 - (intOf i).toNat)
      case atStart => exact ⟨0, by omega, rfl, by first | rfl | trivial⟩
      case round =>
        obtain ⟨k, hk, rfl, hwq⟩ := hrel
        subst hwq
        rcases (show k = 0 ∨ k = 1 ∨ k = 2 by omega) with rfl | rfl | rfl
        · go_wp2
          go_roundw
          case rel => exact ⟨1, by omega, rfl, by first | rfl | trivial⟩
          case measure => simp [intOf]
        · go_wp2
          go_roundw
          case rel => exact ⟨2, by omega, rfl, by first | rfl | trivial⟩
          case measure => simp [intOf]
        · go_wp2
          go_ret
          exact ⟨ret_int (by rw [HR.out, HR0.out]), rfl⟩
    · have t1 : (b != 0) = true := bne_iff_ne.2 hb
      clear ha hb hr
      go_enter Try.func99, Try.ntmps99
      go_wp2
      go_loopw [8] (fun i wr => ∃ k : Nat, k ≤ 1 ∧ i = .int .i64 k ∧ w = wr) (fun i _ => 2 - (intOf i).toNat)
      case atStart => exact ⟨0, by omega, rfl, by first | rfl | trivial⟩
      case round =>
        obtain ⟨k, hk, rfl, hwq⟩ := hrel
        subst hwq
        rcases (show k = 0 ∨ k = 1 by omega) with rfl | rfl
        · go_wp2
          go_roundw
          case rel => exact ⟨1, by omega, rfl, by first | rfl | trivial⟩
          case measure => simp [intOf]
        · go_wp2
          go_ret
          exact ⟨ret_int HR.out.symm, rfl⟩
  · have t0 : (a != 0) = true := bne_iff_ne.2 ha
    have HR := Lib.hid (show r = a by rw [hr, if_neg ha])
    clear ha hr
    go_enter Try.func99, Try.ntmps99
    go_wp2
    go_loopw [8] (fun i wr => i = .int .i64 0 ∧ w = wr) (fun i _ => 0)
    case atStart => exact ⟨rfl, by first | rfl | trivial⟩
    case round =>
      obtain ⟨rfl, hwq⟩ := hrel
      subst hwq
      go_wp2
      go_ret
      exact ⟨ret_int HR.out.symm, rfl⟩

/-- A record that is kept as an argument. -/
abbrev kargs (x : KepR) (A : Option Addr) (n cA : Nat) (B : Option Addr) (m cB : Nat) : Value := .agg #[.int .i64 x.o, .string x.v.ty, .int .i64 x.v.n, .slice A n cA, .slice B m cB]

set_option maxRecDepth 100000 in
set_option maxHeartbeats 2000000 in
theorem compareKept_any (x y : KepR) (A B A2 B2 : Option Addr) (n cA m cB n2 cA2 m2 cB2 : Nat) (w : World) : Calls Try.prog 76 #[.agg #[.int .i64 x.o, .string x.v.ty, .int .i64 x.v.n, .slice A n cA, .slice B m cB], .agg #[.int .i64 y.o, .string y.v.ty, .int .i64 y.v.n, .slice A2 n2 cA2, .slice B2 m2 cB2]] w fun e w' => e = .returned (.int .i64 (cmpK x y)) ∧ Below w.heap.size w w' := by
  have HR := Lib.hid (show cmpK x y = if cmpO x.o y.o = 0 then cmpT x.v.ty y.v.ty else cmpO x.o y.o from rfl)
  obtain ⟨w0, hw0⟩ : ∃ w0, w0 = (w.alloc (.cells #[.int .i64 x.o, .string x.v.ty, .int .i64 x.v.n, .slice A n cA, .slice B m cB] 97)).alloc (.cells #[.int .i64 y.o, .string y.v.ty, .int .i64 y.v.n, .slice A2 n2 cA2, .slice B2 m2 cB2] 97) := ⟨_, rfl⟩
  have hb0 : Below w.heap.size w w0 := by rw [hw0]; exact ((Below.refl _ _).alloc (Nat.le_refl _) _).alloc (by simp) _
  have hB := Blk.of2 w 97 97 #[.int .i64 x.o, .string x.v.ty, .int .i64 x.v.n, .slice A n cA, .slice B m cB] #[.int .i64 y.o, .string y.v.ty, .int .i64 y.v.n, .slice A2 n2 cA2, .slice B2 m2 cB2]
  rw [← hw0] at hB
  obtain ⟨x0, x1, x2, x3, x4⟩ := hB.1.c5
  obtain ⟨y0, y1, y2, y3, y4⟩ := hB.2.c5
  have HE := Lib.hid hb0
  have hs0 : w0.heap.size = w.heap.size + 2 := by rw [hw0]; simp
  have Hw0 := Lib.hid hw0
  clear hB hb0 hw0
  obtain ⟨p, hp⟩ : ∃ p, p = cmpO x.o y.o := ⟨_, rfl⟩
  obtain ⟨q, hq⟩ : ∃ q, q = cmpT x.v.ty y.v.ty := ⟨_, rfl⟩
  have HO := Lib.hid (fun W => by have := compareInt_any x.o y.o W; rw [← hp] at this; exact this)
  have HT := Lib.hid (fun W => by have := compareText_any x.v.ty y.v.ty W; rw [← hq] at this; exact this)
  rw [← hp, ← hq] at HR
  clear hp hq
  have HOr := Lib.hid (or_two p q (w0.alloc (.cells #[.int .i64 p, .int .i64 q] 3)).drew w0.heap.size (Blk.new w0 _ _))
  obtain ⟨r, hr⟩ : ∃ r, r = if p = 0 then q else p := ⟨_, rfl⟩
  rw [← hr] at HOr HR
  clear hs0 hr
  go_enter Try.func76, Try.ntmps76
  go_upto_region 1 with fail
  rw [← Hw0.out]
  go_still_tail 12, (by kernel_rfl)
  still_call (HO.out _)
  repeat still_step
  still_call (HT.out _)
  repeat still_step
  try refine wpStill_nil ?_
  change wpList _ _ _ _ _ w0.drew
  go_wp2_with fail
  go_at_call 99
  with_reducible refine HOr.out.mono ?_
  rintro e w1 ⟨rfl, rfl⟩
  go_wp2
  go_ret
  exact ⟨ret_int HR.out.symm, HE.out.trans ((((Below.refl _ _).alloc (Nat.le_refl _) _).drew).mono HE.out.size)⟩

theorem able_bits : ∀ x : Fin 16, (bits .and .i64 (x.val : Int) 8 != 0) = canB (x.val : Int) 8 := by decide +kernel
theorem able_eight {x : Int} (h0 : 0 ≤ x) (h1 : x ≤ 15) : (bits .and .i64 x 8 != 0) = canB x 8 := by
  have := able_bits ⟨x.toNat, by omega⟩
  rw [show ((x.toNat : Nat) : Int) = x by omega] at this
  exact this
theorem ableT_kind {ks : Ks} {t : ByteArray} {m k : Nat} (h : kindOf t = some (m, k)) : ableT ks t = (recAt ks m k).able := by
  unfold ableT
  rw [amp_no (refB_kind h), refB_kind h, h]
  rfl

/-- What the table has under a text, asked without whether it is there. -/
theorem Table.find1 {F : Nat → Prop} {ks : Ks} {b : Nat} {w : World} (h : Table F ks b w) {P : Program} {t k e : TypeId} (ht : P.underlying t = some (.map k e)) (hk : P.underlying k = some .string) (z : Value) (hz : (zeroValue e).run P w = .ok z w) (s : ByteArray) :
    ((∀ m k, kindOf s = some (m, k) → hasB ks m k = false) ∧ (Instr.lookup t (.map (some b)) (.string s) false).run P w = .ok z w) ∨
    (∃ m k A c, kindOf s = some (m, k) ∧ hasB ks m k = true ∧
      (Instr.lookup t (.map (some b)) (.string s) false).run P w = .ok (.agg #[.int .i64 (recAt ks m k).able, .slice A (recAt ks m k).fields.length c]) w) := by
  obtain ⟨l, h1, h2⟩ := h
  have htl := h2 s
  unfold tabLook at htl
  rcases h1.lookup ht hk z hz s false with ⟨g1, g2⟩ | ⟨r, x, g1, ⟨A, c, rfl, hS, hI⟩, g2⟩
  · left
    simp only [Bool.false_eq_true, if_false] at g2
    refine ⟨fun m k hm => ?_, g2⟩
    rw [g1, hm] at htl
    simp only at htl
    cases hh : hasB ks m k with
    | false => rfl
    | true =>
      obtain ⟨hlt, _⟩ := has_at hh
      rw [if_pos ⟨hh, .inl hlt⟩] at htl
      cases htl
  · right
    simp only [Bool.false_eq_true, if_false] at g2
    rw [g1] at htl
    cases hi : kindOf s with
    | none => rw [hi] at htl; cases htl
    | some mk =>
      obtain ⟨m, k⟩ := mk
      rw [hi] at htl
      simp only at htl
      split at htl
      · rename_i hc
        obtain rfl : r = recAt ks m k := by simpa using htl
        exact ⟨m, k, A, c, rfl, hc.1, g2⟩
      · cases htl

/-- A record that may be in vaults. -/
def mayB (ks : Ks) (d : Nat) (x : KepR) : Bool := inB x.o 0 3 && keptB ks d x.v
theorem mayB_low {ks : Ks} {d : Nat} {x : KepR} (h : x.o < 0 ∨ 4 ≤ x.o) : mayB ks d x = false := by
  unfold mayB inB
  rw [show (decide (0 ≤ x.o) && decide (x.o ≤ 3)) = false by rw [Bool.and_eq_false_iff, decide_eq_false_iff_not, decide_eq_false_iff_not]; omega]
  rfl
theorem mayB_in {ks : Ks} {d : Nat} {x : KepR} (h : ¬ x.o < 0) (h' : ¬ 4 ≤ x.o) : mayB ks d x = keptB ks d x.v := by
  unfold mayB inB
  rw [decide_eq_true (show 0 ≤ x.o by omega), decide_eq_true (show x.o ≤ 3 by omega)]
  rfl
theorem keptB_no {ks : Ks} {d : Nat} {v : Val} (h : ∀ m k, kindOf v.ty = some (m, k) → hasB ks m k = false) : keptB ks d v = false := by
  rw [Bool.eq_false_iff]
  intro h'
  unfold keptB at h'
  simp only [Bool.and_eq_true, Option.isSome_iff_exists] at h'
  obtain ⟨⟨⟨m, k⟩, hk⟩, hok, -⟩ := h'
  have := ok_has hok hk
  rw [h m k hk] at this
  cases this
theorem keptB_yes {ks : Ks} {d : Nat} {v : Val} {m k : Nat} (h : kindOf v.ty = some (m, k)) : keptB ks d v = (okV ks (d + 1) v && canB (recAt ks m k).able 8) := by
  unfold keptB
  rw [h, ableT_kind h]
  rfl

theorem field_able (n : Int) (A : Option Addr) (m c : Nat) (w : World) : (Instr.field 65 (.agg #[.int .i64 n, .slice A m c]) 0).run Try.prog w = .ok (.int .i64 n) w := by
  simp [Instr.field, run_underlying Try.underlying65, part, asAgg, go_sem]
attribute [local go_sem] field_able

set_option maxRecDepth 100000 in
set_option maxHeartbeats 2000000 in
theorem keptOk_any {ks : Ks} (d : Nat) (F : Nat → Prop) (g : Nat) (A B : Option Addr) (n m cA cB : Nat) (x : KepR) (w : World) (hab : AblesIn ks) (ht : Table F ks g w) (h : VRd (Cod.val d) F w (.slice A n cA) (.slice B m cB) x.v) (hF : ∀ b, F b → b < w.heap.size) :
    Calls Try.prog 75 #[.map (some g), .agg #[.int .i64 x.o, .string x.v.ty, .int .i64 x.v.n, .slice A n cA, .slice B m cB]] w fun e w' => e = .returned (.bool (mayB ks d x)) ∧ Below w.heap.size w w' := by
  obtain ⟨w0, hw0⟩ : ∃ w0, w0 = w.alloc (.cells #[.int .i64 x.o, .string x.v.ty, .int .i64 x.v.n, .slice A n cA, .slice B m cB] 97) := ⟨_, rfl⟩
  have hb0 : Below w.heap.size w w0 := by rw [hw0]; exact (Below.refl _ _).alloc (Nat.le_refl _) _
  have hB0 : Blk w0 w.heap.size 97 #[.int .i64 x.o, .string x.v.ty, .int .i64 x.v.n, .slice A n cA, .slice B m cB] := by rw [hw0]; exact Blk.new _ _ _
  obtain ⟨y0, y1, y2, y3, y4⟩ := hB0.c5
  have hT0 : Table F ks g w0 := ht.keep (fun b hb => hb0.block b (hF b hb)) (hb0.block g ht.lt)
  have HOk := Lib.hid (valueOk_any ks d F g A B n m cA cB x.v w0 hT0 (h.keep (w' := w0) fun b hb => hb0.block b (hF b hb)) (fun b hb => Nat.lt_of_lt_of_le (hF b hb) hb0.size))
  have HE := Lib.hid hb0
  have Hw0 := Lib.hid hw0
  have hfind := hT0.find1 Try.underlying101 Try.underlying9 _ (zero_rec _) x.v.ty
  clear hb0 hB0 hw0 h hF ht hT0
  by_cases h0 : x.o < 0
  · have HR := Lib.hid (mayB_low (ks := ks) (d := d) (.inl h0))
    clear hfind
    go_enter Try.func75, Try.ntmps75
    rw [Hw0.out] at y0 y1 y2 y3 y4
    go_wp2
    go_ret
    exact ⟨ret_bool HR.out.symm, by rw [← Hw0.out]; exact HE.out⟩
  · by_cases h4 : 4 ≤ x.o
    · have HR := Lib.hid (mayB_low (ks := ks) (d := d) (.inr h4))
      clear hfind
      go_enter Try.func75, Try.ntmps75
      rw [Hw0.out] at y0 y1 y2 y3 y4
      go_wp2
      go_ret
      exact ⟨ret_bool HR.out.symm, by rw [← Hw0.out]; exact HE.out⟩
    · have HR0 := Lib.hid (mayB_in (ks := ks) (d := d) h0 h4)
      rcases hfind with ⟨g1, g2⟩ | ⟨mm, kk, A1, c1, hk, hh, g2⟩
      · have HR := Lib.hid (show mayB ks d x = false by rw [HR0.out]; exact keptB_no g1)
        have t : (bits .and .i64 0 8 != 0) = false := by decide +kernel
        clear g1
        go_enter Try.func75, Try.ntmps75
        rw [Hw0.out] at y0 y1 y2 y3 y4 g2
        go_wp2
        go_ret
        exact ⟨ret_bool HR.out.symm, by rw [← Hw0.out]; exact HE.out⟩
      · have hr := hab mm kk hh
        have HR := Lib.hid (show mayB ks d x = (okV ks (d + 1) x.v && canB (recAt ks mm kk).able 8) by rw [HR0.out]; exact keptB_yes hk)
        have hbits := able_eight hr.1 hr.2
        cases hc : canB (recAt ks mm kk).able 8 with
        | false =>
          rw [hc] at hbits
          have HR1 := Lib.hid (show mayB ks d x = false by rw [HR.out, hc, Bool.and_false])
          clear hc hr hk hh
          go_enter Try.func75, Try.ntmps75
          rw [Hw0.out] at y0 y1 y2 y3 y4 g2
          go_wp2
          go_ret
          exact ⟨ret_bool HR1.out.symm, by rw [← Hw0.out]; exact HE.out⟩
        | true =>
          rw [hc] at hbits
          have HR1 := Lib.hid (show mayB ks d x = okOf ks (okV ks d) x.v by rw [HR.out, hc, Bool.and_true]; rfl)
          clear hc hr hk hh
          go_enter Try.func75, Try.ntmps75
          rw [Hw0.out] at y0 y1 y2 y3 y4 g2
          rw [Hw0.out] at HOk
          go_wp2_with (go_at_call 98; (with_reducible refine HOk.out.mono ?_); rintro e w1 ⟨rfl, hb1⟩)
          go_ret
          exact ⟨ret_bool HR1.out.symm, (by rw [← Hw0.out] at hb1; exact HE.out.trans (hb1.mono HE.out.size))⟩
end Go.Proofs.Ythkdkefkgmmoiaa
