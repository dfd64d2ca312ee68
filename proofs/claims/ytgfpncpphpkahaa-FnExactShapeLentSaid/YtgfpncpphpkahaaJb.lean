/- What is lent: of the program. -/
import Derived.Test.YtgfpncpphpkahaaJa
import Derived.Test.YtgfpncpphpkahaaImb
import Derived.Test.YtgfpncpphpkahaaImf
import Derived.Test.YtgfpncpphpkahaaLat
namespace Go.Proofs.Ytgfpncpphpkahaa
open Go.RowKit

/-- Whether a text stands in a row. -/
def sIn (n : ByteArray) (xs : List ByteArray) : Bool := xs.any fun t => decide (t = n)
theorem sin_step {xs : List ByteArray} {n : ByteArray} {k : Nat} {b : Bool} (hk : k < xs.length) (h : sIn n (xs.drop k) = b) (hne : ¬ xs[k] = n) : sIn n (xs.drop (k + 1)) = b :=
  any_step hk h (decide_eq_false hne)
theorem sin_here {xs : List ByteArray} {n : ByteArray} {k : Nat} {b : Bool} (hk : k < xs.length) (h : sIn n (xs.drop k) = b) (he : xs[k] = n) : b = true :=
  (any_stop hk h (decide_eq_true he)).symm
theorem sin_end {xs : List ByteArray} {n : ByteArray} {k : Nat} {b : Bool} (hk : k = xs.length) (h : sIn n (xs.drop k) = b) : b = false :=
  (any_end hk h).symm
theorem str_ne {s t : ByteArray} (h : ¬ s = t) : (s.toList == t.toList) = false := by
  rw [beq_eq_false_iff_ne]
  exact fun e => h (ext_toList e)

set_option maxHeartbeats 1000000 in
theorem indexS_any (F : Nat → Prop) (v : Value) (xs : List ByteArray) (n : ByteArray) (w : World) (h : Cod.str.Sl F w v xs) :
    Calls Try.prog 29 #[v, .string n] w fun e w' => (∃ r : Int, e = .returned (.int .i64 r) ∧ I64 r ∧ decide (0 ≤ r) = sIn n xs) ∧ w' = w := by
  have HS := Lib.hid h
  obtain ⟨A, cap, rfl, hlc, hcm, _⟩ := h
  unfold maxLen at hcm
  have H0 := Lib.hid (show sIn n (xs.drop 0) = sIn n xs by rw [List.drop_zero])
  go_enter Try.func29, Try.ntmps29
  go_wp2
  go_loopw [8] (fun i wr => ∃ (k : Nat), k ≤ xs.length ∧ i = .int .i64 k ∧ Hid (sIn n (xs.drop k) = sIn n xs) ∧ wr = w) (fun i _ => xs.length - (intOf i).toNat)
  case atStart => exact ⟨0, Nat.zero_le _, rfl, H0, rfl⟩
  case round =>
    obtain ⟨k, hk, rfl, HI, rfl⟩ := hrel
    by_cases hlt : k < xs.length
    · obtain ⟨b, off, c1, hv, _, _, _, hc0, _⟩ := HS.out.str_at hlt
      obtain ⟨rfl, rfl⟩ : A = some ⟨b, off, none⟩ ∧ cap = c1 := by simpa using hv
      have i0 : (0 : Int) ≤ k := by omega
      have i1 : (k : Int) < xs.length := by omega
      by_cases he : xs[k] = n
      · have HB := Lib.hid (sin_here hlt HI.out he)
        have t1 : (n.toList == (xs[k]).toList) = true := by rw [he]; simp
        clear hv he
        go_wp2
        go_ret
        exact ⟨⟨(k : Int), rfl, by unfold I64; omega, by rw [HB.out]; simp⟩, rfl⟩
      · have HN := Lib.hid (sin_step hlt HI.out he)
        have t1 : (n.toList == (xs[k]).toList) = false := str_ne (Ne.symm he)
        clear hv he
        go_wp2
        go_roundw
        case rel => exact ⟨k + 1, by omega, by go_num, HN, by first | rfl | trivial⟩
        case measure => simp [intOf]; omega
    · have HB := Lib.hid (sin_end (by omega) HI.out)
      go_wp2
      go_ret
      exact ⟨⟨-1, rfl, by unfold I64; omega, by rw [HB.out]; simp⟩, rfl⟩

theorem containsS_any (F : Nat → Prop) (v : Value) (xs : List ByteArray) (n : ByteArray) (w : World) (h : Cod.str.Sl F w v xs) :
    Calls Try.prog 23 #[v, .string n] w fun e w' => e = .returned (.bool (sIn n xs)) ∧ w' = w := by
  have HC := Lib.hid (indexS_any F v xs n w h)
  obtain ⟨A, cap, rfl, hlc, hcm, _⟩ := h
  go_enter Try.func23, Try.ntmps23
  go_wp2_with fail
  refine HC.out.mono ?_
  rintro e w' ⟨⟨r, rfl, h1, h2⟩, rfl⟩
  have HR := Lib.hid h2
  clear h2
  go_wp2
  go_ret
  exact ⟨ret_bool HR.out, rfl⟩

/-- Whether a mark has one of some signs, and an origin. -/
def lends (signs : List ByteArray) (fr : Int) (x : MarkR) : Bool := sIn (signB x.ty) signs && decide (fr ∈ x.fr)
theorem sign_one {t : ByteArray} (r : refB t = true) (c : UInt8) : decide ((⟨#[c]⟩ : ByteArray) = t.extract 0 1) = firstIs t c.toNat := by
  have hp := refB_pos r
  have e := extract_one hp
  unfold firstIs
  rw [dif_pos hp, Bool.eq_iff_iff, decide_eq_true_eq]
  constructor
  · intro h
    rw [← h, toList_data] at e
    have e2 : c = t[0] := by simpa using e
    rw [e2]; simp
  · intro h
    have hb : t[0] = c := UInt8.toNat_inj.1 (by have h2 : (t[0].toNat : Int) = c.toNat := eq_of_beq h; omega)
    rw [hb] at e
    exact ext_toList (by rw [e, toList_data])
theorem sign_any (t : ByteArray) : sIn (signB t) [⟨#[38]⟩, ⟨#[33]⟩] = refB t := by
  unfold signB sIn
  cases r : refB t with
  | false => rfl
  | true =>
    rw [if_pos rfl, List.any_cons, List.any_cons, List.any_nil, sign_one r, sign_one r, Bool.or_false]
    have hp := refB_pos r
    unfold refB at r
    rw [dif_pos hp] at r
    unfold firstIs
    rw [dif_pos hp, dif_pos hp]
    exact r
theorem sign_bang (t : ByteArray) : sIn (signB t) [⟨#[33]⟩] = (refB t && firstIs t 33) := by
  unfold signB sIn
  cases r : refB t with
  | false => rfl
  | true =>
    rw [if_pos rfl, List.any_cons, List.any_nil, sign_one r, Bool.or_false]
    rfl
theorem lends_any (fr : Int) : lends [⟨#[38]⟩, ⟨#[33]⟩] fr = lent1 fr false := by
  funext x
  unfold lends lent1
  rw [sign_any]; simp
theorem lends_bang (fr : Int) : lends [⟨#[33]⟩] fr = lent1 fr true := by
  funext x
  unfold lends lent1
  rw [sign_bang]
  cases refB x.ty <;> cases firstIs x.ty 33 <;> cases decide (fr ∈ x.fr) <;> rfl

/-- What the closure looks at: the signs and the origin, in cells. -/
structure Looks (G : Nat → Prop) (w : World) (g5 g4 : Nat) (sv : Value) (signs : List ByteArray) (fr : Int) : Prop where
  lt5 : g5 < w.heap.size
  lt4 : g4 < w.heap.size
  c5 : w.cell? ⟨g5, 0, none⟩ = some sv
  c4 : w.cell? ⟨g4, 0, none⟩ = some (.int .i64 fr)
  sl : Cod.str.Sl G w sv signs
  inG : ∀ b, G b → b < w.heap.size
theorem Looks.below {G : Nat → Prop} {w w' : World} {g5 g4 : Nat} {sv : Value} {signs : List ByteArray} {fr : Int} (h : Looks G w g5 g4 sv signs fr) (hb : Below w.heap.size w w') : Looks G w' g5 g4 sv signs fr :=
  ⟨Nat.lt_of_lt_of_le h.lt5 hb.size, Nat.lt_of_lt_of_le h.lt4 hb.size, (hb.cell (p := ⟨g5, 0, none⟩) h.lt5).trans h.c5, (hb.cell (p := ⟨g4, 0, none⟩) h.lt4).trans h.c4, h.sl.keep (below_keeps hb h.inG), fun b hb' => Nat.lt_of_lt_of_le (h.inG b hb') hb.size⟩

set_option maxRecDepth 100000 in
set_option maxHeartbeats 4000000 in
theorem lentBy1_any (F G : Nat → Prop) (A1 : Option Addr) (n1 c1 : Nat) (x : MarkR) (g5 g4 : Nat) (sv : Value) (signs : List ByteArray) (fr : Int) (w : World) (h : MarkRd F w (.slice A1 n1 c1) x) (hF : ∀ b, F b → b < w.heap.size) (hl : Looks G w g5 g4 sv signs fr) :
    Calls Try.prog 21 #[.agg #[.string x.ty, .slice A1 n1 c1], .pointer (some ⟨g5, 0, none⟩), .pointer (some ⟨g4, 0, none⟩)] w fun e w' => e = .returned (.bool (lends signs fr x)) ∧ Below w.heap.size w w' := by
  obtain ⟨w0, hw0⟩ : ∃ w0, w0 = w.alloc (.cells #[.string x.ty, .slice A1 n1 c1] 43) := ⟨_, rfl⟩
  have hb0 : Below w.heap.size w w0 := by rw [hw0]; exact (Below.refl _ _).alloc (Nat.le_refl _) _
  have HB0 := Lib.hid (show Blk w0 w.heap.size 43 #[.string x.ty, .slice A1 n1 c1] by rw [hw0]; exact Blk.new _ _ _)
  have HS := Lib.hid (splitSign_any x.ty w0 h.ty)
  have HV := Lib.hid (h.keep (below_keeps hb0 hF))
  have HL := Lib.hid (hl.below hb0)
  have HE := Lib.hid hb0
  have Hw0 := Lib.hid hw0
  clear h hF hl hw0 hb0
  go_enter Try.func21, Try.ntmps21
  go_wp2_with fail
  rw [← Hw0.out]
  refine HS.out.mono ?_
  rintro e w1 ⟨rfl, n, rfl⟩
  obtain ⟨x0, x1⟩ := HB0.out.g2
  have y0 : (w0.drewN n).cell? ⟨w.heap.size, 0, none⟩ = some (.string x.ty) := x0
  have y1 : (w0.drewN n).cell? ⟨w.heap.size, 1, none⟩ = some (.slice A1 n1 c1) := x1
  have y2 : (w0.drewN n).cell? ⟨g5, 0, none⟩ = some sv := HL.out.c5
  have y3 : (w0.drewN n).cell? ⟨g4, 0, none⟩ = some (.int .i64 fr) := HL.out.c4
  have HC1 := Lib.hid (containsS_any G sv signs (signB x.ty) (w0.drewN n) (HL.out.sl.keep (w := w0) (w' := w0.drewN n) fun _ _ => rfl))
  have HC2 := Lib.hid (contains_any F _ x.fr fr (w0.drewN n) (HV.out.fr.keep (w := w0) (w' := w0.drewN n) fun _ _ => rfl))
  have HQ := Lib.hid (below_drewN HE.out n)
  clear x0 x1 HS
  cases r : sIn (signB x.ty) signs
  · rw [r] at HC1
    have HX := Lib.hid (show lends signs fr x = false by unfold lends; rw [r]; rfl)
    clear r
    go_wp2_with (first | (go_at_call 23; with_reducible refine HC1.out.mono ?_; rintro e w' ⟨rfl, rfl⟩) | (go_at_call 24; with_reducible refine HC2.out.mono ?_; rintro e w' ⟨rfl, rfl⟩))
    go_ret
    exact ⟨ret_bool HX.out.symm, HQ.out⟩
  · rw [r] at HC1
    have HX := Lib.hid (show lends signs fr x = decide (fr ∈ x.fr) by unfold lends; rw [r]; rfl)
    clear r
    go_wp2_with (first | (go_at_call 23; with_reducible refine HC1.out.mono ?_; rintro e w' ⟨rfl, rfl⟩) | (go_at_call 24; with_reducible refine HC2.out.mono ?_; rintro e w' ⟨rfl, rfl⟩))
    go_ret
    exact ⟨ret_bool HX.out.symm, HQ.out⟩

set_option maxRecDepth 100000 in
set_option maxHeartbeats 4000000 in
theorem indexM_any (F G : Nat → Prop) (v : Value) (xs : List MarkR) (g5 g4 : Nat) (sv : Value) (signs : List ByteArray) (fr : Int) (w : World) (h : Cod.markr.Sl F w v xs) (hF : ∀ b, F b → b < w.heap.size) (hl : Looks G w g5 g4 sv signs fr) :
    Calls Try.prog 31 #[v, .func (.func 21) #[] #[.pointer (some ⟨g5, 0, none⟩), .pointer (some ⟨g4, 0, none⟩)]] w fun e w' => e = .returned (.int .i64 (idx (lends signs fr) xs 0)) ∧ Below w.heap.size w w' := by
  have HL := Lib.hid hl
  have HS := Lib.hid h
  have HF := Lib.hid hF
  clear hl hF
  obtain ⟨A, cap, rfl, hlc, hcm, _⟩ := h
  unfold maxLen at hcm
  have HQ : Hid (idx (lends signs fr) (xs.drop 0) 0 = idx (lends signs fr) xs 0) := rfl
  go_enter Try.func31, Try.ntmps31
  go_wp2
  go_loopw [8] (fun i wr => ∃ k : Nat, k ≤ xs.length ∧ i = .int .i64 k ∧ Hid (idx (lends signs fr) (xs.drop k) k = idx (lends signs fr) xs 0) ∧ Below w.heap.size w wr) (fun i _ => xs.length - (intOf i).toNat)
  case atStart => exact ⟨0, Nat.zero_le _, rfl, HQ, Below.refl _ _⟩
  case round =>
    obtain ⟨k, hk, rfl, HH, hb⟩ := hrel
    by_cases hlt : k < xs.length
    · have HSr := Lib.hid (HS.out.keep (below_keeps hb HF.out))
      obtain ⟨b, off, c1, A1, e1, hv, hFb, _, _, hc0, hc1, hV⟩ := HSr.out.markr_at hlt
      obtain ⟨rfl, rfl⟩ : A = some ⟨b, off, none⟩ ∧ cap = c1 := by simpa using hv
      have i0 : (0 : Int) ≤ k := by omega
      have i1 : (k : Int) < xs.length := by omega
      have hsz := hb.size
      have HC := Lib.hid (lentBy1_any F G A1 _ e1 xs[k] g5 g4 sv signs fr wr hV (fun b hb' => Nat.lt_of_lt_of_le (HF.out b hb') hsz) (HL.out.below hb))
      have HB := Lib.hid hb
      clear hv hV hb
      cases hm : lends signs fr xs[k]
      · rw [hm] at HC
        go_wp2_with (go_at_call 21; with_reducible refine HC.out.mono ?_; rintro e w' ⟨rfl, hb1⟩)
        go_roundw
        case rel =>
          refine ⟨k + 1, by omega, by go_num, ?_, HB.out.trans (hb1.mono hsz)⟩
          have hh := HH.out
          rw [drop_cons hlt, idx, hm] at hh
          exact hh
        case measure => simp [intOf]; omega
      · rw [hm] at HC
        go_wp2_with (go_at_call 21; with_reducible refine HC.out.mono ?_; rintro e w' ⟨rfl, hb1⟩)
        go_ret
        have hh := HH.out
        rw [drop_cons hlt, idx, hm] at hh
        exact ⟨ret_int hh, HB.out.trans (hb1.mono hsz)⟩
    · go_wp2
      go_ret
      have hh := HH.out
      rw [show k = xs.length by omega, List.drop_length, idx] at hh
      exact ⟨ret_int hh, hb⟩

set_option maxHeartbeats 400000 in
theorem containsM_any (F G : Nat → Prop) (v : Value) (xs : List MarkR) (g5 g4 : Nat) (sv : Value) (signs : List ByteArray) (fr : Int) (w : World) (h : Cod.markr.Sl F w v xs) (hF : ∀ b, F b → b < w.heap.size) (hl : Looks G w g5 g4 sv signs fr) :
    Calls Try.prog 25 #[v, .func (.func 21) #[] #[.pointer (some ⟨g5, 0, none⟩), .pointer (some ⟨g4, 0, none⟩)]] w fun e w' => e = .returned (.bool (xs.any (lends signs fr))) ∧ Below w.heap.size w w' := by
  have HQ := Lib.hid (idx_any (lends signs fr) xs 0)
  have HC := Lib.hid (indexM_any F G v xs g5 g4 sv signs fr w h hF hl)
  clear hl hF h
  go_enter Try.func25, Try.ntmps25
  go_wp2_with (go_at_call 31; with_reducible refine HC.out.mono ?_; rintro e w' ⟨rfl, hb⟩)
  go_ret
  exact ⟨ret_bool HQ.out, hb⟩

set_option maxRecDepth 100000 in
set_option maxHeartbeats 4000000 in
theorem lentBy_any (F G : Nat → Prop) (A0 A1 : Option Addr) (n0 c0 n1 c1 : Nat) (x : ShapeR) (fr : Int) (S : Option Addr) (m cs : Nat) (signs : List ByteArray) (w : World) (h : ShapeRd F w (.slice A0 n0 c0) (.slice A1 n1 c1) x) (hF : ∀ b, F b → b < w.heap.size) (hs : Cod.str.Sl G w (.slice S m cs) signs) (hG : ∀ b, G b → b < w.heap.size) :
    Calls Try.prog 15 #[.agg #[.slice A0 n0 c0, .slice A1 n1 c1], .int .i64 fr, .slice S m cs] w fun e w' => e = .returned (.bool (x.stack.any (lends signs fr) || x.places.any (lends signs fr))) ∧ Below w.heap.size w w' := by
  obtain ⟨w3, hw3⟩ : ∃ w3, w3 = ((w.alloc (.cells #[.slice A0 n0 c0, .slice A1 n1 c1] 29)).alloc (.cells #[.int .i64 fr] 3)).alloc (.cells #[.slice S m cs] 46) := ⟨_, rfl⟩
  have hb3 : Below w.heap.size w w3 := by rw [hw3]; exact (((Below.refl _ _).alloc (Nat.le_refl _) _).alloc (by simp) _).alloc (by simp; omega) _
  have hs3 : w3.heap.size = w.heap.size + 3 := by rw [hw3]; simp
  have HB0 := Lib.hid (show Blk w3 w.heap.size 29 #[.slice A0 n0 c0, .slice A1 n1 c1] by rw [hw3]; exact ((Blk.new w _ _).alloc _).alloc _)
  have HB1 := (Blk.of3 w (.cells #[.slice A0 n0 c0, .slice A1 n1 c1] 29) 3 46 #[.int .i64 fr] #[.slice S m cs])
  rw [← hw3] at HB1
  have HL : Hid (Looks G w3 (w.heap.size + 1 + 1) (w.heap.size + 1) (.slice S m cs) signs fr) := Lib.hid ⟨by omega, by omega, HB1.2.cell 0, HB1.1.cell 0, hs.keep (below_keeps hb3 hG), fun b hb => by have := hG b hb; omega⟩
  have HV := Lib.hid (h.keep (below_keeps hb3 hF))
  have HF3 := Lib.hid (show ∀ b, F b → b < w3.heap.size from fun b hb => by have := hF b hb; omega)
  have HE := Lib.hid hb3
  have HC0 := Lib.hid (containsM_any F G _ x.stack _ _ (.slice S m cs) signs fr w3 HV.out.stack HF3.out HL.out)
  have Hw3 := Lib.hid hw3
  have Hs3 := Lib.hid hs3
  clear h hF hs hG hw3 hb3 HB1 hs3
  go_enter Try.func15, Try.ntmps15
  go_wp2_with fail
  rw [← Hw3.out]
  refine HC0.out.mono ?_
  rintro e w4 ⟨rfl, hb4⟩
  obtain ⟨x0, x1⟩ := (HB0.out.below hb4 (by have := Hs3.out; omega)).g2
  have HC1 := Lib.hid (containsM_any F G _ x.places _ _ (.slice S m cs) signs fr w4 (HV.out.places.keep (below_keeps hb4 HF3.out)) (fun b hb' => Nat.lt_of_lt_of_le (HF3.out b hb') hb4.size) (HL.out.below hb4))
  have HE4 := Lib.hid (HE.out.trans (hb4.mono HE.out.size))
  clear hb4 HC0
  cases r : x.stack.any (lends signs fr)
  · have HX := Lib.hid (show (x.stack.any (lends signs fr) || x.places.any (lends signs fr)) = x.places.any (lends signs fr) by rw [r]; rfl)
    clear r
    go_wp2_with (go_at_call 25; with_reducible refine HC1.out.mono ?_; rintro e w5 ⟨rfl, hb5⟩)
    go_ret
    exact ⟨ret_bool HX.out.symm, HE4.out.trans (hb5.mono HE4.out.size)⟩
  · have HX := Lib.hid (show (x.stack.any (lends signs fr) || x.places.any (lends signs fr)) = true by rw [r]; rfl)
    clear r HC1
    go_wp2
    go_ret
    exact ⟨ret_bool HX.out.symm, HE4.out⟩

theorem signs_ShapeLent {w : World} {g : Nat} (h : Blk w g 9 #[.string ⟨#[38]⟩, .string ⟨#[33]⟩]) : Cod.str.Sl (fun b => b = g) w (.slice (some ⟨g, 0, none⟩) 2 2) [⟨#[38]⟩, ⟨#[33]⟩] := by
  refine ⟨_, _, rfl, Nat.le_refl _, by unfold maxLen; omega, fun _ => ⟨g, 0, rfl, rfl, fun i x hi => ⟨[.string x], fun j u hu => ?_, rfl, ?_⟩⟩⟩
  · match j, hu with
    | 0, hu =>
      simp at hu
      subst hu
      rw [h.cell]
      match i, hi with
      | 0, hi => simp at hi; subst hi; rfl
      | 1, hi => simp at hi; subst hi; rfl
      | i + 2, hi => simp at hi
    | j + 1, hu => simp at hu
  · match i, hi with
    | 0, hi => simp at hi; subst hi; decide
    | 1, hi => simp at hi; subst hi; decide
    | i + 2, hi => simp at hi

set_option maxRecDepth 100000 in
set_option maxHeartbeats 4000000 in
theorem implShapeLent_any (F : Nat → Prop) (A0 A1 : Option Addr) (n0 c0 n1 c1 : Nat) (x : ShapeR) (fr : Int) (w : World) (h : ShapeRd F w (.slice A0 n0 c0) (.slice A1 n1 c1) x) (hF : ∀ b, F b → b < w.heap.size) :
    Calls Try.prog 8 #[.agg #[.slice A0 n0 c0, .slice A1 n1 c1], .int .i64 fr] w fun e w' => e = .returned (.bool (lentS fr false x)) ∧ Below w.heap.size w w' := by
  obtain ⟨w2, hw2⟩ : ∃ w2, w2 = (w.alloc (.cells #[.slice A0 n0 c0, .slice A1 n1 c1] 29)).alloc (.cells #[.string ⟨#[38]⟩, .string ⟨#[33]⟩] 9) := ⟨_, rfl⟩
  have hb2 : Below w.heap.size w w2 := by rw [hw2]; exact ((Below.refl _ _).alloc (Nat.le_refl _) _).alloc (by simp) _
  have hB : Blk w2 (w.heap.size + 1) 9 #[.string ⟨#[38]⟩, .string ⟨#[33]⟩] := by rw [hw2]; have := Blk.new (w.alloc (.cells #[.slice A0 n0 c0, .slice A1 n1 c1] 29)) 9 #[.string ⟨#[38]⟩, .string ⟨#[33]⟩]; simpa only [World.size_alloc] using this
  have hs2 : w2.heap.size = w.heap.size + 2 := by rw [hw2]; simp
  have HC := Lib.hid (lentBy_any F (fun b => b = w.heap.size + 1) A0 A1 n0 c0 n1 c1 x fr _ _ _ _ w2 (h.keep (below_keeps hb2 hF)) (fun b hb => by have := hF b hb; omega) (signs_ShapeLent hB) (fun b hb => by omega))
  rw [lends_any] at HC
  have HE := Lib.hid hb2
  have Hw2 := Lib.hid hw2
  clear h hF hw2 hb2 hB hs2
  go_enter Try.func8, Try.ntmps8
  go_wp2_with fail
  rw [← Hw2.out]
  refine HC.out.mono ?_
  rintro e w3 ⟨rfl, hb⟩
  have HQ := Lib.hid (HE.out.trans (hb.mono HE.out.size))
  clear hb HC
  go_wp2_with fail
  go_ret
  exact ⟨rfl, HQ.out⟩

theorem signs_ShapeWritten {w : World} {g : Nat} (h : Blk w g 9 #[.string ⟨#[33]⟩]) : Cod.str.Sl (fun b => b = g) w (.slice (some ⟨g, 0, none⟩) 1 1) [⟨#[33]⟩] := by
  refine ⟨_, _, rfl, Nat.le_refl _, by unfold maxLen; omega, fun _ => ⟨g, 0, rfl, rfl, fun i x hi => ⟨[.string x], fun j u hu => ?_, rfl, ?_⟩⟩⟩
  · match j, hu with
    | 0, hu =>
      simp at hu
      subst hu
      rw [h.cell]
      match i, hi with
      | 0, hi => simp at hi; subst hi; rfl
      | i + 1, hi => simp at hi
    | j + 1, hu => simp at hu
  · match i, hi with
    | 0, hi => simp at hi; subst hi; decide
    | i + 1, hi => simp at hi

set_option maxRecDepth 100000 in
set_option maxHeartbeats 4000000 in
theorem implShapeWritten_any (F : Nat → Prop) (A0 A1 : Option Addr) (n0 c0 n1 c1 : Nat) (x : ShapeR) (fr : Int) (w : World) (h : ShapeRd F w (.slice A0 n0 c0) (.slice A1 n1 c1) x) (hF : ∀ b, F b → b < w.heap.size) :
    Calls Try.prog 11 #[.agg #[.slice A0 n0 c0, .slice A1 n1 c1], .int .i64 fr] w fun e w' => e = .returned (.bool (lentS fr true x)) ∧ Below w.heap.size w w' := by
  obtain ⟨w2, hw2⟩ : ∃ w2, w2 = (w.alloc (.cells #[.slice A0 n0 c0, .slice A1 n1 c1] 29)).alloc (.cells #[.string ⟨#[33]⟩] 9) := ⟨_, rfl⟩
  have hb2 : Below w.heap.size w w2 := by rw [hw2]; exact ((Below.refl _ _).alloc (Nat.le_refl _) _).alloc (by simp) _
  have hB : Blk w2 (w.heap.size + 1) 9 #[.string ⟨#[33]⟩] := by rw [hw2]; have := Blk.new (w.alloc (.cells #[.slice A0 n0 c0, .slice A1 n1 c1] 29)) 9 #[.string ⟨#[33]⟩]; simpa only [World.size_alloc] using this
  have hs2 : w2.heap.size = w.heap.size + 2 := by rw [hw2]; simp
  have HC := Lib.hid (lentBy_any F (fun b => b = w.heap.size + 1) A0 A1 n0 c0 n1 c1 x fr _ _ _ _ w2 (h.keep (below_keeps hb2 hF)) (fun b hb => by have := hF b hb; omega) (signs_ShapeWritten hB) (fun b hb => by omega))
  rw [lends_bang] at HC
  have HE := Lib.hid hb2
  have Hw2 := Lib.hid hw2
  clear h hF hw2 hb2 hB hs2
  go_enter Try.func11, Try.ntmps11
  go_wp2_with fail
  rw [← Hw2.out]
  refine HC.out.mono ?_
  rintro e w3 ⟨rfl, hb⟩
  have HQ := Lib.hid (HE.out.trans (hb.mono HE.out.size))
  clear hb HC
  go_wp2_with fail
  go_ret
  exact ⟨rfl, HQ.out⟩
end Go.Proofs.Ytgfpncpphpkahaa
