/- What is lent: of the model. -/
import Derived.Test.YtgfpncpphpkahaaJd
import Derived.Test.YtgfpncpphpkahaaGi
import Derived.Test.YtgfpncpphpkahaaIm
import Derived.Test.YtgfpncpphpkahaaSpb
namespace Go.Proofs.Ytgfpncpphpkahaa
open Go.RowKit

/-- Whether a mark is a reference that has an origin, to write if that is asked. -/
def lent1 (fr : Int) (wr : Bool) (x : MarkR) : Bool := refB x.ty && decide (fr ∈ x.fr) && (!wr || firstIs x.ty 33)
def lentS (fr : Int) (wr : Bool) (x : ShapeR) : Bool := x.stack.any (lent1 fr wr) || x.places.any (lent1 fr wr)

theorem refB_pos {t : ByteArray} (h : refB t = true) : 0 < t.size := by
  unfold refB at h
  split at h
  · assumption
  · cases h

set_option maxRecDepth 100000 in
set_option maxHeartbeats 4000000 in
theorem l5Lent_any (F : Nat → Prop) (v : Value) (xs : List MarkR) (fr : Int) (wr : Bool) (w : World) (h : Cod.markr.Sl F w v xs) :
    Calls Try.prog 13 #[v, .int .i64 fr, .bool wr] w fun e w' => e = .returned (.bool (xs.any (lent1 fr wr))) ∧ w = w' := by
  have HS := Lib.hid h
  obtain ⟨A, cap, rfl, hlc, hcm, _⟩ := h
  unfold maxLen at hcm
  have H0 := Lib.hid (show (xs.drop 0).any (lent1 fr wr) = xs.any (lent1 fr wr) by rw [List.drop_zero])
  go_enter Try.func13, Try.ntmps13
  go_wp2
  go_loopw [7] (fun i wr_ => ∃ (k : Nat), k ≤ xs.length ∧ i = .int .i64 k ∧ Hid ((xs.drop k).any (lent1 fr wr) = xs.any (lent1 fr wr)) ∧ w = wr_) (fun i _ => xs.length - (intOf i).toNat)
  case atStart => exact ⟨0, Nat.zero_le _, rfl, H0, rfl⟩
  case round =>
    obtain ⟨k, hk, rfl, HI, rfl⟩ := hrel
    by_cases hlt : k < xs.length
    · obtain ⟨b, off, c1, A1, e1, hv, _, _, _, hc0, hc1, hV⟩ := HS.out.markr_at hlt
      obtain ⟨rfl, rfl⟩ : A = some ⟨b, off, none⟩ ∧ cap = c1 := by simpa using hv
      have i0 : (0 : Int) ≤ k := by omega
      have i1 : (k : Int) < xs.length := by omega
      have HR := Lib.hid (l1Ref_any xs[k].ty w hV.ty)
      have HN := Lib.hid (l4In_any F _ xs[k].fr fr w hV.fr)
      have hm := hV.ty
      unfold maxLen at hm
      clear hv hV
      cases r : refB xs[k].ty
      · rw [r] at HR
        have HX := Lib.hid (any_step hlt HI.out (show lent1 fr wr xs[k] = false by unfold lent1; rw [r]; rfl))
        clear r
        go_wp2_with (go_at_call 18; with_reducible refine HR.out.mono ?_; rintro e w' ⟨rfl, rfl⟩)
        go_roundw
        case rel => exact ⟨k + 1, by omega, by go_num, HX, by first | rfl | trivial⟩
        case measure => simp [intOf]; omega
      · have hpos := refB_pos r
        cases d : decide (fr ∈ xs[k].fr)
        · rw [r] at HR
          rw [d] at HN
          have HX := Lib.hid (any_step hlt HI.out (show lent1 fr wr xs[k] = false by unfold lent1; rw [r, d]; rfl))
          clear r d
          go_wp2_with (first | (go_at_call 18; with_reducible refine HR.out.mono ?_; rintro e w' ⟨rfl, rfl⟩) | (go_at_call 19; with_reducible refine HN.out.mono ?_; rintro e w' ⟨rfl, rfl⟩))
          go_roundw
          case rel => exact ⟨k + 1, by omega, by go_num, HX, by first | rfl | trivial⟩
          case measure => simp [intOf]; omega
        · rw [r] at HR
          rw [d] at HN
          cases wr
          · have HX := Lib.hid (any_stop hlt HI.out (show lent1 fr false xs[k] = true by unfold lent1; rw [r, d]; rfl))
            clear r d
            go_wp2_with (first | (go_at_call 18; with_reducible refine HR.out.mono ?_; rintro e w' ⟨rfl, rfl⟩) | (go_at_call 19; with_reducible refine HN.out.mono ?_; rintro e w' ⟨rfl, rfl⟩))
            go_ret
            exact ⟨ret_bool HX.out, rfl⟩
          · cases t : ((xs[k].ty[0].toNat : Int) == 33)
            · have HX := Lib.hid (any_step hlt HI.out (show lent1 fr true xs[k] = false by unfold lent1 firstIs; rw [r, d, dif_pos hpos, t]; rfl))
              clear r d
              go_wp2_with (first | (go_at_call 18; with_reducible refine HR.out.mono ?_; rintro e w' ⟨rfl, rfl⟩) | (go_at_call 19; with_reducible refine HN.out.mono ?_; rintro e w' ⟨rfl, rfl⟩))
              go_roundw
              case rel => exact ⟨k + 1, by omega, by go_num, HX, by first | rfl | trivial⟩
              case measure => simp [intOf]; omega
            · have HX := Lib.hid (any_stop hlt HI.out (show lent1 fr true xs[k] = true by unfold lent1 firstIs; rw [r, d, dif_pos hpos, t]; rfl))
              clear r d
              go_wp2_with (first | (go_at_call 18; with_reducible refine HR.out.mono ?_; rintro e w' ⟨rfl, rfl⟩) | (go_at_call 19; with_reducible refine HN.out.mono ?_; rintro e w' ⟨rfl, rfl⟩))
              go_ret
              exact ⟨ret_bool HX.out, rfl⟩
    · have HX := Lib.hid (any_end (by omega) HI.out)
      go_wp2
      go_ret
      exact ⟨ret_bool HX.out, rfl⟩

set_option maxRecDepth 100000 in
set_option maxHeartbeats 2000000 in
theorem specShapeLent_any (F : Nat → Prop) (A0 A1 : Option Addr) (n0 c0 n1 c1 : Nat) (x : ShapeR) (fr : Int) (w : World) (h : ShapeRd F w (.slice A0 n0 c0) (.slice A1 n1 c1) x) (hF : ∀ b, F b → b < w.heap.size) :
    Calls Try.prog 6 #[.agg #[.slice A0 n0 c0, .slice A1 n1 c1], .int .i64 fr] w fun e w' => e = .returned (.bool (lentS fr false x)) ∧ Below w.heap.size w w' := by
  have hb : Below w.heap.size w (w.alloc (.cells #[.slice A0 n0 c0, .slice A1 n1 c1] 29)) := (Below.refl _ _).alloc (Nat.le_refl _) _
  have HC0 := Lib.hid (l5Lent_any F _ x.stack fr false (w.alloc (.cells #[.slice A0 n0 c0, .slice A1 n1 c1] 29)) (h.stack.keep (below_keeps hb hF)))
  have HC1 := Lib.hid (l5Lent_any F _ x.places fr false (w.alloc (.cells #[.slice A0 n0 c0, .slice A1 n1 c1] 29)) (h.places.keep (below_keeps hb hF)))
  have HB := Lib.hid hb
  clear h hF hb
  cases r : x.stack.any (lent1 fr false)
  · have HX := Lib.hid (show lentS fr false x = x.places.any (lent1 fr false) by unfold lentS; rw [r]; rfl)
    rw [r] at HC0
    clear r
    go_enter Try.func6, Try.ntmps6
    go_wp2_with (go_at_call 13; first | (with_reducible refine HC0.out.mono ?_; rintro e w' ⟨rfl, rfl⟩) | (with_reducible refine HC1.out.mono ?_; rintro e w' ⟨rfl, rfl⟩))
    go_ret
    exact ⟨ret_bool HX.out.symm, HB.out⟩
  · have HX := Lib.hid (show lentS fr false x = true by unfold lentS; rw [r]; rfl)
    rw [r] at HC0
    clear r
    go_enter Try.func6, Try.ntmps6
    go_wp2_with (go_at_call 13; first | (with_reducible refine HC0.out.mono ?_; rintro e w' ⟨rfl, rfl⟩) | (with_reducible refine HC1.out.mono ?_; rintro e w' ⟨rfl, rfl⟩))
    go_ret
    exact ⟨ret_bool HX.out.symm, HB.out⟩

set_option maxRecDepth 100000 in
set_option maxHeartbeats 2000000 in
theorem specShapeWritten_any (F : Nat → Prop) (A0 A1 : Option Addr) (n0 c0 n1 c1 : Nat) (x : ShapeR) (fr : Int) (w : World) (h : ShapeRd F w (.slice A0 n0 c0) (.slice A1 n1 c1) x) (hF : ∀ b, F b → b < w.heap.size) :
    Calls Try.prog 10 #[.agg #[.slice A0 n0 c0, .slice A1 n1 c1], .int .i64 fr] w fun e w' => e = .returned (.bool (lentS fr true x)) ∧ Below w.heap.size w w' := by
  have hb : Below w.heap.size w (w.alloc (.cells #[.slice A0 n0 c0, .slice A1 n1 c1] 29)) := (Below.refl _ _).alloc (Nat.le_refl _) _
  have HC0 := Lib.hid (l5Lent_any F _ x.stack fr true (w.alloc (.cells #[.slice A0 n0 c0, .slice A1 n1 c1] 29)) (h.stack.keep (below_keeps hb hF)))
  have HC1 := Lib.hid (l5Lent_any F _ x.places fr true (w.alloc (.cells #[.slice A0 n0 c0, .slice A1 n1 c1] 29)) (h.places.keep (below_keeps hb hF)))
  have HB := Lib.hid hb
  clear h hF hb
  cases r : x.stack.any (lent1 fr true)
  · have HX := Lib.hid (show lentS fr true x = x.places.any (lent1 fr true) by unfold lentS; rw [r]; rfl)
    rw [r] at HC0
    clear r
    go_enter Try.func10, Try.ntmps10
    go_wp2_with (go_at_call 13; first | (with_reducible refine HC0.out.mono ?_; rintro e w' ⟨rfl, rfl⟩) | (with_reducible refine HC1.out.mono ?_; rintro e w' ⟨rfl, rfl⟩))
    go_ret
    exact ⟨ret_bool HX.out.symm, HB.out⟩
  · have HX := Lib.hid (show lentS fr true x = true by unfold lentS; rw [r]; rfl)
    rw [r] at HC0
    clear r
    go_enter Try.func10, Try.ntmps10
    go_wp2_with (go_at_call 13; first | (with_reducible refine HC0.out.mono ?_; rintro e w' ⟨rfl, rfl⟩) | (with_reducible refine HC1.out.mono ?_; rintro e w' ⟨rfl, rfl⟩))
    go_ret
    exact ⟨ret_bool HX.out.symm, HB.out⟩

end Go.Proofs.Ytgfpncpphpkahaa
