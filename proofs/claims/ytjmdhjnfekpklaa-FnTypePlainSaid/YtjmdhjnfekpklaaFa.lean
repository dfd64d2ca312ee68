/- What is drawn for the laws of types; a code as an argument. -/
import Derived.Test.YtjmdhjnfekpklaaDrawe
import Derived.Test.YtjmdhjnfekpklaaFm
import Derived.Test.YtjmdhjnfekpklaaLift
namespace Go.Proofs.Ytjmdhjnfekpklaa
open Go.ChangeShapes Go.WideShapes Go.ChangeAt Go.RowKit Go.Deep

theorem cells_u8 : Try.prog.cellsOf 5 = 1 := by kernel_rfl
theorem opens_u8 : Opens Cod.u8 Try.prog 5 :=
  ⟨cells_u8, fun h => by
    obtain ⟨q, hq, _, hw⟩ := DataW.trod_int Try.underlying5 h
    have h1 : IntKind.u8.min = 0 := rfl
    have h2 : IntKind.u8.max = 255 := rfl
    simp only [Lit.wf, Bool.and_eq_true, decide_eq_true_eq] at hw
    refine ⟨q.toNat, ?_, by omega⟩
    rw [hq, Int.toNat_of_nonneg (by omega)]⟩
set_option maxRecDepth 100000 in
/-- A code, as an argument. -/
theorem open_code {H : Type} {enc : TypeId × Value → H} {w : World} {v : Value} {d : DataW H} {p : List MemPlace} {base : Nat} (hv : Value.okWide Try.prog w .any base 22 v) (h : DataW.Trod enc Try.prog w 0 (fun _ => true) true 22 v d p) : ∃ xs, Cod.u8.Sl (Old w) w v xs := by
  obtain ⟨a, l, c, rfl⟩ := okWide_slice Try.underlying22 hv
  obtain ⟨fuel, hf⟩ := h
  obtain ⟨v, xs, hv, hs⟩ := Opens.sl_read Try.underlying22 opens_u8 (by decide) hf
  simp [Value.cells] at hv
  subst hv
  exact ⟨xs, hs⟩

theorem Made.on {α : Type} {c : Cod α} {W w w' : World} {v : Value} {xs : List α} (h : Made c W w v xs) (hb : Below w.heap.size w w') : Made c W w' v xs :=
  ⟨(h.1.keep (below_keeps hb fun _ hb => hb.2)).mono fun _ hx => ⟨hx.1, Nat.lt_of_lt_of_le hx.2 hb.size⟩, h.2.trans (hb.mono h.2.size)⟩

/-- Drawn kinds, new. -/
def DrawnKs (W : World) (e : Ending) (w' : World) : Prop :=
  ∃ (ad cap : Nat) (ks : Ks), e = .returned (.slice (some ⟨ad, 0, none⟩) ks.length cap) ∧ Made Cod.recs W w' (.slice (some ⟨ad, 0, none⟩) ks.length cap) ks

theorem Step.old {g p N : Nat} {W w w' : World} (h : Step g p N w w') (hb : Below W.heap.size W w) (hg : W.heap.size ≤ g) : Below W.heap.size W w' := hb.trans (below_grown h.grown hg hb.size)

set_option maxHeartbeats 400000 in
theorem drawKindsOk_any (F : Nat → Prop) (v : Value) (xs : List Nat) (w : World) (hv : Cod.u8.Sl F w v xs) (hF : ∀ b, F b → b < w.heap.size) :
    Calls Try.prog 22 #[v] w (DrawnKs w) := by
  go_enter Try.func22, Try.ntmps22
  go_wp2_with fail
  refine (open_any F v xs w hv hF).mono ?_
  rintro e w1 ⟨g, rfl, hg, hr, hb⟩
  have HR := Lib.hid hr
  have HB := Lib.hid hb
  clear hr hb
  go_wp2_with fail
  refine (kinds_any g 0 w1 HR.out (by omega)).mono ?_
  rintro e w2 ⟨ad, cap, ks, rfl, h3, h4, hs, hst⟩
  have HQ := Lib.hid (show DrawnKs w (.returned (.slice (some ⟨ad, 0, none⟩) ks.length cap)) w2 from ⟨ad, cap, ks, rfl, hs.mono fun b hb => ⟨Nat.le_trans HB.out.size hb.1, hb.2⟩, hst.old HB.out hg⟩)
  clear hs hst h4
  go_wp2
  go_ret
  exact HQ.out

def KindS (g p N : Nat) (W0 W : World) (e : Ending) (w' : World) : Prop := ∃ t : ByteArray, t.size ≤ 50 ∧ e = .returned (.string t) ∧ Step g p (N + 30) W0 w' ∧ W.grownBy w' (some g)

set_option maxRecDepth 100000 in
set_option maxHeartbeats 1000000 in
theorem kind_step {F : Nat → Prop} {g p N : Nat} {v : Value} {ks : Ks} {w0 w : World} (h : Step g p N w0 w) (hp : p + N ≤ 80000) (hv : Cod.recs.Sl F w0 v ks) (hF : ∀ b, F b → b < w0.heap.size ∧ b ≠ g) (h1 : ks.length ≤ 10) (h2 : ∀ r ∈ ks, r.length ≤ 10) :
    Calls Try.prog 63 #[.pointer (some ⟨g, 0, none⟩), v] w (KindS g p N w0 w) := by
  have HS := Lib.hid h
  have HV := Lib.hid hv
  have H2 := Lib.hid h2
  obtain ⟨A, cap, rfl, _⟩ := hv
  clear h h2
  go_enter Try.func63, Try.ntmps63
  go_wp2_with fail
  refine (pick_at HS.out (by omega) (by omega)).mono ?_
  rintro e w1 ⟨k, rfl, hk, hS1, hg1⟩
  have HS1 := Lib.hid hS1
  have HG1 := Lib.hid hg1
  clear hS1 hg1 hk
  by_cases hk0 : (k : Int) = 0
  · have hb0 : ((k : Int) == 0) = true := by simpa using hk0
    clear hk0
    go_wp2_with fail
    refine (of_step (w := w1) (xs := [⟨#[110]⟩, ⟨#[83, 48, 57]⟩, ⟨#[]⟩, ⟨#[38, 83, 48, 48]⟩, ⟨#[83]⟩]) HS1.out (by omega) (by simp) rfl (by simp) (by simp) (by intro x hx; simp at hx; rcases hx with rfl | rfl | rfl | rfl | rfl <;> decide)).mono ?_
    rintro e w2 ⟨s, hs, rfl, hS2, hg2⟩
    have HQ := Lib.hid (show KindS g p N w0 w (.returned (.string s)) w2 from ⟨s, by simp at hs; rcases hs with rfl | rfl | rfl | rfl | rfl <;> decide, rfl, hS2.more (by omega), grown_trans HG1.out (grown_trans (World.grownBy_alloc w1 _ _) hg2)⟩)
    clear hs hS2 hg2
    go_wp2
    go_ret
    exact HQ.out
  · have hb0 : ((k : Int) == 0) = false := by simpa using hk0
    clear hk0
    go_wp2_with fail
    go_loopw [5] (fun i wr => ∃ j : Nat, j ≤ 4 ∧ i = .int .i64 j ∧ Hid (Step g p (N + 1 + 6 * j) w0 wr) ∧ Hid (w.grownBy wr (some g))) (fun i _ => 4 - (intOf i).toNat)
    case atStart => exact ⟨0, by omega, rfl, HS1, HG1⟩
    case round =>
      obtain ⟨j, hj, rfl, HSr, HGr⟩ := hrel
      by_cases hlt : j < 4
      · go_wp2_with fail
        refine (type_step HSr.out (by omega) HV.out hF h1 H2.out).mono ?_
        rintro e w2 ⟨t, ht, rfl, hS2, hg2⟩
        have HS2 := Lib.hid hS2
        have HG2 := Lib.hid (grown_trans HGr.out hg2)
        clear hS2 hg2
        by_cases ht3 : t.size = 3
        · have b3 : ((t.size : Int) == 3) = true := by rw [beq_iff_eq]; omega
          clear ht3
          go_wp2
          go_ret
          exact ⟨t, ht, rfl, HS2.out.more (by omega), HG2.out⟩
        · have b3 : ((t.size : Int) == 3) = false := by rw [beq_eq_false_iff_ne]; omega
          clear ht3
          go_wp2
          go_roundw
          case rel => exact ⟨j + 1, by omega, by go_num, HS2.out.more (by omega), HG2⟩
          case measure => simp [intOf]; omega
      · go_wp2
        go_ret
        exact ⟨_, by decide, rfl, HSr.out.more (by omega), HGr.out⟩

/-- Drawn kinds and two texts. -/
def DrawnKtt (W : World) (e : Ending) (w' : World) : Prop :=
  ∃ (ad cap : Nat) (ks : Ks) (t inn : ByteArray), e = .returned (.tuple #[.slice (some ⟨ad, 0, none⟩) ks.length cap, .string t, .string inn]) ∧ t.size ≤ 50 ∧ inn.size ≤ 50 ∧ Made Cod.recs W w' (.slice (some ⟨ad, 0, none⟩) ks.length cap) ks

set_option maxRecDepth 100000 in
set_option maxHeartbeats 1000000 in
theorem drawTypeHolds_any (F : Nat → Prop) (v : Value) (xs : List Nat) (w : World) (hv : Cod.u8.Sl F w v xs) (hF : ∀ b, F b → b < w.heap.size) :
    Calls Try.prog 28 #[v] w (DrawnKtt w) := by
  go_enter Try.func28, Try.ntmps28
  go_wp2_with fail
  refine (open_any F v xs w hv hF).mono ?_
  rintro e w1 ⟨g, rfl, hg, hr, hb⟩
  have HR := Lib.hid hr
  have HB := Lib.hid hb
  have hgl := hr.lt
  clear hr hb
  go_wp2_with fail
  refine (kinds_any g 0 w1 HR.out (by omega)).mono ?_
  rintro e w2 ⟨ad, cap, ks, rfl, h3, h4, hs, hst⟩
  obtain ⟨⟨q, hq, hrq⟩, _⟩ := id hst
  have HO := Lib.hid (hst.old HB.out hg)
  have HS := Lib.hid hs
  have HF2 := Lib.hid (show ∀ b, Fresh w1 w2 b → b < w2.heap.size ∧ b ≠ g from fun b hb => ⟨hb.2, by have := hb.1; omega⟩)
  have H4 := Lib.hid (show ∀ r ∈ ks, r.length ≤ 10 from fun r hr => by have := h4 r hr; omega)
  have HS2 := Lib.hid (show Step g q 0 w2 w2 from Step.start hrq)
  clear hs hst h4 hrq
  go_wp2_with fail
  refine (pick_at HS2.out (by omega) (by omega)).mono ?_
  rintro e w3 ⟨k, rfl, hk, hS3, hg3⟩
  have HS3 := Lib.hid hS3
  clear hS3 hg3 hk
  go_wp2_with fail
  refine (type_step HS3.out (by omega) HS.out HF2.out (by omega) H4.out).mono ?_
  rintro e w4 ⟨t, ht, rfl, hS4, hg4⟩
  have HS4 := Lib.hid hS4
  clear hS4 hg4
  go_wp2_with fail
  refine (kind_step HS4.out (by omega) HS.out HF2.out (by omega) H4.out).mono ?_
  rintro e w5 ⟨inn, hi, rfl, hS5, hg5⟩
  have HQ := Lib.hid (show DrawnKtt w (.returned (.tuple #[.slice (some ⟨ad, 0, none⟩) ks.length cap, .string t, .string inn])) w5 from
    ⟨ad, cap, ks, t, inn, rfl, ht, hi, (HS.out.keep (fun b hb => hS5.grown.block b hb.2 (by have := hb.1; simp; omega))).mono fun b hb => ⟨Nat.le_trans HB.out.size hb.1, Nat.lt_of_lt_of_le hb.2 hS5.grown.size⟩, hS5.old HO.out hg⟩)
  clear hS5 hg5
  go_wp2
  go_ret3
  exact HQ.out
end Go.Proofs.Ytjmdhjnfekpklaa
