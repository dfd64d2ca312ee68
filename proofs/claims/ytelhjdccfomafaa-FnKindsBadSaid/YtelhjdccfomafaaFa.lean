/- What is drawn for the laws of types; a code as an argument. -/
import Derived.Test.YtelhjdccfomafaaDrawe
import Derived.Test.YtelhjdccfomafaaFm
import Derived.Test.YtelhjdccfomafaaFc
namespace Go.Proofs.Ytelhjdccfomafaa
open Go.ChangeShapes Go.WideShapes Go.ChangeAt Go.RowKit Go.Deep

theorem Made.on {α : Type} {c : Cod α} {W w w' : World} {v : Value} {xs : List α} (h : Made c W w v xs) (hb : Below w.heap.size w w') : Made c W w' v xs :=
  ⟨(h.1.keep (below_keeps hb fun _ hb => hb.2)).mono fun _ hx => ⟨hx.1, Nat.lt_of_lt_of_le hx.2 hb.size⟩, h.2.trans (hb.mono h.2.size)⟩

/-- Drawn kinds, new. -/
def DrawnKs (W : World) (e : Ending) (w' : World) : Prop :=
  ∃ (ad cap : Nat) (ks : Ks), e = .returned (.slice (some ⟨ad, 0, none⟩) ks.length cap) ∧ Made Cod.recs W w' (.slice (some ⟨ad, 0, none⟩) ks.length cap) ks

theorem Step.old {g p N : Nat} {W w w' : World} (h : Step g p N w w') (hb : Below W.heap.size W w) (hg : W.heap.size ≤ g) : Below W.heap.size W w' := hb.trans (below_grown h.grown hg hb.size)

def KindS (g p N : Nat) (W0 W : World) (e : Ending) (w' : World) : Prop := ∃ t : ByteArray, t.size ≤ 50 ∧ e = .returned (.string t) ∧ Step g p (N + 30) W0 w' ∧ W.grownBy w' (some g)

set_option maxRecDepth 100000 in
set_option maxHeartbeats 1000000 in
theorem kind_step {F : Nat → Prop} {g p N : Nat} {v : Value} {ks : Ks} {w0 w : World} (h : Step g p N w0 w) (hp : p + N ≤ 8000000) (hv : Cod.recs.Sl F w0 v ks) (hF : ∀ b, F b → b < w0.heap.size ∧ b ≠ g) (h1 : ks.length ≤ 10) (h2 : ∀ r ∈ ks, r.length ≤ 10) :
    Calls Try.prog 27 #[.pointer (some ⟨g, 0, none⟩), v] w (KindS g p N w0 w) := by
  have HS := Lib.hid h
  have HV := Lib.hid hv
  have H2 := Lib.hid h2
  obtain ⟨A, cap, rfl, _⟩ := hv
  clear h h2
  go_enter Try.func27, Try.ntmps27
  go_wp2_with fail
  refine (pick_at HS.out (by omega) (by omega)).mono ?_
  rintro e w1 ⟨k, rfl, hk, hS1, hg1⟩
  have HS1 := Lib.hid hS1
  have HG1 := Lib.hid hg1
  clear hS1 hg1 hk
  by_cases hk0 : (k : Int) = 0
  · have hb0 : ((k : Int) == 0) = true := by simpa using hk0
    clear hk0
    go_wp2_with fail
    refine (of_step (w := w1) (xs := [⟨#[110]⟩, ⟨#[83, 48, 57]⟩, ⟨#[]⟩, ⟨#[38, 83, 48, 48]⟩, ⟨#[83]⟩]) HS1.out (by omega) (by simp) rfl (by simp) (by simp) (by intro x hx; simp at hx; rcases hx with rfl | rfl | rfl | rfl | rfl <;> decide)).mono ?_
    rintro e w2 ⟨s, hs, rfl, hS2, hg2⟩
    have HQ := Lib.hid (show KindS g p N w0 w (.returned (.string s)) w2 from ⟨s, by simp at hs; rcases hs with rfl | rfl | rfl | rfl | rfl <;> decide, rfl, hS2.more (by omega), grown_trans HG1.out (grown_trans (World.grownBy_alloc w1 _ _) hg2)⟩)
    clear hs hS2 hg2
    go_wp2
    go_ret
    exact HQ.out
  · have hb0 : ((k : Int) == 0) = false := by simpa using hk0
    clear hk0
    go_wp2_with fail
    go_loopw [5] (fun i wr => ∃ j : Nat, j ≤ 4 ∧ i = .int .i64 j ∧ Hid (Step g p (N + 1 + 6 * j) w0 wr) ∧ Hid (w.grownBy wr (some g))) (fun i _ => 4 - (intOf i).toNat)
    case atStart => exact ⟨0, by omega, rfl, HS1, HG1⟩
    case round =>
      obtain ⟨j, hj, rfl, HSr, HGr⟩ := hrel
      by_cases hlt : j < 4
      · go_wp2_with fail
        refine (type_step HSr.out (by omega) HV.out hF h1 H2.out).mono ?_
        rintro e w2 ⟨t, ⟨ht, _⟩, rfl, hS2, hg2⟩
        have HS2 := Lib.hid hS2
        have HG2 := Lib.hid (grown_trans HGr.out hg2)
        clear hS2 hg2
        by_cases ht3 : t.size = 3
        · have b3 : ((t.size : Int) == 3) = true := by rw [beq_iff_eq]; omega
          clear ht3
          go_wp2
          go_ret
          exact ⟨t, ht, rfl, HS2.out.more (by omega), HG2.out⟩
        · have b3 : ((t.size : Int) == 3) = false := by rw [beq_eq_false_iff_ne]; omega
          clear ht3
          go_wp2
          go_roundw
          case rel => exact ⟨j + 1, by omega, by go_num, HS2.out.more (by omega), HG2⟩
          case measure => simp [intOf]; omega
      · go_wp2
        go_ret
        exact ⟨_, by decide, rfl, HSr.out.more (by omega), HGr.out⟩

/-- Drawn kinds and two texts. -/
def DrawnKtt (W : World) (e : Ending) (w' : World) : Prop :=
  ∃ (ad cap : Nat) (ks : Ks) (t inn : ByteArray), e = .returned (.tuple #[.slice (some ⟨ad, 0, none⟩) ks.length cap, .string t, .string inn]) ∧ t.size ≤ 50 ∧ inn.size ≤ 50 ∧ Made Cod.recs W w' (.slice (some ⟨ad, 0, none⟩) ks.length cap) ks

end Go.Proofs.Ytelhjdccfomafaa
