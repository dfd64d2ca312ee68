/- Values of a call's own: marked. Values held: what has been marked reads so. -/
import Derived.Test.YtemlpiokdoeeeaaMk
namespace Go.Proofs.Ytemlpiokdoeeeaa
open Go.RowKit

def HasO {α : Type} (c : OCod α) : Prop := ∃ lo hi w cs x, c.rd lo hi w cs x
structure IsO (c e : OCod Val) (tv ti : TypeId) : Prop where
  size : c.cod.size = 4
  rd : ∀ {lo hi : Nat} {w : World} {cs : List Value} {x : Val}, c.rd lo hi w cs x → ∃ a p, cs = [.string x.ty, .int .i64 x.n, a, p] ∧ OV e tv ti lo hi w a p x
  back : HasO c → ∀ {lo hi : Nat} {w : World} {a p : Value} {x : Val}, OV e tv ti lo hi w a p x → c.rd lo hi w [.string x.ty, .int .i64 x.n, a, p] x
theorem IsO.of (c : OCod Val) (tv ti : TypeId) : IsO (c.of tv ti) c tv ti := ⟨rfl, fun h => h, fun _ _ _ _ _ _ _ h => ⟨_, _, rfl, h⟩⟩
theorem IsO.no (e : OCod Val) (tv ti : TypeId) : IsO OCod.no e tv ti := ⟨rfl, fun h => h.elim, fun h => by obtain ⟨_, _, _, _, _, h⟩ := h; exact h.elim⟩
theorem no_o : ¬ HasO OCod.no := fun ⟨_, _, _, _, _, h⟩ => h

def mkOf (g : Val → Nat → Val × Nat) (v : Val) (k : Nat) : Val × Nat :=
  (.mk (mt k) ((k + 1 : Nat) : Int) (markL g v.parts (k + 2)).1 (markL mkI v.path (markL g v.parts (k + 2)).2).1, (markL mkI v.path (markL g v.parts (k + 2)).2).2)
def mkV : Nat → Val → Nat → Val × Nat
  | 0 => fun v k => (v, k)
  | d + 1 => mkOf (mkV d)
theorem mkOf_le {g : Val → Nat → Val × Nat} (h : ∀ x k, k ≤ (g x k).2) (v : Val) (k : Nat) : k + 2 ≤ (markL g v.parts (k + 2)).2 ∧ (markL g v.parts (k + 2)).2 ≤ (mkOf g v k).2 :=
  ⟨markL_le h _ _, markL_le (f := mkI) (fun _ k => Nat.le_succ k) _ _⟩
theorem mkV_le : ∀ d x k, k ≤ (mkV d x k).2
  | 0, _, _ => Nat.le_refl _
  | d + 1, x, k => by have := mkOf_le (mkV_le d) x k; show k ≤ (mkOf (mkV d) x k).2; omega

def MvC (c : OCod Val) (f : Val → Nat → Val × Nat) : Prop := ∀ (lo hi k : Nat) (v : Value) (xs : List Val) (w : World), Own c 31 lo hi w v xs → hi ≤ w.heap.size → 0 < k → (markL f xs k).2 ≤ 100000000 →
    Calls Try.prog 63 #[v, .int .i64 k] w (MarkD c 31 lo hi w v (markL f xs k).1 (markL f xs k).2)

set_option maxRecDepth 100000 in
set_option maxHeartbeats 2000000 in
theorem markValueS_of {c e : OCod Val} {f g : Val → Nat → Val × Nat} (hc : IsO c e 31 3) (hf : ∀ x k, k ≤ (f x k).2) (IH : HasO c → MvC e g ∧ f = mkOf g ∧ ∀ x k, k ≤ (g x k).2) : MvC c f := by
  intro lo hi k v xs w h hhi h0 h1
  have HO := Lib.hid h
  have HIH := Lib.hid IH
  have HM := Lib.hid (MarkAt.start f xs k)
  obtain ⟨A, cap, rfl, hlc, hcm⟩ := h.len_
  unfold maxLen at hcm
  clear h IH
  go_enter Try.func63, Try.ntmps63
  go_wp2
  go_loopw [5, 1] (fun i kk wr => ∃ (j kj : Nat) (done : List Val), j ≤ xs.length ∧ i = .int .i64 j ∧ kk = .int .i64 kj ∧ 0 < kj ∧ Hid (MarkAt f xs k done j kj) ∧ Hid (Own c 31 lo hi wr (.slice A xs.length cap) (done ++ xs.drop j)) ∧ Hid (Wrote lo hi w wr)) (fun i _ _ => xs.length - (intOf i).toNat)
  case atStart => exact ⟨0, k, [], Nat.zero_le _, rfl, rfl, h0, HM, HO, Wrote.refl _ _ _⟩
  case round =>
    obtain ⟨j, kj, done, hj, rfl, rfl, hk0, HMr, HOr, HWr⟩ := hrel
    by_cases hlt : j < xs.length
    · have hst := HMr.out.step hlt
      have hroom2 := hst.room hf
      have hg := HMr.out.get_ hlt
      have hl := HMr.out.len hj
      obtain ⟨b, cap', cs, p, q, ds, hv, _, _, hb1, hb2, hB, hp, hq, hpq, hcell, hrd, hup⟩ := HOr.out.at hg.1
      rw [hg.2 hg.1] at hrd
      rw [hc.size] at hcell hup
      obtain ⟨ihm, ihf, ihg⟩ := HIH.out ⟨_, _, _, _, _, hrd⟩
      have HBack := Lib.hid (fun (w' : World) (a p_ : Value) (y : Val) (hy : OV e 31 3 p q w' a p_ y) => hc.back ⟨_, _, _, _, _, hrd⟩ hy)
      obtain ⟨a, pa, rfl, hty, hn, m, hm1, hm2, hOp, hOq⟩ := hc.rd hrd
      rw [hl] at hv
      obtain ⟨rfl, rfl⟩ : A = some ⟨b, 0, none⟩ ∧ cap = cap' := by simpa using hv
      obtain ⟨Aa, ca, rfl, ha1, ha2⟩ := hOp.len_
      obtain ⟨Ab, cb, rfl, hb1', hb2'⟩ := hOq.len_
      unfold maxLen at ha2 hb2'
      have c0 : cs[j * 4]? = some (.string xs[j].ty) := hcell 0 _ rfl
      have c1 := hcell 1 _ rfl
      have c2 := hcell 2 _ rfl
      have c3 := hcell 3 _ rfl
      have hjc : j * 4 + 3 < cs.size := (Array.getElem?_eq_some_iff.1 c3).1
      have hfx : f xs[j] kj = mkOf g xs[j] kj := by rw [ihf]
      have hle := mkOf_le ihg xs[j] kj
      rw [hfx] at hst hroom2
      have Hup := Lib.hid hup
      have HB := Lib.hid hB
      have Hst := Lib.hid hst
      have IHM := Lib.hid ihm
      have HOp := Lib.hid hOp
      have HOq := Lib.hid hOq
      have hk1 : kj + 2 ≤ 100000000 := by omega
      have hk2 : (markL g xs[j].parts (kj + 2)).2 ≤ 100000000 := by omega
      have hk3 : (markL mkI xs[j].path (markL g xs[j].parts (kj + 2)).2).2 ≤ 100000000 := by have : (mkOf g xs[j] kj).2 = (markL mkI xs[j].path (markL g xs[j].parts (kj + 2)).2).2 := rfl; omega
      have hkp : 0 < (markL g xs[j].parts (kj + 2)).2 := by omega
      have hsw := HWr.out.size
      have hbl : b < wr.heap.size := by omega
      clear hv hB hcell hrd hup hst hg hl ihm ihf ihg hOp hOq hfx hroom2
      go_wp2_with fail
      refine (markText_any kj wr hk0 (by omega)).mono ?_
      rintro e w1 ⟨rfl, hbe⟩
      have hB1 := HB.out.below hbe hbl
      have hd0 := hB1.cell (j * 4)
      rw [c0] at hd0
      have hf0 := hB1.frozen (j * 4)
      have hB2 := hB1.set_ (j * 4) (.string (mt kj))
      have hd1 := hB2.cell (j * 4 + 1)
      rw [Array.getElem?_setIfInBounds_ne (by omega), c1] at hd1
      have hf1 := hB2.frozen (j * 4 + 1)
      have HBe := Lib.hid hbe
      have hB3 := hB2.set_ (j * 4 + 1) (.int .i64 (kj + 1))
      have hd2 := hB3.cell (j * 4 + 2)
      rw [Array.getElem?_setIfInBounds_ne (by omega), Array.getElem?_setIfInBounds_ne (by omega), c2] at hd2
      have HB3 := Lib.hid hB3
      obtain ⟨w3, hw3⟩ : ∃ w3, w3 = (w1.setCell ⟨b, j * 4, none⟩ (.string (mt kj))).setCell ⟨b, j * 4 + 1, none⟩ (.int .i64 (kj + 1)) := ⟨_, rfl⟩
      have hk3' : ∀ b', b' < wr.heap.size → b' ≠ b → w3.heap[b']? = wr.heap[b']? := fun b' g1 g2 => by
        rw [hw3, Below.heap_setCell _ _ _ _ (by simp; omega), Below.heap_setCell _ _ _ _ (by simp; omega)]
        exact hbe.block b' g1
      have hs3 : wr.heap.size ≤ w3.heap.size := by rw [hw3]; simpa [World.setCell] using hbe.size
      have hB3' : Blk w3 b 31 ((cs.setIfInBounds (j * 4) (.string (mt kj))).setIfInBounds (j * 4 + 1) (.int .i64 (kj + 1))) := by rw [hw3]; exact hB3
      have hOp3 : Own e 31 p m w3 (.slice Aa xs[j].parts.length ca) xs[j].parts := HOp.out.keep fun b' g1 g2 => hk3' b' (by omega) (by omega)
      have hOq3 : Own OCod.i64 3 m q w3 (.slice Ab xs[j].path.length cb) xs[j].path := HOq.out.keep fun b' g1 g2 => hk3' b' (by omega) (by omega)
      have hC : Calls Try.prog 63 #[.slice Aa xs[j].parts.length ca, .int .i64 ((kj : Int) + 1 + 1)] w3 (MarkD e 31 p m w3 (.slice Aa xs[j].parts.length ca) (markL g xs[j].parts (kj + 2)).1 (markL g xs[j].parts (kj + 2)).2) := by
        have := IHM.out p m (kj + 2) _ xs[j].parts w3 hOp3 (by omega) (by omega) hk2
        rw [show ((kj + 2 : Nat) : Int) = (kj : Int) + 1 + 1 by omega] at this
        exact this
      have hW3 : Wrote lo hi wr w3 := by
        rw [hw3]
        exact ((Wrote.of_below hbe).trans (Wrote.set_ hb1 hb2 _)).trans (Wrote.set_ hb1 hb2 _)
      have HK3 := Lib.hid hk3'
      have HOq3 := Lib.hid hOq3
      have HBv := Lib.hid hB3'
      have HW3 := Lib.hid hW3
      rw [hw3] at hC
      have HC := Lib.hid hC
      clear hbe hB1 hB2 hB3 hk3' hB3' hOp3 hOq3 hW3 hC HOp HOq HBe HB3
      go_wp2_with fail
      rw [← hw3]
      have hC := HC.out
      rw [← hw3] at hC
      refine hC.mono ?_
      rintro e w4 ⟨rfl, hO4, hW4⟩
      have hB4 : Blk w4 b 31 ((cs.setIfInBounds (j * 4) (.string (mt kj))).setIfInBounds (j * 4 + 1) (.int .i64 (kj + 1))) := (hW4.block b (by omega) (by omega)).trans HBv.out
      have hd3 := hB4.cell (j * 4 + 3)
      rw [Array.getElem?_setIfInBounds_ne (by omega), Array.getElem?_setIfInBounds_ne (by omega), c3] at hd3
      have hs4 := hW4.size
      have HO4 := Lib.hid hO4
      have HW4 := Lib.hid hW4
      have HB4 := Lib.hid hB4
      have HM4 := Lib.hid (markIntS_any m q (markL g xs[j].parts (kj + 2)).2 _ xs[j].path w4 (HOq3.out.keep fun b' g1 g2 => hW4.block b' (by omega) (by omega)) hkp hk3)
      clear hO4 hW4 hB4 hC hd0 hf0 hd1 hf1 hd2
      go_wp2_with fail
      refine HM4.out.mono ?_
      rintro e w5 ⟨rfl, hO5, hW5⟩
      have hs5 := hW5.size
      have HO5 := Lib.hid hO5
      have HW5 := Lib.hid hW5
      clear hO5 hW5 HM4
      go_wp2
      go_roundw
      case rel =>
        refine ⟨j + 1, (mkOf g xs[j] kj).2, done ++ [(mkOf g xs[j] kj).1], by omega, by go_num, rfl, by omega, Hst, ?_, ?_⟩
        · have hB5 : Blk w5 b 31 ((cs.setIfInBounds (j * 4) (.string (mt kj))).setIfInBounds (j * 4 + 1) (.int .i64 (kj + 1))) := (HW5.out.block b (by omega) (by omega)).trans HB4.out
          have hV : OV e 31 3 p q w5 (.slice Aa xs[j].parts.length ca) (.slice Ab xs[j].path.length cb) (mkOf g xs[j] kj).1 :=
            ⟨mt_size (by omega), by show I64 ((kj + 1 : Nat) : Int); unfold I64; omega, m, hm1, hm2, HO4.out.keep fun b' g1 g2 => HW5.out.block b' (by omega) (by omega), HO5.out⟩
          have := Hup.out w5 _ _ (mkOf g xs[j] kj).1 hB5
            (fun i hi => by rw [Array.getElem?_setIfInBounds_ne (by omega), Array.getElem?_setIfInBounds_ne (by omega)])
            (fun i u hu => ?_) (HBack.out _ _ _ _ hV)
            (fun b' g1 g2 g3 g4 => (HW5.out.block b' (by omega) (by omega)).trans ((HW4.out.block b' (by omega) (by omega)).trans (HK3.out b' (by omega) g4)))
          · rw [HMr.out.set_ hlt] at this
            exact this
          · match i, hu with
            | 0, hu => simp at hu; subst hu; show ((cs.setIfInBounds (j * 4) _).setIfInBounds (j * 4 + 1) _)[j * 4]? = _; rw [Array.getElem?_setIfInBounds_ne (by omega), Array.getElem?_setIfInBounds_self_of_lt (by omega)]; rfl
            | 1, hu => simp at hu; subst hu; rw [Array.getElem?_setIfInBounds_self_of_lt (by simp; omega)]; rfl
            | 2, hu => simp at hu; subst hu; rw [Array.getElem?_setIfInBounds_ne (by omega), Array.getElem?_setIfInBounds_ne (by omega), c2]
            | 3, hu => simp at hu; subst hu; rw [Array.getElem?_setIfInBounds_ne (by omega), Array.getElem?_setIfInBounds_ne (by omega), c3]
            | i + 4, hu => simp at hu
        · exact HWr.out.trans (HW3.out.trans ((HW4.out.mono (by omega) (by omega)).trans (HW5.out.mono (by omega) (by omega))))
      case measure => simp [intOf]; omega
    · obtain rfl : j = xs.length := by omega
      obtain ⟨e1, e2⟩ := HMr.out.end_ rfl
      have HQ := Lib.hid (show MarkD c 31 lo hi w (.slice A xs.length cap) (markL f xs k).1 (markL f xs k).2 (.returned (.int .i64 kj)) wr from ⟨by rw [e2], by rw [← e1]; simpa using HOr.out, HWr.out⟩)
      clear e1 e2
      go_wp2
      go_ret
      exact HQ.out

theorem markValueS_any : ∀ d, MvC (OCod.val 31 3 d) (mkV d)
  | 0 => markValueS_of (e := OCod.no) (g := fun v k => (v, k)) (IsO.no _ _ _) (mkV_le 0) fun h => absurd h no_o
  | d + 1 => markValueS_of (IsO.of _ _ _) (mkV_le (d + 1)) fun _ => ⟨markValueS_any d, rfl, mkV_le d⟩

def MarkVD (d lo hi : Nat) (w : World) (a p : Value) (y : Val) (k : Nat) (e : Ending) (w' : World) : Prop :=
  e = .returned (.int .i64 k) ∧ OV (OCod.val 31 3 d) 31 3 lo hi w' a p y ∧ Wrote lo hi w w'
/-- A value marked, itself not: its text and its number are no memory. -/
def mkTop (g : Val → Nat → Val × Nat) (v : Val) (k : Nat) : Val × Nat :=
  (.mk v.ty v.n (markL g v.parts k).1 (markL mkI v.path (markL g v.parts k).2).1, (markL mkI v.path (markL g v.parts k).2).2)

set_option maxRecDepth 100000 in
set_option maxHeartbeats 1000000 in
theorem markValue_any (d lo hi k : Nat) (A B : Option Addr) (n m cA cB : Nat) (v : Val) (w : World) (h : OV (OCod.val 31 3 d) 31 3 lo hi w (.slice A n cA) (.slice B m cB) v) (hhi : hi ≤ w.heap.size) (h0 : 0 < k) (h1 : (mkTop (mkV d) v k).2 ≤ 100000000) :
    Calls Try.prog 25 #[.agg #[.string v.ty, .int .i64 v.n, .slice A n cA, .slice B m cB], .int .i64 k] w (MarkVD d lo hi w (.slice A n cA) (.slice B m cB) (mkTop (mkV d) v k).1 (mkTop (mkV d) v k).2) := by
  have HB := Lib.hid (Blk.new w 31 #[.string v.ty, .int .i64 v.n, .slice A n cA, .slice B m cB])
  obtain ⟨hty, hn, mm, hm1, hm2, hOp, hOq⟩ := h
  obtain ⟨A', cA', hA, hA1, hA2⟩ := hOp.len_
  obtain ⟨B', cB', hB, hB1, hB2⟩ := hOq.len_
  simp only [Value.slice.injEq] at hA hB
  obtain ⟨rfl, rfl, rfl⟩ := hA
  obtain ⟨rfl, rfl, rfl⟩ := hB
  unfold maxLen at hA2 hB2
  have hl1 := markL_le (mkV_le d) v.parts k
  have hl2 := markL_le (f := mkI) (fun _ k => Nat.le_succ k) v.path (markL (mkV d) v.parts k).2
  have hk2 : (markL (mkV d) v.parts k).2 ≤ 100000000 := Nat.le_trans hl2 h1
  have hkk : ∀ b', b' < w.heap.size → (w.alloc (.cells #[.string v.ty, .int .i64 v.n, .slice A v.parts.length cA, .slice B v.path.length cB] 31)).heap[b']? = w.heap[b']? := fun b' g => Below.heap_alloc _ _ _ g
  have hwa : (w.alloc (.cells #[.string v.ty, .int .i64 v.n, .slice A v.parts.length cA, .slice B v.path.length cB] 31)).heap.size = w.heap.size + 1 := by simp
  have HC1 := Lib.hid (markValueS_any d lo mm k _ v.parts (w.alloc (.cells #[.string v.ty, .int .i64 v.n, .slice A v.parts.length cA, .slice B v.path.length cB] 31)) (hOp.keep fun b' g1 g2 => hkk b' (by omega)) (by omega) h0 hk2)
  have HOq := Lib.hid (hOq.keep (w' := w.alloc (.cells #[.string v.ty, .int .i64 v.n, .slice A v.parts.length cA, .slice B v.path.length cB] 31)) fun b' g1 g2 => hkk b' (by omega))
  have Hty := Lib.hid hty
  have Hn := Lib.hid hn
  have HWa := Lib.hid (show Wrote lo hi w (w.alloc (.cells #[.string v.ty, .int .i64 v.n, .slice A v.parts.length cA, .slice B v.path.length cB] 31)) from Wrote.of_below ((Below.refl _ _).alloc (Nat.le_refl _) _))
  clear hOp hOq hkk hty hn
  go_enter Try.func25, Try.ntmps25
  go_wp2_with fail
  refine HC1.out.mono ?_
  rintro e w1 ⟨rfl, hO1, hW1⟩
  have hB1' : Blk w1 w.heap.size 31 #[.string v.ty, .int .i64 v.n, .slice A v.parts.length cA, .slice B v.path.length cB] := (hW1.block w.heap.size (by omega) (by omega)).trans HB.out
  obtain ⟨x0, x1, x2, x3⟩ := hB1'.c2
  have hs1 := hW1.size
  have HO1 := Lib.hid hO1
  have HW1 := Lib.hid hW1
  have HC2 := Lib.hid (markIntS_any mm hi (markL (mkV d) v.parts k).2 _ v.path w1 (HOq.out.keep fun b' g1 g2 => hW1.block b' (by omega) (by omega)) (by omega) h1)
  clear hO1 hW1 hB1' HC1
  go_wp2_with fail
  refine HC2.out.mono ?_
  rintro e w2 ⟨rfl, hO2, hW2⟩
  have HQ := Lib.hid (show MarkVD d lo hi w (.slice A v.parts.length cA) (.slice B v.path.length cB) (mkTop (mkV d) v k).1 (mkTop (mkV d) v k).2 (.returned (.int .i64 (mkTop (mkV d) v k).2)) w2 from
    ⟨rfl, ⟨Hty.out, Hn.out, mm, hm1, hm2, HO1.out.keep fun b' g1 g2 => hW2.block b' (by omega) (by omega), hO2⟩, HWa.out.trans ((HW1.out.mono (Nat.le_refl _) hm2).trans (hW2.mono hm1 (Nat.le_refl _)))⟩)
  clear hO2 hW2 HC2
  go_wp2
  go_ret
  exact HQ.out
end Go.Proofs.Ytemlpiokdoeeeaa

namespace Go.Proofs.Ytemlpiokdoeeeaa
open Go.RowKit

set_option maxRecDepth 100000 in
set_option maxHeartbeats 1000000 in
theorem heldIntS_any (F : Nat → Prop) (k : Nat) (v : Value) (xs : List Int) (w : World) (h : Cod.i64.Sl F w v (markL mkI xs k).1) (h0 : 0 < k) (h1 : (markL mkI xs k).2 ≤ 100000000) :
    Calls Try.prog 66 #[v, .int .i64 k] w fun e w' => e = .returned (.int .i64 (markL mkI xs k).2) ∧ w' = w := by
  have HO := Lib.hid h
  have HM := Lib.hid (MarkAt.start mkI xs k)
  obtain ⟨A, cap, rfl, hlc, hcm, hx_⟩ := h
  clear hx_
  unfold maxLen at hcm
  rw [markL_length] at hlc HO ⊢
  go_enter Try.func66, Try.ntmps66
  go_wp2
  go_loopw [5, 1] (fun i kk wr => ∃ (j kj : Nat) (done : List Int), j ≤ xs.length ∧ i = .int .i64 j ∧ kk = .int .i64 kj ∧ 0 < kj ∧ Hid (MarkAt mkI xs k done j kj) ∧ wr = w) (fun i _ _ => xs.length - (intOf i).toNat)
  case atStart => exact ⟨0, k, [], Nat.zero_le _, rfl, rfl, h0, HM, rfl⟩
  case round =>
    obtain ⟨j, kj, done, hj, rfl, rfl, hk0, HMr, rfl⟩ := hrel
    by_cases hlt : j < xs.length
    · have hst := HMr.out.step hlt
      have hroom2 := hst.room (f := mkI) (fun _ k => Nat.le_succ k)
      obtain ⟨hh, hg⟩ := HMr.out.nth hlt
      obtain ⟨b, off, cap', hv, hFb, _, _, hc0, hi0⟩ := HO.out.i64_at hh
      rw [hg] at hc0
      rw [markL_length] at hv
      obtain ⟨rfl, rfl⟩ : A = some ⟨b, off, none⟩ ∧ cap = cap' := by simpa using hv
      have hc0' : wr.cell? ⟨b, off + j, none⟩ = some (.int .i64 kj) := hc0
      have hk1 : kj + 1 ≤ 100000000 := Nat.le_trans hroom2 h1
      have Hst := Lib.hid hst
      clear hv hc0 hst hg hroom2 hh hi0
      go_wp2
      go_roundw
      case rel => exact ⟨j + 1, kj + 1, _, by omega, by go_num, by go_num, by omega, Hst, by first | rfl | trivial⟩
      case measure => simp [intOf]; omega
    · obtain rfl : j = xs.length := by omega
      obtain ⟨e1, e2⟩ := HMr.out.end_ rfl
      have HQ := Lib.hid e2
      clear e1 e2
      go_wp2
      go_ret
      exact ⟨ret_int (by rw [HQ.out]), rfl⟩

def HvC (c : Cod Val) (f : Val → Nat → Val × Nat) : Prop := ∀ (F : Nat → Prop) (k : Nat) (v : Value) (xs : List Val) (w : World), c.Sl F w v (markL f xs k).1 → (∀ b, F b → b < w.heap.size) → 0 < k → (markL f xs k).2 ≤ 100000000 →
    Calls Try.prog 65 #[v, .int .i64 k] w fun e w' => e = .returned (.int .i64 (markL f xs k).2) ∧ Below w.heap.size w w'

set_option maxRecDepth 100000 in
set_option maxHeartbeats 4000000 in
theorem heldValueS_of {c e : Cod Val} {f g : Val → Nat → Val × Nat} (hc : IsVal c e) (hf : ∀ x k, k ≤ (f x k).2) (IH : HasEl c → HvC e g ∧ f = mkOf g ∧ ∀ x k, k ≤ (g x k).2) : HvC c f := by
  intro F k v xs w h hF h0 h1
  have HO := Lib.hid h
  have HIH := Lib.hid (fun hp : 0 < (markL f xs k).1.length => IH ⟨F, w, v, _, h, hp⟩)
  have HM := Lib.hid (MarkAt.start f xs k)
  obtain ⟨A, cap, rfl, hlc, hcm, hx_⟩ := h
  clear hx_ IH
  unfold maxLen at hcm
  rw [markL_length] at hlc HO HIH ⊢
  go_enter Try.func65, Try.ntmps65
  go_wp2
  go_loopw [5, 1] (fun i kk wr => ∃ (j kj : Nat) (done : List Val), j ≤ xs.length ∧ i = .int .i64 j ∧ kk = .int .i64 kj ∧ 0 < kj ∧ Hid (MarkAt f xs k done j kj) ∧ Hid (Below w.heap.size w wr)) (fun i _ _ => xs.length - (intOf i).toNat)
  case atStart => exact ⟨0, k, [], Nat.zero_le _, rfl, rfl, h0, HM, Below.refl _ _⟩
  case round =>
    obtain ⟨j, kj, done, hj, rfl, rfl, hk0, HMr, HBe⟩ := hrel
    by_cases hlt : j < xs.length
    · have hst := HMr.out.step hlt
      have hroom2 := hst.room hf
      obtain ⟨hh, hg⟩ := HMr.out.nth hlt
      obtain ⟨ihm, ihf, ihg⟩ := HIH.out (by omega)
      have hfx : f xs[j] kj = mkOf g xs[j] kj := by rw [ihf]
      rw [hfx] at hg hst hroom2
      have hle := mkOf_le ihg xs[j] kj
      have HOr := Lib.hid (HO.out.keep (below_keeps HBe.out hF))
      obtain ⟨b, off, cap', Aa, ca, Ab, cb, hv, hFb, _, _, hc0, hc1, hc2, hc3, hV⟩ := HOr.out.val_at hc hh
      rw [hg] at hc0 hc1 hc2 hc3 hV
      rw [markL_length] at hv
      obtain ⟨rfl, rfl⟩ : A = some ⟨b, off, none⟩ ∧ cap = cap' := by simpa using hv
      have l1 : (mkOf g xs[j] kj).1.parts.length = xs[j].parts.length := markL_length _ _ _
      have l2 : (mkOf g xs[j] kj).1.path.length = xs[j].path.length := markL_length _ _ _
      rw [l1] at hc2 hV
      rw [l2] at hc3 hV
      have d0 : wr.cell? ⟨b, off + j * 4, none⟩ = some (.string (mt kj)) := hc0
      have d1 : wr.cell? ⟨b, off + j * 4 + 1, none⟩ = some (.int .i64 ((kj : Int) + 1)) := hc1
      obtain ⟨_, _, hpe, hpe1, hpe2, hpe3⟩ := hV.parts
      obtain ⟨_, _, hqe, hqe1, hqe2, hqe3⟩ := hV.path
      simp only [Value.slice.injEq] at hpe hqe
      obtain ⟨rfl, hz1, rfl⟩ := hpe
      obtain ⟨rfl, hz2, rfl⟩ := hqe
      clear hpe3 hqe3 hz1 hz2
      rw [l1] at hpe1
      rw [l2] at hqe1
      unfold maxLen at hpe2 hqe2
      have hk1 : kj + 2 ≤ 100000000 := by omega
      have hk2 : (markL g xs[j].parts (kj + 2)).2 ≤ 100000000 := by omega
      have hk3 : (markL mkI xs[j].path (markL g xs[j].parts (kj + 2)).2).2 ≤ 100000000 := Nat.le_trans hroom2 h1
      have hkp : 0 < (markL g xs[j].parts (kj + 2)).2 := by omega
      have hFr : ∀ b, F b → b < wr.heap.size := fun b hb => Nat.lt_of_lt_of_le (hF b hb) HBe.out.size
      have hbl := hFr b hFb
      have HV := Lib.hid hV
      have Hst := Lib.hid hst
      have IHM := Lib.hid ihm
      have HFr := Lib.hid hFr
      have HT := Lib.hid (markText_any kj wr.drew hk0 (by omega))
      have hbd : b < wr.drew.heap.size := hbl
      have HBd := Lib.hid (show Below w.heap.size w wr.drew from HBe.out.drew)
      clear hv hc0 hc1 hst hg ihm ihf ihg hfx hV hFr hroom2 hle
      go_wp2_with fail
      go_region_with (go_at_call 62; (with_reducible refine HT.out.mono ?_); rintro e w1 ⟨rfl, hb1⟩; go_must (have HB1 := Lib.hid hb1; have y0 : w1.cell? ⟨b, off + j * 4, none⟩ = some (.string (mt kj)) := (hb1.cell (p := ⟨b, off + j * 4, none⟩) hbd).trans d0; have y1 : w1.cell? ⟨b, off + j * 4 + 1, none⟩ = some (.int .i64 ((kj : Int) + 1)) := (hb1.cell (p := ⟨b, off + j * 4 + 1, none⟩) hbd).trans d1; have y2 : w1.cell? ⟨b, off + j * 4 + 2, none⟩ = some (.slice Aa xs[j].parts.length ca) := (hb1.cell (p := ⟨b, off + j * 4 + 2, none⟩) hbd).trans hc2; have y3 : w1.cell? ⟨b, off + j * 4 + 3, none⟩ = some (.slice Ab xs[j].path.length cb) := (hb1.cell (p := ⟨b, off + j * 4 + 3, none⟩) hbd).trans hc3; clear hb1))
      all_goals
        have HE1 := Lib.hid (HBd.out.trans (HB1.out.mono HBd.out.size))
        have HV1 := Lib.hid ((HV.out.drew).keep (w' := w1) (fun b hb => HB1.out.block b (HFr.out b hb)))
        have HF1 := Lib.hid (show ∀ b, F b → b < w1.heap.size from fun b hb => Nat.lt_of_lt_of_le (HFr.out b hb) HB1.out.size)
        have hC : Calls Try.prog 65 #[.slice Aa xs[j].parts.length ca, .int .i64 ((kj : Int) + 1 + 1)] w1 fun e w' => e = .returned (.int .i64 (markL g xs[j].parts (kj + 2)).2) ∧ Below w1.heap.size w1 w' := by
          have := IHM.out F (kj + 2) (.slice Aa xs[j].parts.length ca) xs[j].parts w1 HV1.out.parts HF1.out (by omega) hk2
          rw [show ((kj + 2 : Nat) : Int) = (kj : Int) + 1 + 1 by omega] at this
          exact this
        have HC := Lib.hid hC
        clear hC
        go_wp2_with fail
        refine HC.out.mono ?_
        rintro e w2 ⟨rfl, hb2⟩
        have z3 : w2.cell? ⟨b, off + j * 4 + 3, none⟩ = some (.slice Ab xs[j].path.length cb) := (hb2.cell (p := ⟨b, off + j * 4 + 3, none⟩) (HF1.out b hFb)).trans y3
        have HC2 := Lib.hid (heldIntS_any F (markL g xs[j].parts (kj + 2)).2 (.slice Ab xs[j].path.length cb) xs[j].path w2 (HV1.out.path.keep (below_keeps hb2 HF1.out)) hkp hk3)
        have HE2 := Lib.hid (HE1.out.trans (hb2.mono HE1.out.size))
        clear hb2 HC y0 y1 y2 y3
        go_wp2_with (go_at_call 66; refine HC2.out.mono ?_; rintro e w3 ⟨rfl, rfl⟩)
        go_roundw
        case rel => exact ⟨j + 1, (mkOf g xs[j] kj).2, _, by omega, by go_num, rfl, by have := mkOf_le (g := g) (fun x k => (HIH.out (by omega)).2.2 x k) xs[j] kj; omega, Hst, HE2⟩
        case measure => simp [intOf]; omega
    · obtain rfl : j = xs.length := by omega
      obtain ⟨e1, e2⟩ := HMr.out.end_ rfl
      have HQ := Lib.hid e2
      clear e1 e2
      go_wp2
      go_ret
      exact ⟨ret_int (by rw [HQ.out]), HBe.out⟩

theorem heldValueS_any : ∀ d, HvC (Cod.val d) (mkV d)
  | 0 => heldValueS_of (e := Cod.no) (g := fun v k => (v, k)) (IsVal.zero _) (mkV_le 0) fun h => absurd h no_el
  | d + 1 => heldValueS_of (IsVal.of _) (mkV_le (d + 1)) fun _ => ⟨heldValueS_any d, rfl, mkV_le d⟩

set_option maxRecDepth 100000 in
set_option maxHeartbeats 1000000 in
theorem heldValue_any (d : Nat) (F : Nat → Prop) (k : Nat) (A B : Option Addr) (n m cA cB : Nat) (v : Val) (w : World) (h : VRd (Cod.val d) F w (.slice A n cA) (.slice B m cB) (mkTop (mkV d) v k).1) (hF : ∀ b, F b → b < w.heap.size) (h0 : 0 < k) (h1 : (mkTop (mkV d) v k).2 ≤ 100000000) :
    Calls Try.prog 26 #[.agg #[.string v.ty, .int .i64 v.n, .slice A n cA, .slice B m cB], .int .i64 k] w fun e w' => e = .returned (.int .i64 (mkTop (mkV d) v k).2) ∧ Below w.heap.size w w' := by
  have HB := Lib.hid (Blk.new w 31 #[.string v.ty, .int .i64 v.n, .slice A n cA, .slice B m cB])
  have hl1 := markL_le (mkV_le d) v.parts k
  have hl2 := markL_le (f := mkI) (fun _ k => Nat.le_succ k) v.path (markL (mkV d) v.parts k).2
  have hk2 : (markL (mkV d) v.parts k).2 ≤ 100000000 := Nat.le_trans hl2 h1
  have hk1 : ∀ b, F b → (w.alloc (.cells #[.string v.ty, .int .i64 v.n, .slice A n cA, .slice B m cB] 31)).heap[b]? = w.heap[b]? := fun b hb => Below.heap_alloc _ _ _ (hF b hb)
  have HV1 := Lib.hid (h.keep hk1)
  have HF1 := Lib.hid (show ∀ b, F b → b < (w.alloc (.cells #[.string v.ty, .int .i64 v.n, .slice A n cA, .slice B m cB] 31)).heap.size from fun b hb => by have := hF b hb; simp; omega)
  have HC1 := Lib.hid (heldValueS_any d F k _ v.parts _ HV1.out.parts HF1.out h0 hk2)
  clear h hk1
  go_enter Try.func26, Try.ntmps26
  go_wp2_with fail
  refine HC1.out.mono ?_
  rintro e w1 ⟨rfl, hb1⟩
  obtain ⟨x0, x1, x2, x3⟩ := (HB.out.below hb1 (by simp)).c2
  have HC2 := Lib.hid (heldIntS_any F (markL (mkV d) v.parts k).2 (.slice B m cB) v.path w1 (HV1.out.path.keep (below_keeps hb1 HF1.out)) (by omega) h1)
  have HE := Lib.hid (((Below.refl w.heap.size w).alloc (Nat.le_refl _) (.cells #[.string v.ty, .int .i64 v.n, .slice A n cA, .slice B m cB] 31)).trans (hb1.mono (by simp)))
  clear hb1 HC1
  go_wp2_with (go_at_call 66; refine HC2.out.mono ?_; rintro e w2 ⟨rfl, rfl⟩)
  all_goals
    go_ret
    exact ⟨rfl, HE.out⟩
end Go.Proofs.Ytemlpiokdoeeeaa
