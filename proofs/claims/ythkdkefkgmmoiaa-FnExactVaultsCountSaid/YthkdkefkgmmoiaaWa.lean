/- Values copied as arguments, with what they own; vaults in memory, their sizes and copies. -/
import Derived.Test.YthkdkefkgmmoiaaVlk
import Derived.Test.YthkdkefkgmmoiaaOwv
import Derived.Test.YthkdkefkgmmoiaaGz
namespace Go.Proofs.Ythkdkefkgmmoiaa
open Go.RowKit

def ToVO (c : OCod Val) (v : Val) (w : World) (e : Ending) (w' : World) : Prop :=
  ∃ A' cA' B' cB', e = .returned (.agg #[.string v.ty, .int .i64 v.n, .slice A' v.parts.length cA', .slice B' v.path.length cB']) ∧ OV c 95 3 w.heap.size w'.heap.size w' (.slice A' v.parts.length cA') (.slice B' v.path.length cB') v ∧ Below w.heap.size w w'
def ToOC (c : OCod Val) (P : Val → Prop) : Prop := ∀ (F : Nat → Prop) (A B : Option Addr) (n m cA cB : Nat) (v : Val) (w : World), VRd c.cod F w (.slice A n cA) (.slice B m cB) v → (∀ b, F b → b < w.heap.size) → Smol P v →
    Calls Try.prog 72 #[.agg #[.string v.ty, .int .i64 v.n, .slice A n cA, .slice B m cB]] w (ToVO c v w)

set_option maxRecDepth 100000 in
set_option maxHeartbeats 2000000 in
theorem toValue_ownOf {c : OCod Val} {P : Val → Prop} (IH : ToRow c 95 93 P) : ToOC c P := by
  intro F A B n m cA cB v w h hF hn
  obtain ⟨hn1, hn2, hn3⟩ := hn
  obtain ⟨w0, hw0⟩ : ∃ w0, w0 = ((w.alloc (.cells #[.string v.ty, .int .i64 v.n, .slice A n cA, .slice B m cB] 85)).alloc (.cells #[.string ⟨#[]⟩, .int .i64 0, .slice none 0 0, .slice none 0 0] 95)).alloc (.cells #[.string v.ty, .int .i64 v.n, .slice none 0 0, .slice none 0 0] 95) := ⟨_, rfl⟩
  have hs0 : w0.heap.size = w.heap.size + 3 := by rw [hw0]; simp
  have HP0 := Lib.hid (show Blk w0 w.heap.size 85 #[.string v.ty, .int .i64 v.n, .slice A n cA, .slice B m cB] by rw [hw0]; exact ((Blk.new w _ _).alloc _).alloc _)
  have HR0 := Lib.hid (show Blk w0 (w.heap.size + 1) 95 #[.string ⟨#[]⟩, .int .i64 0, .slice none 0 0, .slice none 0 0] by rw [hw0]; have := (Blk.new (w.alloc (.cells #[.string v.ty, .int .i64 v.n, .slice A n cA, .slice B m cB] 85)) 95 #[.string ⟨#[]⟩, .int .i64 0, .slice none 0 0, .slice none 0 0]).alloc (.cells #[.string v.ty, .int .i64 v.n, .slice none 0 0, .slice none 0 0] 95); simpa using this)
  have HO0 := Lib.hid (show Blk w0 (w.heap.size + 1 + 1) 95 #[.string v.ty, .int .i64 v.n, .slice none 0 0, .slice none 0 0] by rw [hw0]; have := Blk.new ((w.alloc (.cells #[.string v.ty, .int .i64 v.n, .slice A n cA, .slice B m cB] 85)).alloc (.cells #[.string ⟨#[]⟩, .int .i64 0, .slice none 0 0, .slice none 0 0] 95)) 95 #[.string v.ty, .int .i64 v.n, .slice none 0 0, .slice none 0 0]; simpa using this)
  have HW0 := Lib.hid (show Below w.heap.size w w0 by rw [hw0]; exact (((Below.refl _ _).alloc (Nat.le_refl _) _).alloc (by simp) _).alloc (by simp; omega) _)
  have hk0 : ∀ b, F b → w0.heap[b]? = w.heap[b]? := fun b hb => HW0.out.block b (hF b hb)
  have HV := Lib.hid (h.keep (w' := w0) hk0)
  have HFo := Lib.hid hF
  have HF := Lib.hid (show ∀ b, F b → b < w0.heap.size from fun b hb => by have := hF b hb; omega)
  have HC0 := Lib.hid (IH F _ v.parts w0 HV.out.parts HF.out hn1 hn3)
  have HTy := Lib.hid h.ty
  have HNn := Lib.hid h.n
  have Hw0 := Lib.hid hw0
  have Hs0 := Lib.hid hs0
  clear h hF hw0 hs0 hk0 hn3 IH
  go_enter Try.func72, Try.ntmps72
  go_wp2_with fail
  rw [← Hw0.out]
  refine HC0.out.mono ?_
  rintro e w1 ⟨A', cA', rfl, hM⟩
  have hz0 := Hs0.out
  have hs1 := hM.2.size
  have hP1 := HP0.out.below hM.2 (by omega)
  have hR1 := HR0.out.below hM.2 (by omega)
  have hO1 := HO0.out.below hM.2 (by omega)
  obtain ⟨wB, hwB⟩ : ∃ wB, wB = w1.setCell ⟨w.heap.size + 1 + 1, 2, none⟩ (.slice A' v.parts.length cA') := ⟨_, rfl⟩
  have hkB : ∀ b, b ≠ w.heap.size + 1 + 1 → wB.heap[b]? = w1.heap[b]? := fun b h1 => by rw [hwB, Below.heap_setCell _ _ _ _ h1]
  have hsB : wB.heap.size = w1.heap.size := by rw [hwB]; simp [World.setCell]
  have HRB := Lib.hid (show Blk wB (w.heap.size + 1) 95 #[.string ⟨#[]⟩, .int .i64 0, .slice none 0 0, .slice none 0 0] from (hkB _ (by omega)).trans hR1)
  have HOB := Lib.hid (show Blk wB (w.heap.size + 1 + 1) 95 #[.string v.ty, .int .i64 v.n, .slice A' v.parts.length cA', .slice none 0 0] by rw [hwB]; exact hO1.set_ 2 _)
  have HBB := Lib.hid (show Below w.heap.size w wB by rw [hwB]; exact (HW0.out.trans (hM.2.mono HW0.out.size)).setCell (by simp; omega) _)
  have HMB := Lib.hid (hM.1.keep (w' := wB) fun b g1 g2 => hkB b (by omega))
  have HC1 := Lib.hid (to_i64 F _ v.path wB (HV.out.path.keep fun b hb => (hkB b (by have := HFo.out b hb; omega)).trans (hM.2.block b (HF.out b hb))) (fun b hb => by have := HF.out b hb; omega) hn2 (fun _ _ => trivial))
  have c03 := hP1.c2.2.2.2
  have c22 := hO1.c2.2.2.1
  have f22 := hO1.f4.2.2.1
  have HP1 := Lib.hid hP1
  have HwB := Lib.hid hwB
  have HsB := Lib.hid hsB
  have HBl1 := Lib.hid hM.2
  clear hM hP1 hR1 hO1 hwB hkB hsB HC0
  go_wp2_with fail
  rw [← HwB.out]
  refine HC1.out.mono ?_
  rintro e w2 ⟨B', cB', rfl, hM2⟩
  have hs2 := hM2.2.size
  have hzB := HsB.out
  have hR2 := HRB.out.below hM2.2 (by omega)
  have hO2 := HOB.out.below hM2.2 (by omega)
  obtain ⟨x0, x1, x2, x3⟩ := hR2.c2
  obtain ⟨y0, y1, y2, y3⟩ := hR2.f4
  obtain ⟨z0, z1, z2, z3⟩ := hO2.c2
  obtain ⟨t0, t1, t2, t3⟩ := hO2.f4
  obtain ⟨wE, hwE⟩ : ∃ wE, wE = ((((w2.setCell ⟨w.heap.size + 1 + 1, 3, none⟩ (.slice B' v.path.length cB')).setCell ⟨w.heap.size + 1, 0, none⟩ (.string v.ty)).setCell ⟨w.heap.size + 1, 1, none⟩ (.int .i64 v.n)).setCell ⟨w.heap.size + 1, 2, none⟩ (.slice A' v.parts.length cA')).setCell ⟨w.heap.size + 1, 3, none⟩ (.slice B' v.path.length cB') := ⟨_, rfl⟩
  have HRE := Lib.hid (show Blk wE (w.heap.size + 1) 95 #[.string v.ty, .int .i64 v.n, .slice A' v.parts.length cA', .slice B' v.path.length cB'] by rw [hwE]; exact ((((hR2.far (p := ⟨w.heap.size + 1 + 1, 3, none⟩) (by simp) (.slice B' v.path.length cB')).set_ 0 (.string v.ty)).set_ 1 (.int .i64 v.n)).set_ 2 (.slice A' v.parts.length cA')).set_ 3 (.slice B' v.path.length cB'))
  have hkE : ∀ b, b ≠ w.heap.size + 1 → b ≠ w.heap.size + 1 + 1 → wE.heap[b]? = w2.heap[b]? := fun b h1 h2 => by rw [hwE, Below.heap_setCell _ _ _ _ h1, Below.heap_setCell _ _ _ _ h1, Below.heap_setCell _ _ _ _ h1, Below.heap_setCell _ _ _ _ h1, Below.heap_setCell _ _ _ _ h2]
  have hsE : wE.heap.size = w2.heap.size := by rw [hwE]; simp [World.setCell]
  have HWE := Lib.hid (show Below w.heap.size w wE by rw [hwE]; exact (((((HBB.out.trans (hM2.2.mono HBB.out.size)).setCell (by simp; omega) _).setCell (by simp) _).setCell (by simp) _).setCell (by simp) _).setCell (by simp) _)
  have HX0 := Lib.hid ((HMB.out.keep (w' := w2) fun b g1 g2 => hM2.2.block b (by omega)).keep (w' := wE) fun b g1 g2 => hkE b (by omega) (by omega))
  have HX1 := Lib.hid (hM2.1.keep (w' := wE) fun b g1 g2 => hkE b (by omega) (by omega))
  have HQ := Lib.hid (show ToVO c v w (.returned (.agg #[.string v.ty, .int .i64 v.n, .slice A' v.parts.length cA', .slice B' v.path.length cB'])) wE from
    ⟨A', cA', B', cB', rfl, ⟨HTy.out, HNn.out, wB.heap.size, by omega, by omega, HX0.out.mono (by omega) (by omega), HX1.out.mono (by omega) (by omega)⟩, HWE.out⟩)
  have HwE := Lib.hid hwE
  clear hM2 hwE hkE hsE hR2 hO2 HC1
  go_wp2
  rw [← HwE.out]
  obtain ⟨r0, r1, r2, r3⟩ := HRE.out.c2
  exact bodyPost_ret (v := .agg #[.string v.ty, .int .i64 v.n, .slice A' v.parts.length cA', .slice B' v.path.length cB']) (by simp [results, Try.results72, go_sem, r0, r1, r2, r3]) rfl HQ.out

set_option maxRecDepth 100000 in
set_option maxHeartbeats 2000000 in
theorem toValueS_ownOf {c e : OCod Val} (hc : IsVal c.cod e.cod) (hlay : HasEl c.cod → ∀ (lo hi : Nat) (w : World) (a p : Value) (x : Val), OV e 95 3 lo hi w a p x → c.rd lo hi w [.string x.ty, .int .i64 x.n, a, p] x) {P Q : Val → Prop} (IH : HasEl c.cod → ToOC e Q ∧ ∀ x, P x → Smol Q x) : ToRow c 95 93 P := by
  intro F v xs w h hF hn hm
  have HS := Lib.hid h
  have Hm := Lib.hid hm
  have IHH := Lib.hid (fun hp : 0 < xs.length => IH ⟨F, w, v, xs, h, hp⟩)
  have HLay := Lib.hid (fun hp : 0 < xs.length => hlay ⟨F, w, v, xs, h, hp⟩)
  have hcs : c.cod.size = 4 := hc.size
  clear hm IH hlay
  obtain ⟨A, cap, rfl, hlc, hcm, _⟩ := h
  unfold maxLen at hcm
  have hmk := make_len (P := Try.prog) 93 95 _ 4 72 Try.underlying93 info_val (by omega) xs.length hn
  have Hcs := Lib.hid hcs
  clear hcs
  go_enter Try.func93, Try.ntmps93
  go_wp2
  go_loopw [4] (fun i wr => ∃ (k : Nat) (cs : Array Value), k ≤ xs.length ∧ i = .int .i64 k ∧ Blk wr w.heap.size 95 cs ∧ cs.size = xs.length * 4 ∧ OPart c w.heap.size wr cs k xs ∧ Below w.heap.size w wr) (fun i _ => xs.length - (intOf i).toNat)
  case atStart => exact ⟨0, _, Nat.zero_le _, rfl, Blk.new _ _ _, by simp [madeCells], OPart.zero (by simp), (Below.refl _ _).alloc (Nat.le_refl _) _⟩
  case round =>
    obtain ⟨k, cs, hk, rfl, HB, hsz, HP, hb⟩ := hrel
    have HBl := HB.lt
    by_cases hlt : k < xs.length
    · have HSr := Lib.hid (HS.out.keep (below_keeps hb hF))
      obtain ⟨b, off, cap', A2, cA, B2, cB, hv, hFb, _, _, hc0, hc1, hc2, hc3, hV⟩ := HSr.out.val_at hc hlt
      obtain ⟨rfl, rfl⟩ : A = some ⟨b, off, none⟩ ∧ cap = cap' := by simpa using hv
      have HB' := Lib.hid HB
      have HP' := Lib.hid HP
      have Hsz := Lib.hid hsz
      have hws := hb.size
      have HC := Lib.hid ((IHH.out (by omega)).1 F A2 B2 _ _ cA cB xs[k] wr hV (fun b hb' => Nat.lt_of_lt_of_le (hF b hb') hws) ((IHH.out (by omega)).2 _ (Hm.out xs[k] (List.getElem_mem hlt))))
      have HLy := Lib.hid (HLay.out (by omega))
      clear hv HB HP hsz hmk hV
      go_wp2_with fail
      refine HC.out.mono ?_
      rintro e' w1 ⟨A', cA', B', cB', rfl, hO, hbl⟩
      have HB1 := HB'.out.below hbl HBl
      obtain ⟨d0, hd0⟩ := HB1.holds Hsz.out (i := k * 4) (by omega)
      obtain ⟨d1, hd1⟩ := HB1.holds Hsz.out (i := k * 4 + 1) (by omega)
      obtain ⟨d2, hd2⟩ := HB1.holds Hsz.out (i := k * 4 + 2) (by omega)
      obtain ⟨d3, hd3⟩ := HB1.holds Hsz.out (i := k * 4 + 3) (by omega)
      have hf0 := HB1.frozen (k * 4)
      have hf1 := HB1.frozen (k * 4 + 1)
      have hf2 := HB1.frozen (k * 4 + 2)
      have hf3 := HB1.frozen (k * 4 + 3)
      have HBB := Lib.hid HB1
      have hw1 := hbl.size
      have HO := Lib.hid hO
      have HBe := Lib.hid hbl
      clear HB1 hO hbl HC
      go_wp2
      go_roundw
      case rel =>
        obtain ⟨wE, hwE⟩ : ∃ wE, wE = (((w1.setCell ⟨w.heap.size, k * 4, none⟩ (.string xs[k].ty)).setCell ⟨w.heap.size, k * 4 + 1, none⟩ (.int .i64 xs[k].n)).setCell ⟨w.heap.size, k * 4 + 2, none⟩ (.slice A' xs[k].parts.length cA')).setCell ⟨w.heap.size, k * 4 + 3, none⟩ (.slice B' xs[k].path.length cB') := ⟨_, rfl⟩
        rw [← hwE]
        have hk1 : ∀ b, w.heap.size < b → wE.heap[b]? = w1.heap[b]? := fun b hb' => by
          rw [hwE, Below.heap_setCell _ _ _ _ (by simp; omega), Below.heap_setCell _ _ _ _ (by simp; omega), Below.heap_setCell _ _ _ _ (by simp; omega), Below.heap_setCell _ _ _ _ (by simp; omega)]
        have hse : wE.heap.size = w1.heap.size := by rw [hwE]; simp [World.setCell]
        refine ⟨k + 1, _, by omega, by go_num, by rw [hwE]; exact (((HBB.out.set_ _ _).set_ _ _).set_ _ _).set_ _ _, by simp only [Array.size_setIfInBounds]; exact Hsz.out, ?_, ?_⟩
        · refine HP'.out.next (news := [.string xs[k].ty, .int .i64 xs[k].n, .slice A' xs[k].parts.length cA', .slice B' xs[k].path.length cB']) hlt (fun i h1 h2 => (hk1 i h1).trans (HBe.out.block i h2)) (by rw [hse]; exact hw1)
            (fun i hi => by
              rw [Hcs.out] at hi
              simp only [Array.getElem?_setIfInBounds]
              rw [if_neg (by omega), if_neg (by omega), if_neg (by omega), if_neg (by omega)]) (fun j u hu => ?_)
            (HLy.out _ _ _ _ _ _ ((HO.out.keep (w' := wE) fun b g1 g2 => hk1 b (by omega)).mono (Nat.le_refl _) (by omega)))
          rw [Hcs.out]
          have hsz2 := Hsz.out
          match j, hu with
          | 0, hu => simp at hu; subst hu; simp [Array.getElem?_setIfInBounds]; omega
          | 1, hu => simp at hu; subst hu; simp [Array.getElem?_setIfInBounds]; omega
          | 2, hu => simp at hu; subst hu; simp [Array.getElem?_setIfInBounds]; omega
          | 3, hu => simp at hu; subst hu; simp [Array.getElem?_setIfInBounds]; omega
          | j + 4, hu => simp at hu
        · rw [hwE]; exact ((((hb.trans (HBe.out.mono hws)).setCell (by simp) _).setCell (by simp) _).setCell (by simp) _).setCell (by simp) _
      case measure => simp [intOf]; omega
    · obtain rfl : k = xs.length := by omega
      have HM : MadeO c 95 w wr (.slice (some ⟨w.heap.size, 0, none⟩) xs.length xs.length) xs := ⟨HP.own HB (Nat.le_refl _) (Nat.le_refl _) (by unfold maxLen; omega), hb⟩
      clear hmk HB HP
      go_wp2
      go_ret
      exact ⟨_, _, rfl, HM⟩

theorem toValueS_own : ∀ d, ToRow (OCod.val 95 3 d) 95 93 (SmolD d)
  | 0 => toValueS_ownOf (c := OCod.no) (e := OCod.no) (Q := fun _ => True) (IsVal.zero _) (fun h => absurd h no_el) fun h => absurd h no_el
  | d + 1 => toValueS_ownOf (c := (OCod.val 95 3 d).of 95 3) (e := OCod.val 95 3 d) (IsVal.of _) (fun _ _ _ _ _ _ _ h => ⟨_, _, rfl, h⟩) fun _ => ⟨toValue_ownOf (toValueS_own d), fun _ h => h⟩
theorem toValue_own (d : Nat) : ToOC (OCod.val 95 3 d) (SmolD d) := toValue_ownOf (toValueS_own d)
end Go.Proofs.Ythkdkefkgmmoiaa
