/- The model's ShelfFunc: a function copied row by row, whichever order the rows are copied in. -/
import Derived.Test.YthhheipinogcoaaOrd
import Derived.Test.YthhheipinogcoaaGk
import Derived.Test.YthhheipinogcoaaGj
namespace Go.Proofs.Ythhheipinogcoaa
open Go.RowKit

/-- Blocks that have come since the two of the function itself. -/
def Nw (W w : World) (b : Nat) : Prop := W.heap.size + 2 ≤ b ∧ b < w.heap.size
def CopyR (x : FunR) (W w : World) (cs : Array Value) : Prop :=
  ∃ (B1 B2 B3 B4 B5 : Option Addr) (d1 d2 d3 d4 d5 : Nat), cs = #[.int .i64 x.seen, .slice B1 x.args.length d1, .slice B2 x.rets.length d2, .slice B3 x.locals.length d3, .slice B4 x.takes.length d4, .slice B5 x.code.length d5] ∧ Cod.str.Sl (Nw W w) w (.slice B1 x.args.length d1) x.args ∧ Cod.str.Sl (Nw W w) w (.slice B2 x.rets.length d2) x.rets ∧ Cod.str.Sl (Nw W w) w (.slice B3 x.locals.length d3) x.locals ∧ Cod.i64.Sl (Nw W w) w (.slice B4 x.takes.length d4) x.takes ∧ Cod.insr.Sl (Nw W w) w (.slice B5 x.code.length d5) x.code
/-- What operation i leaves in its slot. -/
def CopyF (x : FunR) (A1 A2 A3 A4 A5 : Option Addr) (c1 c2 c3 c4 c5 : Nat) (W : World) : Nat → Value → World → Prop
  | 0, u, _ => u = .pointer (some ⟨W.heap.size, 0, none⟩)
  | 1, u, _ => u = .int .i64 x.seen
  | 2, u, _ => ∃ g, u = .slice (some ⟨g, 0, none⟩) 0 0
  | 3, u, _ => u = .pointer (some ⟨W.heap.size, 1, none⟩)
  | 4, u, _ => u = .slice A1 x.args.length c1
  | 5, u, w => ∃ B d, u = .slice B x.args.length d ∧ Cod.str.Sl (Nw W w) w (.slice B x.args.length d) x.args
  | 6, u, _ => ∃ g, u = .slice (some ⟨g, 0, none⟩) 0 0
  | 7, u, _ => u = .pointer (some ⟨W.heap.size, 2, none⟩)
  | 8, u, _ => u = .slice A2 x.rets.length c2
  | 9, u, w => ∃ B d, u = .slice B x.rets.length d ∧ Cod.str.Sl (Nw W w) w (.slice B x.rets.length d) x.rets
  | 10, u, _ => ∃ g, u = .slice (some ⟨g, 0, none⟩) 0 0
  | 11, u, _ => u = .pointer (some ⟨W.heap.size, 3, none⟩)
  | 12, u, _ => u = .slice A3 x.locals.length c3
  | 13, u, w => ∃ B d, u = .slice B x.locals.length d ∧ Cod.str.Sl (Nw W w) w (.slice B x.locals.length d) x.locals
  | 14, u, _ => ∃ g, u = .slice (some ⟨g, 0, none⟩) 0 0
  | 15, u, _ => u = .pointer (some ⟨W.heap.size, 4, none⟩)
  | 16, u, _ => u = .slice A4 x.takes.length c4
  | 17, u, w => ∃ B d, u = .slice B x.takes.length d ∧ Cod.i64.Sl (Nw W w) w (.slice B x.takes.length d) x.takes
  | 18, u, _ => ∃ g, u = .slice (some ⟨g, 0, none⟩) 0 0
  | 19, u, _ => u = .pointer (some ⟨W.heap.size, 5, none⟩)
  | 20, u, _ => u = .slice A5 x.code.length c5
  | 21, u, w => ∃ B d, u = .slice B x.code.length d ∧ Cod.insr.Sl (Nw W w) w (.slice B x.code.length d) x.code
  | 22, u, w => ∃ cs, u = .agg cs ∧ CopyR x W w cs
  | 23, _, w => ∃ cs, Blk w (W.heap.size + 1) 37 cs ∧ CopyR x W w cs
  | _, _, _ => True
theorem CopyR.keep {x : FunR} {W w w' : World} {cs : Array Value} (hs : w.heap.size ≤ w'.heap.size) (hk : ∀ b, W.heap.size + 2 ≤ b → b < w.heap.size → w'.heap[b]? = w.heap[b]?) (h : CopyR x W w cs) : CopyR x W w' cs := by
  obtain ⟨B1, B2, B3, B4, B5, d1, d2, d3, d4, d5, h0, h1, h2, h3, h4, h5⟩ := h
  have e1 : ∀ b, Nw W w b → w'.heap[b]? = w.heap[b]? := fun b hb => hk b hb.1 hb.2
  have e2 : ∀ b, Nw W w b → Nw W w' b := fun b hb => ⟨hb.1, Nat.lt_of_lt_of_le hb.2 hs⟩
  exact ⟨B1, B2, B3, B4, B5, d1, d2, d3, d4, d5, h0, (h1.keep e1).mono e2, (h2.keep e1).mono e2, (h3.keep e1).mono e2, (h4.keep e1).mono e2, (h5.keep e1).mono e2⟩
theorem CopyF.keep {x : FunR} {A1 A2 A3 A4 A5 : Option Addr} {c1 c2 c3 c4 c5 : Nat} {W : World} {w w' : World} (hs : w.heap.size ≤ w'.heap.size) (hk : ∀ b, W.heap.size + 2 ≤ b → b < w.heap.size → w'.heap[b]? = w.heap[b]?) : ∀ {i : Nat} {u : Value}, i < 23 → CopyF x A1 A2 A3 A4 A5 c1 c2 c3 c4 c5 W i u w → CopyF x A1 A2 A3 A4 A5 c1 c2 c3 c4 c5 W i u w' := by
  have e1 : ∀ b, Nw W w b → w'.heap[b]? = w.heap[b]? := fun b hb => hk b hb.1 hb.2
  have e2 : ∀ b, Nw W w b → Nw W w' b := fun b hb => ⟨hb.1, Nat.lt_of_lt_of_le hb.2 hs⟩
  intro i u hi h
  match i, h with
  | 0, h => exact h
  | 1, h => exact h
  | 2, h => exact h
  | 3, h => exact h
  | 4, h => exact h
  | 5, h => obtain ⟨B, d, h1, h2⟩ := h; exact ⟨B, d, h1, (h2.keep e1).mono e2⟩
  | 6, h => exact h
  | 7, h => exact h
  | 8, h => exact h
  | 9, h => obtain ⟨B, d, h1, h2⟩ := h; exact ⟨B, d, h1, (h2.keep e1).mono e2⟩
  | 10, h => exact h
  | 11, h => exact h
  | 12, h => exact h
  | 13, h => obtain ⟨B, d, h1, h2⟩ := h; exact ⟨B, d, h1, (h2.keep e1).mono e2⟩
  | 14, h => exact h
  | 15, h => exact h
  | 16, h => exact h
  | 17, h => obtain ⟨B, d, h1, h2⟩ := h; exact ⟨B, d, h1, (h2.keep e1).mono e2⟩
  | 18, h => exact h
  | 19, h => exact h
  | 20, h => exact h
  | 21, h => obtain ⟨B, d, h1, h2⟩ := h; exact ⟨B, d, h1, (h2.keep e1).mono e2⟩
  | 22, h => obtain ⟨cs, h1, h2⟩ := h; exact ⟨cs, h1, h2.keep hs hk⟩
  | 23, h => omega
  | i + 24, h => omega
theorem set6 {cs : Array Value} (h : cs.size = 6) {a b c d e f : Value} : (((((cs.setIfInBounds 0 a).setIfInBounds 1 b).setIfInBounds 2 c).setIfInBounds 3 d).setIfInBounds 4 e).setIfInBounds 5 f = #[a, b, c, d, e, f] := by
  obtain ⟨l⟩ := cs
  match l, h with
  | [_, _, _, _, _, _], _ => rfl
structure CopyI (x : FunR) (A1 A2 A3 A4 A5 : Option Addr) (c1 c2 c3 c4 c5 : Nat) (W : World) (l : Array Bool) (a : Act) (w : World) : Prop where
  size : l.size = 24
  tmps : a.tmps.size = 26
  defers : a.defers = []
  src : a.eval (.tmp 1) = .pointer (some ⟨W.heap.size, 0, none⟩)
  dst : a.eval (.tmp 2) = .pointer (some ⟨W.heap.size + 1, 0, none⟩)
  below : Below W.heap.size W w
  room : W.heap.size + 2 ≤ w.heap.size
  srcB : Blk w W.heap.size 37 #[.int .i64 x.seen, .slice A1 x.args.length c1, .slice A2 x.rets.length c2, .slice A3 x.locals.length c3, .slice A4 x.takes.length c4, .slice A5 x.code.length c5]
  dstB : ∃ cs, cs.size = 6 ∧ Blk w (W.heap.size + 1) 37 cs
  facts : ∀ i, i < 24 → l.getD i false = true → CopyF x A1 A2 A3 A4 A5 c1 c2 c3 c4 c5 W i (a.eval (.tmp (i + 3))) w
theorem CopyI.step {x : FunR} {A1 A2 A3 A4 A5 : Option Addr} {c1 c2 c3 c4 c5 : Nat} {W : World} {l : Array Bool} {a : Act} {w w' : World} (h : CopyI x A1 A2 A3 A4 A5 c1 c2 c3 c4 c5 W l a w) (i : Nat) (hi : i < 23) (v : Value) (hb : Below w.heap.size w w') (hF : CopyF x A1 A2 A3 A4 A5 c1 c2 c3 c4 c5 W i v w') : CopyI x A1 A2 A3 A4 A5 c1 c2 c3 c4 c5 W (l.setIfInBounds i true) (a.put (some (i + 3)) v) w' where
  size := by rw [Array.size_setIfInBounds]; exact h.size
  tmps := by rw [Act.size_put]; exact h.tmps
  defers := by rw [Act.defers_put']; exact h.defers
  src := by rw [Act.eval_put_ne _ _ _ _ (by omega)]; exact h.src
  dst := by rw [Act.eval_put_ne _ _ _ _ (by omega)]; exact h.dst
  below := h.below.trans (hb.mono h.below.size)
  room := Nat.le_trans h.room hb.size
  srcB := h.srcB.below hb (by have := h.room; omega)
  dstB := by obtain ⟨cs, h1, h2⟩ := h.dstB; exact ⟨cs, h1, h2.below hb (by have := h.room; omega)⟩
  facts := fun j hj hl => by
    by_cases he : j = i
    · subst he
      rw [Act.eval_put_same _ _ _ (by rw [h.tmps]; omega)]
      exact hF
    · rw [Act.eval_put_ne _ _ _ _ (by omega)]
      have hl' : l.getD j false = true := by
        rw [Array.getD_eq_getD_getElem?, Array.getElem?_setIfInBounds_ne (Ne.symm he)] at hl
        rwa [Array.getD_eq_getD_getElem?]
      have hf := h.facts j hj hl'
      by_cases h23 : j = 23
      · subst h23
        obtain ⟨cs, h1, h2⟩ := hf
        exact ⟨cs, h1.below hb (by have := h.room; omega), h2.keep hb.size fun b _ g => hb.block b g⟩
      · exact CopyF.keep hb.size (fun b _ g => hb.block b g) (by omega) hf
theorem CopyI.was {x : FunR} {A1 A2 A3 A4 A5 : Option Addr} {c1 c2 c3 c4 c5 : Nat} {W : World} {l : Array Bool} {a : Act} {w : World} (h : CopyI x A1 A2 A3 A4 A5 c1 c2 c3 c4 c5 W l a w) {i : Nat} (hi : i < 24) (hl : l.getD i false = true) : CopyF x A1 A2 A3 A4 A5 c1 c2 c3 c4 c5 W i (a.eval (.tmp (i + 3))) w := h.facts i hi hl


set_option maxRecDepth 100000 in
set_option maxHeartbeats 4000000 in
theorem l4Copy_any (F : Nat → Prop) (x : FunR) (A1 A2 A3 A4 A5 : Option Addr) (c1 c2 c3 c4 c5 : Nat) (w : World) (h : FunIn F w x A1 A2 A3 A4 A5 c1 c2 c3 c4 c5) (hF : ∀ b, F b → b < w.heap.size) (hsm : SmolFunr x) :
    Calls Try.prog 40 #[funV x A1 A2 A3 A4 A5 c1 c2 c3 c4 c5] w fun e w' => ∃ B1 B2 B3 B4 B5 d1 d2 d3 d4 d5, e = .returned (funV x B1 B2 B3 B4 B5 d1 d2 d3 d4 d5) ∧ FunIn (fun b => w.heap.size ≤ b ∧ b < w'.heap.size) w' x B1 B2 B3 B4 B5 d1 d2 d3 d4 d5 ∧ Below w.heap.size w w' := by
  obtain ⟨w0, hw0⟩ : ∃ w0, w0 = (w.alloc (.cells #[.int .i64 x.seen, .slice A1 x.args.length c1, .slice A2 x.rets.length c2, .slice A3 x.locals.length c3, .slice A4 x.takes.length c4, .slice A5 x.code.length c5] 37)).alloc (.cells #[.int .i64 0, .slice none 0 0, .slice none 0 0, .slice none 0 0, .slice none 0 0, .slice none 0 0] 37) := ⟨_, rfl⟩
  have hI : CopyI x A1 A2 A3 A4 A5 c1 c2 c3 c4 c5 w (Array.replicate 24 false) ⟨#[funV x A1 A2 A3 A4 A5 c1 c2 c3 c4 c5, .pointer (some ⟨w.heap.size, 0, none⟩), .pointer (some ⟨w.heap.size + 1, 0, none⟩), undef, undef, undef, undef, undef, undef, undef, undef, undef, undef, undef, undef, undef, undef, undef, undef, undef, undef, undef, undef, undef, undef, undef], []⟩ { w0 with drawn := w0.drawn + 1 } := by
    refine ⟨rfl, rfl, rfl, rfl, rfl, ?_, ?_, ?_, ⟨#[.int .i64 0, .slice none 0 0, .slice none 0 0, .slice none 0 0, .slice none 0 0, .slice none 0 0], rfl, ?_⟩, fun i _ hl => ?_⟩
    · rw [hw0]; exact (((Below.refl _ _).alloc (Nat.le_refl _) _).alloc (by simp) _).drew
    · rw [hw0]; show _ ≤ (World.alloc _ _).heap.size; simp
    · rw [hw0]; exact ((Blk.new w _ _).alloc _ : Blk _ _ _ _)
    · rw [hw0]; have := Blk.new (w.alloc (.cells #[.int .i64 x.seen, .slice A1 x.args.length c1, .slice A2 x.rets.length c2, .slice A3 x.locals.length c3, .slice A4 x.takes.length c4, .slice A5 x.code.length c5] 37)) 37 #[.int .i64 0, .slice none 0 0, .slice none 0 0, .slice none 0 0, .slice none 0 0, .slice none 0 0]; simp only [World.size_alloc] at this; exact this
    · rw [Array.getD_eq_getD_getElem?, Array.getElem?_replicate] at hl; split at hl <;> cases hl
  have HI := Lib.hid hI
  have HV := Lib.hid h
  have HF := Lib.hid hF
  have HS := Lib.hid hsm
  have Hw0 := Lib.hid hw0
  clear hI h hF hsm hw0
  unfold funV at HI ⊢
  go_enter Try.func40, Try.ntmps40
  go_wp2_with fail
  rw [← Hw0.out]
  refine wp_region_inv (Checked.mixed Try.checked) (CopyI x A1 A2 A3 A4 A5 c1 c2 c3 c4 c5 w) (by kernel_rfl) (fun l a w h => h.size) HI.out ?_ ?_
  · intro l a wr i hi hil hlf haf
    have hi24 : i < 24 := hil
    have hsrc := hi.src
    have hdst := hi.dst
    obtain ⟨z0, z1, z2, z3, z4, z5⟩ := hi.srcB.g6
    have hcases : i = 0 ∨ i = 1 ∨ i = 2 ∨ i = 3 ∨ i = 4 ∨ i = 5 ∨ i = 6 ∨ i = 7 ∨ i = 8 ∨ i = 9 ∨ i = 10 ∨ i = 11 ∨ i = 12 ∨ i = 13 ∨ i = 14 ∨ i = 15 ∨ i = 16 ∨ i = 17 ∨ i = 18 ∨ i = 19 ∨ i = 20 ∨ i = 21 ∨ i = 22 ∨ i = 23 := by omega
    rcases hcases with rfl | rfl | rfl | rfl | rfl | rfl | rfl | rfl | rfl | rfl | rfl | rfl | rfl | rfl | rfl | rfl | rfl | rfl | rfl | rfl | rfl | rfl | rfl | rfl
    · exact wpOp_run rfl rfl (by revert hsrc; generalize a.eval = ρ; intro hsrc; simp [execOp, hsrc, go_sem]) (hi.step 0 (by omega) (.pointer (some ⟨w.heap.size, 0, none⟩)) (Below.refl _ _) rfl)
    · have hp : a.eval (.tmp 3) = .pointer (some ⟨w.heap.size, 0, none⟩) := hi.was (i := 0) (by omega) (haf _ rfl ⟨0, .data⟩ (by simp) rfl)
      exact wpOp_run rfl rfl (by revert hp; generalize a.eval = ρ; intro hp; simp [execOp, hp, go_sem, z0]) (hi.step 1 (by omega) (.int .i64 x.seen) (Below.refl _ _) rfl)
    · exact wpOp_run (w' := wr.alloc (.cells #[] 9)) rfl rfl (by simp [execOp, go_sem]) (hi.step 2 (by omega) (.slice (some ⟨wr.heap.size, 0, none⟩) 0 0) ((Below.refl _ _).alloc (Nat.le_refl _) _) ⟨_, rfl⟩)
    · exact wpOp_run rfl rfl (by revert hsrc; generalize a.eval = ρ; intro hsrc; simp [execOp, hsrc, go_sem]) (hi.step 3 (by omega) (.pointer (some ⟨w.heap.size, 1, none⟩)) (Below.refl _ _) rfl)
    · have hp : a.eval (.tmp 6) = .pointer (some ⟨w.heap.size, 1, none⟩) := hi.was (i := 3) (by omega) (haf _ rfl ⟨3, .data⟩ (by simp) rfl)
      exact wpOp_run rfl rfl (by revert hp; generalize a.eval = ρ; intro hp; simp [execOp, hp, go_sem, z1]) (hi.step 4 (by omega) (.slice A1 x.args.length c1) (Below.refl _ _) rfl)
    · obtain ⟨g, hp⟩ : ∃ g, a.eval (.tmp 5) = .slice (some ⟨g, 0, none⟩) 0 0 := hi.was (i := 2) (by omega) (haf _ rfl ⟨2, .data⟩ (by simp) rfl)
      have hq : a.eval (.tmp 7) = .slice A1 x.args.length c1 := hi.was (i := 4) (by omega) (haf _ rfl ⟨4, .data⟩ (by simp) rfl)
      obtain ⟨B, d, w1, happ, hM⟩ := append_clone (P := Try.prog) flat_str 33 33 9 _ 1 16 Try.underlying33 info_str rfl (by omega) F _ x.args wr (HV.out.args.keep (below_keeps (Below.mono hi.below (Nat.le_refl _)) HF.out)) HS.out.1 g
      exact wpOp_run rfl rfl (by revert hp hq; generalize a.eval = ρ; intro hp hq; simp [execOp, resolve, invoke, builtin, hp, hq, happ, Result.andThen]) (hi.step 5 (by omega) _ hM.2 ⟨B, d, rfl, hM.1.sl.mono fun b hb => ⟨Nat.le_trans hi.room hb.1, hb.2⟩⟩)
    · exact wpOp_run (w' := wr.alloc (.cells #[] 9)) rfl rfl (by simp [execOp, go_sem]) (hi.step 6 (by omega) (.slice (some ⟨wr.heap.size, 0, none⟩) 0 0) ((Below.refl _ _).alloc (Nat.le_refl _) _) ⟨_, rfl⟩)
    · exact wpOp_run rfl rfl (by revert hsrc; generalize a.eval = ρ; intro hsrc; simp [execOp, hsrc, go_sem]) (hi.step 7 (by omega) (.pointer (some ⟨w.heap.size, 2, none⟩)) (Below.refl _ _) rfl)
    · have hp : a.eval (.tmp 10) = .pointer (some ⟨w.heap.size, 2, none⟩) := hi.was (i := 7) (by omega) (haf _ rfl ⟨7, .data⟩ (by simp) rfl)
      exact wpOp_run rfl rfl (by revert hp; generalize a.eval = ρ; intro hp; simp [execOp, hp, go_sem, z2]) (hi.step 8 (by omega) (.slice A2 x.rets.length c2) (Below.refl _ _) rfl)
    · obtain ⟨g, hp⟩ : ∃ g, a.eval (.tmp 9) = .slice (some ⟨g, 0, none⟩) 0 0 := hi.was (i := 6) (by omega) (haf _ rfl ⟨6, .data⟩ (by simp) rfl)
      have hq : a.eval (.tmp 11) = .slice A2 x.rets.length c2 := hi.was (i := 8) (by omega) (haf _ rfl ⟨8, .data⟩ (by simp) rfl)
      obtain ⟨B, d, w1, happ, hM⟩ := append_clone (P := Try.prog) flat_str 33 33 9 _ 1 16 Try.underlying33 info_str rfl (by omega) F _ x.rets wr (HV.out.rets.keep (below_keeps (Below.mono hi.below (Nat.le_refl _)) HF.out)) HS.out.2.1 g
      exact wpOp_run rfl rfl (by revert hp hq; generalize a.eval = ρ; intro hp hq; simp [execOp, resolve, invoke, builtin, hp, hq, happ, Result.andThen]) (hi.step 9 (by omega) _ hM.2 ⟨B, d, rfl, hM.1.sl.mono fun b hb => ⟨Nat.le_trans hi.room hb.1, hb.2⟩⟩)
    · exact wpOp_run (w' := wr.alloc (.cells #[] 9)) rfl rfl (by simp [execOp, go_sem]) (hi.step 10 (by omega) (.slice (some ⟨wr.heap.size, 0, none⟩) 0 0) ((Below.refl _ _).alloc (Nat.le_refl _) _) ⟨_, rfl⟩)
    · exact wpOp_run rfl rfl (by revert hsrc; generalize a.eval = ρ; intro hsrc; simp [execOp, hsrc, go_sem]) (hi.step 11 (by omega) (.pointer (some ⟨w.heap.size, 3, none⟩)) (Below.refl _ _) rfl)
    · have hp : a.eval (.tmp 14) = .pointer (some ⟨w.heap.size, 3, none⟩) := hi.was (i := 11) (by omega) (haf _ rfl ⟨11, .data⟩ (by simp) rfl)
      exact wpOp_run rfl rfl (by revert hp; generalize a.eval = ρ; intro hp; simp [execOp, hp, go_sem, z3]) (hi.step 12 (by omega) (.slice A3 x.locals.length c3) (Below.refl _ _) rfl)
    · obtain ⟨g, hp⟩ : ∃ g, a.eval (.tmp 13) = .slice (some ⟨g, 0, none⟩) 0 0 := hi.was (i := 10) (by omega) (haf _ rfl ⟨10, .data⟩ (by simp) rfl)
      have hq : a.eval (.tmp 15) = .slice A3 x.locals.length c3 := hi.was (i := 12) (by omega) (haf _ rfl ⟨12, .data⟩ (by simp) rfl)
      obtain ⟨B, d, w1, happ, hM⟩ := append_clone (P := Try.prog) flat_str 33 33 9 _ 1 16 Try.underlying33 info_str rfl (by omega) F _ x.locals wr (HV.out.locals.keep (below_keeps (Below.mono hi.below (Nat.le_refl _)) HF.out)) HS.out.2.2.1 g
      exact wpOp_run rfl rfl (by revert hp hq; generalize a.eval = ρ; intro hp hq; simp [execOp, resolve, invoke, builtin, hp, hq, happ, Result.andThen]) (hi.step 13 (by omega) _ hM.2 ⟨B, d, rfl, hM.1.sl.mono fun b hb => ⟨Nat.le_trans hi.room hb.1, hb.2⟩⟩)
    · exact wpOp_run (w' := wr.alloc (.cells #[] 3)) rfl rfl (by simp [execOp, go_sem]) (hi.step 14 (by omega) (.slice (some ⟨wr.heap.size, 0, none⟩) 0 0) ((Below.refl _ _).alloc (Nat.le_refl _) _) ⟨_, rfl⟩)
    · exact wpOp_run rfl rfl (by revert hsrc; generalize a.eval = ρ; intro hsrc; simp [execOp, hsrc, go_sem]) (hi.step 15 (by omega) (.pointer (some ⟨w.heap.size, 4, none⟩)) (Below.refl _ _) rfl)
    · have hp : a.eval (.tmp 18) = .pointer (some ⟨w.heap.size, 4, none⟩) := hi.was (i := 15) (by omega) (haf _ rfl ⟨15, .data⟩ (by simp) rfl)
      exact wpOp_run rfl rfl (by revert hp; generalize a.eval = ρ; intro hp; simp [execOp, hp, go_sem, z4]) (hi.step 16 (by omega) (.slice A4 x.takes.length c4) (Below.refl _ _) rfl)
    · obtain ⟨g, hp⟩ : ∃ g, a.eval (.tmp 17) = .slice (some ⟨g, 0, none⟩) 0 0 := hi.was (i := 14) (by omega) (haf _ rfl ⟨14, .data⟩ (by simp) rfl)
      have hq : a.eval (.tmp 19) = .slice A4 x.takes.length c4 := hi.was (i := 16) (by omega) (haf _ rfl ⟨16, .data⟩ (by simp) rfl)
      obtain ⟨B, d, w1, happ, hM⟩ := append_clone (P := Try.prog) flat_i64 34 34 3 _ 1 8 Try.underlying34 info_int rfl (by omega) F _ x.takes wr (HV.out.takes.keep (below_keeps (Below.mono hi.below (Nat.le_refl _)) HF.out)) HS.out.2.2.2.1 g
      exact wpOp_run rfl rfl (by revert hp hq; generalize a.eval = ρ; intro hp hq; simp [execOp, resolve, invoke, builtin, hp, hq, happ, Result.andThen]) (hi.step 17 (by omega) _ hM.2 ⟨B, d, rfl, hM.1.sl.mono fun b hb => ⟨Nat.le_trans hi.room hb.1, hb.2⟩⟩)
    · exact wpOp_run (w' := wr.alloc (.cells #[] 78)) rfl rfl (by simp [execOp, go_sem]) (hi.step 18 (by omega) (.slice (some ⟨wr.heap.size, 0, none⟩) 0 0) ((Below.refl _ _).alloc (Nat.le_refl _) _) ⟨_, rfl⟩)
    · exact wpOp_run rfl rfl (by revert hsrc; generalize a.eval = ρ; intro hsrc; simp [execOp, hsrc, go_sem]) (hi.step 19 (by omega) (.pointer (some ⟨w.heap.size, 5, none⟩)) (Below.refl _ _) rfl)
    · have hp : a.eval (.tmp 22) = .pointer (some ⟨w.heap.size, 5, none⟩) := hi.was (i := 19) (by omega) (haf _ rfl ⟨19, .data⟩ (by simp) rfl)
      exact wpOp_run rfl rfl (by revert hp; generalize a.eval = ρ; intro hp; simp [execOp, hp, go_sem, z5]) (hi.step 20 (by omega) (.slice A5 x.code.length c5) (Below.refl _ _) rfl)
    · obtain ⟨g, hp⟩ : ∃ g, a.eval (.tmp 21) = .slice (some ⟨g, 0, none⟩) 0 0 := hi.was (i := 18) (by omega) (haf _ rfl ⟨18, .data⟩ (by simp) rfl)
      have hq : a.eval (.tmp 23) = .slice A5 x.code.length c5 := hi.was (i := 20) (by omega) (haf _ rfl ⟨20, .data⟩ (by simp) rfl)
      obtain ⟨B, d, w1, happ, hM⟩ := append_clone (P := Try.prog) flat_insr 35 35 78 _ 3 32 Try.underlying35 info_insr rfl (by omega) F _ x.code wr (HV.out.code.keep (below_keeps (Below.mono hi.below (Nat.le_refl _)) HF.out)) HS.out.2.2.2.2.1 g
      exact wpOp_run rfl rfl (by revert hp hq; generalize a.eval = ρ; intro hp hq; simp [execOp, resolve, invoke, builtin, hp, hq, happ, Result.andThen]) (hi.step 21 (by omega) _ hM.2 ⟨B, d, rfl, hM.1.sl.mono fun b hb => ⟨Nat.le_trans hi.room hb.1, hb.2⟩⟩)
    · have hs : a.eval (.tmp 4) = .int .i64 x.seen := hi.was (i := 1) (by omega) (haf _ rfl ⟨1, .data⟩ (by simp) rfl)
      obtain ⟨B1, d1, e1, s1⟩ : ∃ B d, a.eval (.tmp 8) = .slice B x.args.length d ∧ Cod.str.Sl (Nw w wr) wr (.slice B x.args.length d) x.args := hi.was (i := 5) (by omega) (haf _ rfl ⟨5, .data⟩ (by simp) rfl)
      obtain ⟨B2, d2, e2, s2⟩ : ∃ B d, a.eval (.tmp 12) = .slice B x.rets.length d ∧ Cod.str.Sl (Nw w wr) wr (.slice B x.rets.length d) x.rets := hi.was (i := 9) (by omega) (haf _ rfl ⟨9, .data⟩ (by simp) rfl)
      obtain ⟨B3, d3, e3, s3⟩ : ∃ B d, a.eval (.tmp 16) = .slice B x.locals.length d ∧ Cod.str.Sl (Nw w wr) wr (.slice B x.locals.length d) x.locals := hi.was (i := 13) (by omega) (haf _ rfl ⟨13, .data⟩ (by simp) rfl)
      obtain ⟨B4, d4, e4, s4⟩ : ∃ B d, a.eval (.tmp 20) = .slice B x.takes.length d ∧ Cod.i64.Sl (Nw w wr) wr (.slice B x.takes.length d) x.takes := hi.was (i := 17) (by omega) (haf _ rfl ⟨17, .data⟩ (by simp) rfl)
      obtain ⟨B5, d5, e5, s5⟩ : ∃ B d, a.eval (.tmp 24) = .slice B x.code.length d ∧ Cod.insr.Sl (Nw w wr) wr (.slice B x.code.length d) x.code := hi.was (i := 21) (by omega) (haf _ rfl ⟨21, .data⟩ (by simp) rfl)
      exact wpOp_run rfl rfl (by revert hs e1 e2 e3 e4 e5; generalize a.eval = ρ; intro hs e1 e2 e3 e4 e5; simp [execOp, go_sem, hs, e1, e2, e3, e4, e5]) (hi.step 22 (by omega) (.agg #[.int .i64 x.seen, .slice B1 x.args.length d1, .slice B2 x.rets.length d2, .slice B3 x.locals.length d3, .slice B4 x.takes.length d4, .slice B5 x.code.length d5]) (Below.refl _ _) ⟨_, rfl, B1, B2, B3, B4, B5, d1, d2, d3, d4, d5, rfl, s1, s2, s3, s4, s5⟩)
    · obtain ⟨cs, hv, B1, B2, B3, B4, B5, d1, d2, d3, d4, d5, rfl, s1, s2, s3, s4, s5⟩ : ∃ cs, a.eval (.tmp 25) = .agg cs ∧ CopyR x w wr cs := hi.was (i := 22) (by omega) (haf _ rfl ⟨22, .data⟩ (by simp) rfl)
      obtain ⟨cs0, hsz, hB⟩ := hi.dstB
      obtain ⟨u0, hu0⟩ := hB.holds hsz (i := 0) (by omega)
      have hf0 := hB.frozen 0
      obtain ⟨u1, hu1⟩ := hB.holds hsz (i := 1) (by omega)
      have hf1 := hB.frozen 1
      obtain ⟨u2, hu2⟩ := hB.holds hsz (i := 2) (by omega)
      have hf2 := hB.frozen 2
      obtain ⟨u3, hu3⟩ := hB.holds hsz (i := 3) (by omega)
      have hf3 := hB.frozen 3
      obtain ⟨u4, hu4⟩ := hB.holds hsz (i := 4) (by omega)
      have hf4 := hB.frozen 4
      obtain ⟨u5, hu5⟩ := hB.holds hsz (i := 5) (by omega)
      have hf5 := hB.frozen 5
      obtain ⟨wE, hwE⟩ : ∃ wE, wE = (((((wr.setCell ⟨w.heap.size + 1, 0, none⟩ (.int .i64 x.seen)).setCell ⟨w.heap.size + 1, 1, none⟩ (.slice B1 x.args.length d1)).setCell ⟨w.heap.size + 1, 2, none⟩ (.slice B2 x.rets.length d2)).setCell ⟨w.heap.size + 1, 3, none⟩ (.slice B3 x.locals.length d3)).setCell ⟨w.heap.size + 1, 4, none⟩ (.slice B4 x.takes.length d4)).setCell ⟨w.heap.size + 1, 5, none⟩ (.slice B5 x.code.length d5) := ⟨_, rfl⟩
      have hk : ∀ b, b ≠ w.heap.size + 1 → wE.heap[b]? = wr.heap[b]? := fun b h1 => by rw [hwE, Below.heap_setCell _ _ _ _ h1, Below.heap_setCell _ _ _ _ h1, Below.heap_setCell _ _ _ _ h1, Below.heap_setCell _ _ _ _ h1, Below.heap_setCell _ _ _ _ h1, Below.heap_setCell _ _ _ _ h1]
      have hsE : wE.heap.size = wr.heap.size := by rw [hwE]; simp [World.setCell]
      have hR : CopyR x w wE #[.int .i64 x.seen, .slice B1 x.args.length d1, .slice B2 x.rets.length d2, .slice B3 x.locals.length d3, .slice B4 x.takes.length d4, .slice B5 x.code.length d5] := CopyR.keep (w := wr) (by omega) (fun b h1 _ => hk b (by omega)) ⟨B1, B2, B3, B4, B5, d1, d2, d3, d4, d5, rfl, s1, s2, s3, s4, s5⟩
      have hBE : Blk wE (w.heap.size + 1) 37 #[.int .i64 x.seen, .slice B1 x.args.length d1, .slice B2 x.rets.length d2, .slice B3 x.locals.length d3, .slice B4 x.takes.length d4, .slice B5 x.code.length d5] := by
        have h1 : Blk wE (w.heap.size + 1) 37 (((((((cs0.setIfInBounds 0 (.int .i64 x.seen)).setIfInBounds 1 (.slice B1 x.args.length d1)).setIfInBounds 2 (.slice B2 x.rets.length d2)).setIfInBounds 3 (.slice B3 x.locals.length d3)).setIfInBounds 4 (.slice B4 x.takes.length d4)).setIfInBounds 5 (.slice B5 x.code.length d5))) := by rw [hwE]; exact ((((((hB.set_ 0 (.int .i64 x.seen)).set_ 1 (.slice B1 x.args.length d1)).set_ 2 (.slice B2 x.rets.length d2)).set_ 3 (.slice B3 x.locals.length d3)).set_ 4 (.slice B4 x.takes.length d4)).set_ 5 (.slice B5 x.code.length d5))
        rwa [set6 hsz] at h1
      refine wpOp_skip (w' := wE) rfl rfl ?_ ?_
      · rw [hwE]
        revert hv hdst
        generalize a.eval = ρ
        intro hv hdst
        simp [execOp, go_sem, hv, hdst, hu0, hu1, hu2, hu3, hu4, hu5, hf0, hf1, hf2, hf3, hf4, hf5]
      · exact ⟨by rw [Array.size_setIfInBounds]; exact hi.size, hi.tmps, hi.defers, hi.src, hi.dst, by rw [hwE]; exact ((((((hi.below.setCell (by simp) _).setCell (by simp) _).setCell (by simp) _).setCell (by simp) _).setCell (by simp) _).setCell (by simp) _), by rw [hsE]; exact hi.room, (hk _ (by omega)).trans hi.srcB, ⟨_, rfl, hBE⟩, fun j hj hl => by
          by_cases he : j = 23
          · subst he
            exact ⟨_, hBE, hR⟩
          · have hl' : l.getD j false = true := by
              rw [Array.getD_eq_getD_getElem?, Array.getElem?_setIfInBounds_ne (Ne.symm he)] at hl
              rwa [Array.getD_eq_getD_getElem?]
            exact CopyF.keep (by omega) (fun b h1 _ => hk b (by omega)) (by omega) (hi.facts j hj hl')⟩
  · intro l a wr hi hall
    obtain ⟨cs, hB, B1, B2, B3, B4, B5, d1, d2, d3, d4, d5, rfl, s1, s2, s3, s4, s5⟩ : ∃ cs, Blk wr (w.heap.size + 1) 37 cs ∧ CopyR x w wr cs := hi.was (i := 23) (by omega) (by
      have h1 := hall 23 (by decide)
      rw [Array.getD_eq_getD_getElem?, Array.getElem?_eq_getElem (by have := hi.size; omega)] at h1 ⊢
      exact h1)
    have hdst := hi.dst
    have hdef := hi.defers
    obtain ⟨r0, r1, r2, r3, r4, r5⟩ := hB.g6
    have hnw : ∀ b, Nw w wr b → w.heap.size ≤ b ∧ b < wr.heap.size := fun b hb => ⟨by have := hb.1; omega, hb.2⟩
    have HQ := Lib.hid (show FunIn (fun b => w.heap.size ≤ b ∧ b < wr.heap.size) wr x B1 B2 B3 B4 B5 d1 d2 d3 d4 d5 ∧ Below w.heap.size w wr from ⟨⟨HV.out.seen, s1.mono hnw, s2.mono hnw, s3.mono hnw, s4.mono hnw, s5.mono hnw⟩, hi.below⟩)
    clear hall s1 s2 s3 s4 s5 hnw
    go_wp2
    have hdst2 : a.tmps[2]?.getD undef = .pointer (some ⟨w.heap.size + 1, 0, none⟩) := by simpa [Act.eval] using hdst
    exact bodyPost_ret (v := .agg #[.int .i64 x.seen, .slice B1 x.args.length d1, .slice B2 x.rets.length d2, .slice B3 x.locals.length d3, .slice B4 x.takes.length d4, .slice B5 x.code.length d5]) (by simp [results, Try.results40, go_sem, hdst2, r0, r1, r2, r3, r4, r5]) hdef ⟨B1, B2, B3, B4, B5, d1, d2, d3, d4, d5, rfl, HQ.out⟩

def SFR (o : Option FunR) (w : World) (e : Ending) (w' : World) : Prop :=
  ∃ A1 A2 A3 A4 A5 c1 c2 c3 c4 c5, e = .returned (.tuple #[funV (o.getD zeroF) A1 A2 A3 A4 A5 c1 c2 c3 c4 c5, .bool o.isSome]) ∧ FunIn (fun b => w.heap.size ≤ b ∧ b < w'.heap.size) w' (o.getD zeroF) A1 A2 A3 A4 A5 c1 c2 c3 c4 c5 ∧ Below w.heap.size w w'
set_option maxRecDepth 100000 in
set_option maxHeartbeats 4000000 in
theorem specShelfFunc_any (F : Nat → Prop) (v : Value) (xs : List ModR) (m f : Int) (w : World) (h : Cod.modr.Sl F w v xs) (hF : ∀ b, F b → b < w.heap.size) (hsm : ∀ x ∈ xs, SmolModr x) :
    Calls Try.prog 17 #[v, .int .i64 m, .int .i64 f] w (SFR (fAt xs m f) w) := by
  have HS := Lib.hid h
  obtain ⟨A, cap, rfl, hlc, hcm, _⟩ := h
  unfold maxLen at hcm
  obtain ⟨w0, hw0⟩ : ∃ w0, w0 = w.alloc (.cells #[.int .i64 0, .slice none 0 0, .slice none 0 0, .slice none 0 0, .slice none 0 0, .slice none 0 0] 37) := ⟨_, rfl⟩
  have HR0 := Lib.hid (show Blk w0 w.heap.size 37 #[.int .i64 0, .slice none 0 0, .slice none 0 0, .slice none 0 0, .slice none 0 0, .slice none 0 0] by rw [hw0]; exact Blk.new _ _ _)
  have HW0 := Lib.hid (show Below w.heap.size w w0 by rw [hw0]; exact (Below.refl _ _).alloc (Nat.le_refl _) _)
  have hs0 : w0.heap.size = w.heap.size + 1 := by rw [hw0]; simp
  have HH := Lib.hid (l4Has_any F _ xs m f w0 (HS.out.keep (below_keeps HW0.out hF)) hsm)
  have Hw0 := Lib.hid hw0
  clear hw0
  cases hat : fAt xs m f with
  | none =>
    rw [hat] at HH
    obtain ⟨wE, hwE⟩ : ∃ wE, wE = (((((w0.setCell ⟨w.heap.size, 0, none⟩ (.int .i64 0)).setCell ⟨w.heap.size, 1, none⟩ (.slice none 0 0)).setCell ⟨w.heap.size, 2, none⟩ (.slice none 0 0)).setCell ⟨w.heap.size, 3, none⟩ (.slice none 0 0)).setCell ⟨w.heap.size, 4, none⟩ (.slice none 0 0)).setCell ⟨w.heap.size, 5, none⟩ (.slice none 0 0) := ⟨_, rfl⟩
    have HRE := Lib.hid (show Blk wE w.heap.size 37 #[.int .i64 0, .slice none 0 0, .slice none 0 0, .slice none 0 0, .slice none 0 0, .slice none 0 0] by rw [hwE]; exact ((((((HR0.out.set_ 0 (.int .i64 0)).set_ 1 (.slice none 0 0)).set_ 2 (.slice none 0 0)).set_ 3 (.slice none 0 0)).set_ 4 (.slice none 0 0)).set_ 5 (.slice none 0 0)))
    have HWE := Lib.hid (show Below w.heap.size w wE by rw [hwE]; exact (((((HW0.out.setCell (by simp) _).setCell (by simp) _).setCell (by simp) _).setCell (by simp) _).setCell (by simp) _).setCell (by simp) _)
    have HQ := Lib.hid (show SFR none w (.returned (.tuple #[.agg #[.int .i64 0, .slice none 0 0, .slice none 0 0, .slice none 0 0, .slice none 0 0, .slice none 0 0], .bool false])) wE from
      ⟨none, none, none, none, none, 0, 0, 0, 0, 0, rfl, ⟨by show I64 0; unfold I64; omega, Cod.Sl.nil_, Cod.Sl.nil_, Cod.Sl.nil_, Cod.Sl.nil_, Cod.Sl.nil_⟩, HWE.out⟩)
    obtain ⟨x0, x1, x2, x3, x4, x5⟩ := HR0.out.g6
    obtain ⟨f0, f1, f2, f3, f4, f5⟩ := HR0.out.h6
    have HwE := Lib.hid hwE
    clear hat hsm hwE
    go_enter Try.func17, Try.ntmps17
    go_wp2_with fail
    rw [← Hw0.out]
    with_reducible refine HH.out.mono ?_
    rintro e w' ⟨rfl, rfl⟩
    go_wp2
    rw [← HwE.out]
    obtain ⟨r0, r1, r2, r3, r4, r5⟩ := HRE.out.g6
    exact bodyPost_ret (v := .tuple #[.agg #[.int .i64 0, .slice none 0 0, .slice none 0 0, .slice none 0 0, .slice none 0 0, .slice none 0 0], .bool false]) (by simp [results, Try.results17, go_sem, r0, r1, r2, r3, r4, r5]) rfl HQ.out
  | some y =>
    rw [hat] at HH
    have hsy := fAt_smol hat hsm
    have hyes : 0 ≤ m ∧ 0 ≤ f ∧ ∃ h : m.toNat < xs.length, f.toNat < xs[m.toNat].funcs.length := by
      rcases Classical.em (0 ≤ m ∧ 0 ≤ f ∧ ∃ h : m.toNat < xs.length, f.toNat < xs[m.toNat].funcs.length) with h | h
      · exact h
      · rw [fAt_no h] at hat; cases hat
    obtain ⟨hm0, hf0, hml, hfl⟩ := hyes
    obtain ⟨mn, rfl⟩ : ∃ mn : Nat, m = mn := ⟨m.toNat, by omega⟩
    obtain ⟨fn, rfl⟩ : ∃ fn : Nat, f = fn := ⟨f.toNat, by omega⟩
    simp only [Int.toNat_natCast] at hml hfl
    rw [fAt_yes hml hfl] at hat
    simp only [Option.some.injEq] at hat
    obtain ⟨b, off, cap', D0, e0, D1, e1, D2, e2, hv, hFb, _, _, k0, k1, k2, hd⟩ := HS.out.modr_at hml
    obtain ⟨rfl, rfl⟩ : A = some ⟨b, off, none⟩ ∧ cap = cap' := by simpa using hv
    obtain ⟨bb, oo, cp, B1, d1, B2, d2, B3, d3, B4, d4, B5, d5, hv2, hFbb, hl2, hcp, q0, q1, q2, q3, q4, q5, hfd⟩ := hd.funcs.funr_at hfl
    obtain ⟨rfl, rfl⟩ : D1 = some ⟨bb, oo, none⟩ ∧ e1 = cp := by simpa using hv2
    unfold maxLen at hcp
    rw [hat] at q0 q1 q2 q3 q4 q5 hfd
    have hbl := hF b hFb
    have hbl2 := hF bb hFbb
    have k1' : w0.cell? ⟨b, off + mn * 3 + 1, none⟩ = some (.slice (some ⟨bb, oo, none⟩) xs[mn].funcs.length e1) := (HW0.out.cell (p := ⟨b, off + mn * 3 + 1, none⟩) hbl).trans k1
    have q0' : w0.cell? ⟨bb, oo + fn * 6, none⟩ = some (.int .i64 y.seen) := (HW0.out.cell (p := ⟨bb, oo + fn * 6, none⟩) hbl2).trans q0
    have q1' : w0.cell? ⟨bb, oo + fn * 6 + 1, none⟩ = some (.slice B1 y.args.length d1) := (HW0.out.cell (p := ⟨bb, oo + fn * 6 + 1, none⟩) hbl2).trans q1
    have q2' : w0.cell? ⟨bb, oo + fn * 6 + 2, none⟩ = some (.slice B2 y.rets.length d2) := (HW0.out.cell (p := ⟨bb, oo + fn * 6 + 2, none⟩) hbl2).trans q2
    have q3' : w0.cell? ⟨bb, oo + fn * 6 + 3, none⟩ = some (.slice B3 y.locals.length d3) := (HW0.out.cell (p := ⟨bb, oo + fn * 6 + 3, none⟩) hbl2).trans q3
    have q4' : w0.cell? ⟨bb, oo + fn * 6 + 4, none⟩ = some (.slice B4 y.takes.length d4) := (HW0.out.cell (p := ⟨bb, oo + fn * 6 + 4, none⟩) hbl2).trans q4
    have q5' : w0.cell? ⟨bb, oo + fn * 6 + 5, none⟩ = some (.slice B5 y.code.length d5) := (HW0.out.cell (p := ⟨bb, oo + fn * 6 + 5, none⟩) hbl2).trans q5
    have HC := Lib.hid (l4Copy_any F y B1 B2 B3 B4 B5 d1 d2 d3 d4 d5 w0 (FunRd.keep (w := w) (w' := w0) (below_keeps HW0.out hF) hfd) (fun b hb => Nat.lt_of_lt_of_le (hF b hb) HW0.out.size) hsy)
    unfold funV at HC
    clear hv hv2 hd hfd hat hsm hsy k0 k1 k2 q0 q1 q2 q3 q4 q5
    go_enter Try.func17, Try.ntmps17
    go_wp2_with fail
    rw [← Hw0.out]
    with_reducible refine HH.out.mono ?_
    rintro e w' ⟨rfl, rfl⟩
    go_wp2_with fail
    refine HC.out.mono ?_
    rintro e w1 ⟨E1, E2, E3, E4, E5, g1, g2, g3, g4, g5, rfl, hI, hb⟩
    have hz1 := hb.size
    obtain ⟨x0, x1, x2, x3, x4, x5⟩ := (HR0.out.below hb (by omega)).g6
    obtain ⟨f0, f1, f2, f3, f4, f5⟩ := (HR0.out.below hb (by omega)).h6
    obtain ⟨wE, hwE⟩ : ∃ wE, wE = (((((w1.setCell ⟨w.heap.size, 0, none⟩ (.int .i64 y.seen)).setCell ⟨w.heap.size, 1, none⟩ (.slice E1 y.args.length g1)).setCell ⟨w.heap.size, 2, none⟩ (.slice E2 y.rets.length g2)).setCell ⟨w.heap.size, 3, none⟩ (.slice E3 y.locals.length g3)).setCell ⟨w.heap.size, 4, none⟩ (.slice E4 y.takes.length g4)).setCell ⟨w.heap.size, 5, none⟩ (.slice E5 y.code.length g5) := ⟨_, rfl⟩
    have HRE := Lib.hid (show Blk wE w.heap.size 37 #[.int .i64 y.seen, .slice E1 y.args.length g1, .slice E2 y.rets.length g2, .slice E3 y.locals.length g3, .slice E4 y.takes.length g4, .slice E5 y.code.length g5] by rw [hwE]; exact (((((((HR0.out.below hb (by omega)).set_ 0 (.int .i64 y.seen)).set_ 1 (.slice E1 y.args.length g1)).set_ 2 (.slice E2 y.rets.length g2)).set_ 3 (.slice E3 y.locals.length g3)).set_ 4 (.slice E4 y.takes.length g4)).set_ 5 (.slice E5 y.code.length g5)))
    have hkE : ∀ b, b ≠ w.heap.size → wE.heap[b]? = w1.heap[b]? := fun b h1 => by rw [hwE, Below.heap_setCell _ _ _ _ h1, Below.heap_setCell _ _ _ _ h1, Below.heap_setCell _ _ _ _ h1, Below.heap_setCell _ _ _ _ h1, Below.heap_setCell _ _ _ _ h1, Below.heap_setCell _ _ _ _ h1]
    have hsE : wE.heap.size = w1.heap.size := by rw [hwE]; simp [World.setCell]
    have HWE := Lib.hid (show Below w.heap.size w wE by rw [hwE]; exact ((((((HW0.out.trans (hb.mono (by omega))).setCell (by simp) _).setCell (by simp) _).setCell (by simp) _).setCell (by simp) _).setCell (by simp) _).setCell (by simp) _)
    have HQ := Lib.hid (show SFR (some y) w (.returned (.tuple #[.agg #[.int .i64 y.seen, .slice E1 y.args.length g1, .slice E2 y.rets.length g2, .slice E3 y.locals.length g3, .slice E4 y.takes.length g4, .slice E5 y.code.length g5], .bool true])) wE from
      ⟨E1, E2, E3, E4, E5, g1, g2, g3, g4, g5, rfl, FunRd.mono (fun b hb => ⟨by have := hb.1; omega, by rw [hsE]; exact hb.2⟩) (FunRd.keep (w := w1) (w' := wE) (fun b hb => hkE b (by have := hb.1; omega)) hI), HWE.out⟩)
    have HwE := Lib.hid hwE
    clear hwE hkE hb hI HC
    go_wp2
    rw [← HwE.out]
    obtain ⟨r0, r1, r2, r3, r4, r5⟩ := HRE.out.g6
    exact bodyPost_ret (v := .tuple #[.agg #[.int .i64 y.seen, .slice E1 y.args.length g1, .slice E2 y.rets.length g2, .slice E3 y.locals.length g3, .slice E4 y.takes.length g4, .slice E5 y.code.length g5], .bool true]) (by simp [results, Try.results17, go_sem, r0, r1, r2, r3, r4, r5]) rfl HQ.out
end Go.Proofs.Ythhheipinogcoaa
