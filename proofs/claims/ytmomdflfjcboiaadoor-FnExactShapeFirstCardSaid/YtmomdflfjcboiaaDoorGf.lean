/- The program's ShelfFunc: what it hands back is the call's own. -/
import Derived.Test.YtmomdflfjcboiaaDoorGp
import Derived.Test.YtmomdflfjcboiaaDoorGk
import Derived.Deep.RegionHeld3
import Derived.Deep.DeepCutAuto
namespace Go.Proofs.YtmomdflfjcboiaaDoor
open Go.RowKit

def fAt (xs : List ModR) (m f : Int) : Option FunR := if 0 ≤ m ∧ 0 ≤ f then (xs[m.toNat]?).bind fun x => x.funcs[f.toNat]? else none
def zeroF : FunR := ⟨0, [], [], [], [], []⟩
theorem fAt_yes {xs : List ModR} {m f : Nat} (hm : m < xs.length) (hf : f < xs[m].funcs.length) : fAt xs m f = some (xs[m].funcs[f]) := by
  unfold fAt
  rw [if_pos (by omega)]
  simp [List.getElem?_eq_getElem hm, List.getElem?_eq_getElem hf]
theorem fAt_no {xs : List ModR} {m f : Int} (h : ¬ (0 ≤ m ∧ 0 ≤ f ∧ ∃ h : m.toNat < xs.length, f.toNat < xs[m.toNat].funcs.length)) : fAt xs m f = none := by
  unfold fAt
  split
  · rename_i hp
    by_cases hm : m.toNat < xs.length
    · rw [List.getElem?_eq_getElem hm, Option.bind_some, List.getElem?_eq_none]
      rcases Nat.lt_or_ge f.toNat xs[m.toNat].funcs.length with h1 | h1
      · exact absurd ⟨hp.1, hp.2, hm, h1⟩ h
      · exact h1
    · rw [List.getElem?_eq_none (by omega), Option.bind_none]
  · rfl
theorem fAt_smol {xs : List ModR} {m f : Int} {y : FunR} (h : fAt xs m f = some y) (hs : ∀ x ∈ xs, SmolModr x) : SmolFunr y := by
  unfold fAt at h
  split at h
  · obtain ⟨x, hx, hy⟩ := Option.bind_eq_some_iff.1 h
    exact (hs x (List.mem_of_getElem? hx)).2.2.2.2 y (List.mem_of_getElem? hy)
  · cases h
def SFD (o : Option FunR) (w : World) (e : Ending) (w' : World) : Prop :=
  ∃ A1 A2 A3 A4 A5 c1 c2 c3 c4 c5, e = .returned (.tuple #[funV (o.getD zeroF) A1 A2 A3 A4 A5 c1 c2 c3 c4 c5, .bool o.isSome]) ∧
    FunRo w.heap.size w'.heap.size w' (.slice A1 (o.getD zeroF).args.length c1) (.slice A2 (o.getD zeroF).rets.length c2) (.slice A3 (o.getD zeroF).locals.length c3) (.slice A4 (o.getD zeroF).takes.length c4) (.slice A5 (o.getD zeroF).code.length c5) (o.getD zeroF) ∧ Below w.heap.size w w'
theorem own_none {α : Type} {c : OCod α} {t : TypeId} {lo hi : Nat} {w : World} : Own c t lo hi w (.slice none 0 0) [] := ⟨_, _, rfl, Nat.le_refl _, by unfold maxLen; omega, fun h => by simp at h⟩

set_option maxRecDepth 100000 in
set_option maxHeartbeats 8000000 in
theorem implShelfFunc_any (F : Nat → Prop) (v : Value) (xs : List ModR) (m f : Int) (w : World) (h : Cod.modr.Sl F w v xs) (hF : ∀ b, F b → b < w.heap.size) (hsm : ∀ x ∈ xs, SmolModr x) (hm64 : I64 m) (hf64 : I64 f) :
    Calls Tryd.prog 18 #[v, .int .i64 m, .int .i64 f] w (SFD (fAt xs m f) w) := by
  have HS := Lib.hid h
  obtain ⟨A, cap, rfl, hlc, hcm, _⟩ := h
  unfold maxLen at hcm
  unfold I64 at hm64 hf64
  obtain ⟨w0, hw0⟩ : ∃ w0, w0 = w.alloc (.cells #[.int .i64 0, .slice none 0 0, .slice none 0 0, .slice none 0 0, .slice none 0 0, .slice none 0 0] 48) := ⟨_, rfl⟩
  have HR0 := Lib.hid (show Blk w0 w.heap.size 48 #[.int .i64 0, .slice none 0 0, .slice none 0 0, .slice none 0 0, .slice none 0 0, .slice none 0 0] by rw [hw0]; exact Blk.new _ _ _)
  have HW0 := Lib.hid (show Below w.heap.size w w0 by rw [hw0]; exact (Below.refl _ _).alloc (Nat.le_refl _) _)
  have hs0 : w0.heap.size = w.heap.size + 1 := by rw [hw0]; simp
  have Hw0 := Lib.hid hw0
  clear hw0
  by_cases hyes : 0 ≤ m ∧ 0 ≤ f ∧ ∃ h : m.toNat < xs.length, f.toNat < xs[m.toNat].funcs.length
  · obtain ⟨hm0, hf0, hml, hfl⟩ := hyes
    obtain ⟨mn, rfl⟩ : ∃ mn : Nat, m = mn := ⟨m.toNat, by omega⟩
    obtain ⟨fn, rfl⟩ : ∃ fn : Nat, f = fn := ⟨f.toNat, by omega⟩
    simp only [Int.toNat_natCast] at hml hfl
    have HX := Lib.hid (fAt_yes hml hfl)
    have hsy := fAt_smol HX.out hsm
    obtain ⟨b, off, cap', D0, e0, D1, e1, D2, e2, hv, hFb, _, _, k0, k1, k2, hd⟩ := HS.out.modr_at hml
    obtain ⟨rfl, rfl⟩ : A = some ⟨b, off, none⟩ ∧ cap = cap' := by simpa using hv
    have hfs := hd.funcs
    have hel : (xs[mn].funcs.length : Int) ≤ e1 := by obtain ⟨_, _, h1, h2, _⟩ := hfs; simp only [Value.slice.injEq] at h1; omega
    obtain ⟨bb, oo, cp, B1, d1, B2, d2, B3, d3, B4, d4, B5, d5, hv2, hFbb, _, hcp, q0, q1, q2, q3, q4, q5, hfd⟩ := hfs.funr_at hfl
    obtain ⟨rfl, rfl⟩ : D1 = some ⟨bb, oo, none⟩ ∧ e1 = cp := by simpa using hv2
    unfold maxLen at hcp
    generalize xs[mn].funcs[fn] = y at *
    have HFD := Lib.hid hfd
    have hbl := hF b hFb
    have hbl2 := hF bb hFbb
    have Hsy := Lib.hid hsy
    clear hv hv2 hfs hd hfd hsm hsy hFb hFbb
    obtain ⟨w3, hw3⟩ : ∃ w3, w3 = w0.alloc (.cells #[.int .i64 y.seen, .slice B1 y.args.length d1, .slice B2 y.rets.length d2, .slice B3 y.locals.length d3, .slice B4 y.takes.length d4, .slice B5 y.code.length d5] 48) := ⟨_, rfl⟩
    have HW3 := Lib.hid (show Below w.heap.size w w3 by rw [hw3]; exact HW0.out.alloc HW0.out.size _)
    have hs3 : w3.heap.size = w.heap.size + 2 := by rw [hw3]; simp; omega
    have HR3 := Lib.hid (show Blk w3 w.heap.size 48 #[.int .i64 0, .slice none 0 0, .slice none 0 0, .slice none 0 0, .slice none 0 0, .slice none 0 0] by rw [hw3]; exact HR0.out.alloc _)
    have HB0 := Lib.hid (show Blk w3.drew (w.heap.size + 1) 48 #[.int .i64 y.seen, .slice B1 y.args.length d1, .slice B2 y.rets.length d2, .slice B3 y.locals.length d3, .slice B4 y.takes.length d4, .slice B5 y.code.length d5] by rw [hw3, ← hs0]; exact Blk.new w0 _ _)
    have HB3 := Lib.hid (show Blk w3 (w.heap.size + 1) 48 #[.int .i64 y.seen, .slice B1 y.args.length d1, .slice B2 y.rets.length d2, .slice B3 y.locals.length d3, .slice B4 y.takes.length d4, .slice B5 y.code.length d5] from HB0.out)
    have HV0 := Lib.hid (FunRd.keep (w := w) (w' := w3.drew) (fun b hb => HW3.out.block b (hF b hb)) HFD.out)
    have HF0 := Lib.hid (show ∀ b, F b → b < w3.drew.heap.size from fun b hb => by have := hF b hb; show b < w3.heap.size; omega)
    have HR0d := Lib.hid (show Blk w3.drew w.heap.size 48 #[.int .i64 0, .slice none 0 0, .slice none 0 0, .slice none 0 0, .slice none 0 0, .slice none 0 0] from HR3.out)
    have hs0d : w3.drew.heap.size = w.heap.size + 2 := hs3
    have HW0d := Lib.hid (show Below w.heap.size w w3.drew from HW3.out.drew)
    have HC0 := Lib.hid (clone_str F _ y.args w3.drew HV0.out.args HF0.out Hsy.out.1)
    have Hw3 := Lib.hid hw3
    have Hs0 := Lib.hid hs0
    clear hw3 hs0 HR0 HW0 HR3
    go_enter Tryd.func18, Tryd.ntmps18
    go_upto_region 4 with fail
    rw [← Hw0.out, ← Hs0.out, ← Hw3.out, Hs0.out]
    have Hs3 := Lib.hid hs3
    clear k0 k1 k2 q0 q1 q2 q3 q4 q5 hs3
    go_region_held3 (fun w' => w'.cell? ⟨w.heap.size + 1, 0, none⟩ = some (.int .i64 y.seen) ∧ w'.cell? ⟨w.heap.size + 1, 1, none⟩ = some (.slice B1 y.args.length d1) ∧ w'.cell? ⟨w.heap.size + 1, 2, none⟩ = some (.slice B2 y.rets.length d2) ∧ w'.cell? ⟨w.heap.size + 1, 3, none⟩ = some (.slice B3 y.locals.length d3) ∧ w'.cell? ⟨w.heap.size + 1, 4, none⟩ = some (.slice B4 y.takes.length d4) ∧ w'.cell? ⟨w.heap.size + 1, 5, none⟩ = some (.slice B5 y.code.length d5)) (first | with_reducible exact HB0.out.g6 | with_reducible exact HBE.out.g6 | with_reducible exact HB5.out.g6 | with_reducible exact HB4.out.g6 | with_reducible exact HB3a.out.g6 | with_reducible exact HB2.out.g6 | with_reducible exact HB1.out.g6) (first
      | (go_at_call 41; (with_reducible refine HC0.out.mono ?_); rintro e wa1 ⟨A1', c1', rfl, hM⟩; go_must (have HW1d := Lib.hid (HW0d.out.trans (hM.2.mono HW0d.out.size)); have HB1 := Lib.hid (HB0.out.below hM.2 (by omega)); have HR1d := Lib.hid (HR0d.out.below hM.2 (by omega)); have hs1d : w.heap.size + 2 ≤ wa1.heap.size := (by have := hM.2.size; omega); have HX1_1 := Lib.hid hM.1; have hz1 := hM.2.size; have HV1 := Lib.hid (HV0.out.keep (below_keeps hM.2 HF0.out)); have HF1 := Lib.hid (show ∀ b, F b → b < wa1.heap.size from fun b hb => Nat.lt_of_lt_of_le (HF0.out b hb) hM.2.size); have HC1 := Lib.hid (clone_str F _ y.rets wa1 HV1.out.rets HF1.out Hsy.out.2.1); clear hM))
      | (go_at_call 41; (with_reducible refine HC1.out.mono ?_); rintro e wa2 ⟨A2', c2', rfl, hM⟩; go_must (have HW2d := Lib.hid (HW1d.out.trans (hM.2.mono HW1d.out.size)); have HB2 := Lib.hid (HB1.out.below hM.2 (by omega)); have HR2d := Lib.hid (HR1d.out.below hM.2 (by omega)); have hs2d : w.heap.size + 2 ≤ wa2.heap.size := (by have := hM.2.size; omega); have HX2_2 := Lib.hid hM.1; have HX1_2 := Lib.hid (HX1_1.out.keep fun b g1 g2 => hM.2.block b (by omega)); have hz2 := hM.2.size; have HV2 := Lib.hid (HV1.out.keep (below_keeps hM.2 HF1.out)); have HF2 := Lib.hid (show ∀ b, F b → b < wa2.heap.size from fun b hb => Nat.lt_of_lt_of_le (HF1.out b hb) hM.2.size); have HC2 := Lib.hid (clone_str F _ y.locals wa2 HV2.out.locals HF2.out Hsy.out.2.2.1); clear hM))
      | (go_at_call 41; (with_reducible refine HC2.out.mono ?_); rintro e wa3 ⟨A3', c3', rfl, hM⟩; go_must (have HW3d := Lib.hid (HW2d.out.trans (hM.2.mono HW2d.out.size)); have HB3a := Lib.hid (HB2.out.below hM.2 (by omega)); have HR3d := Lib.hid (HR2d.out.below hM.2 (by omega)); have hs3d : w.heap.size + 2 ≤ wa3.heap.size := (by have := hM.2.size; omega); have HX3_3 := Lib.hid hM.1; have HX1_3 := Lib.hid (HX1_2.out.keep fun b g1 g2 => hM.2.block b (by omega)); have HX2_3 := Lib.hid (HX2_2.out.keep fun b g1 g2 => hM.2.block b (by omega)); have hz3 := hM.2.size; have HV3 := Lib.hid (HV2.out.keep (below_keeps hM.2 HF2.out)); have HF3 := Lib.hid (show ∀ b, F b → b < wa3.heap.size from fun b hb => Nat.lt_of_lt_of_le (HF2.out b hb) hM.2.size); have HC3 := Lib.hid (clone_i64 F _ y.takes wa3 HV3.out.takes HF3.out Hsy.out.2.2.2.1); clear hM))
      | (go_at_call 42; (with_reducible refine HC3.out.mono ?_); rintro e wa4 ⟨A4', c4', rfl, hM⟩; go_must (have HW4d := Lib.hid (HW3d.out.trans (hM.2.mono HW3d.out.size)); have HB4 := Lib.hid (HB3a.out.below hM.2 (by omega)); have HR4d := Lib.hid (HR3d.out.below hM.2 (by omega)); have hs4d : w.heap.size + 2 ≤ wa4.heap.size := (by have := hM.2.size; omega); have HX4_4 := Lib.hid hM.1; have HX1_4 := Lib.hid (HX1_3.out.keep fun b g1 g2 => hM.2.block b (by omega)); have HX2_4 := Lib.hid (HX2_3.out.keep fun b g1 g2 => hM.2.block b (by omega)); have HX3_4 := Lib.hid (HX3_3.out.keep fun b g1 g2 => hM.2.block b (by omega)); have hz4 := hM.2.size; have HV4 := Lib.hid (HV3.out.keep (below_keeps hM.2 HF3.out)); have HF4 := Lib.hid (show ∀ b, F b → b < wa4.heap.size from fun b hb => Nat.lt_of_lt_of_le (HF3.out b hb) hM.2.size); have HC4 := Lib.hid (clone_insr F _ y.code wa4 HV4.out.code HF4.out Hsy.out.2.2.2.2.1); clear hM))
      | (go_at_call 43; (with_reducible refine HC4.out.mono ?_); rintro e wa5 ⟨A5', c5', rfl, hM⟩; go_must (have HW5d := Lib.hid (HW4d.out.trans (hM.2.mono HW4d.out.size)); have HB5 := Lib.hid (HB4.out.below hM.2 (by omega)); have HR5d := Lib.hid (HR4d.out.below hM.2 (by omega)); have hs5d : w.heap.size + 2 ≤ wa5.heap.size := (by have := hM.2.size; omega); have HX5_5 := Lib.hid hM.1; have HX1_5 := Lib.hid (HX1_4.out.keep fun b g1 g2 => hM.2.block b (by omega)); have HX2_5 := Lib.hid (HX2_4.out.keep fun b g1 g2 => hM.2.block b (by omega)); have HX3_5 := Lib.hid (HX3_4.out.keep fun b g1 g2 => hM.2.block b (by omega)); have HX4_5 := Lib.hid (HX4_4.out.keep fun b g1 g2 => hM.2.block b (by omega)); have hz5 := hM.2.size; have HBE := Lib.hid (Blk.far (p := ⟨w.heap.size, 5, none⟩) (Blk.far (p := ⟨w.heap.size, 4, none⟩) (Blk.far (p := ⟨w.heap.size, 3, none⟩) (Blk.far (p := ⟨w.heap.size, 2, none⟩) (Blk.far (p := ⟨w.heap.size, 1, none⟩) (Blk.far (p := ⟨w.heap.size, 0, none⟩) HB5.out (by simp) (.int .i64 y.seen)) (by simp) (.slice A1' y.args.length c1')) (by simp) (.slice A2' y.rets.length c2')) (by simp) (.slice A3' y.locals.length c3')) (by simp) (.slice A4' y.takes.length c4')) (by simp) (.slice A5' y.code.length c5')); obtain ⟨x0, x1, x2, x3, x4, x5⟩ := HR5d.out.g6; obtain ⟨y0, y1, y2, y3, y4, y5⟩ := HR5d.out.h6; clear hM)))
    all_goals
      obtain ⟨wE, hwE⟩ : ∃ wE, wE = (((((wa5.setCell ⟨w.heap.size, 0, none⟩ (.int .i64 y.seen)).setCell ⟨w.heap.size, 1, none⟩ (.slice A1' y.args.length c1')).setCell ⟨w.heap.size, 2, none⟩ (.slice A2' y.rets.length c2')).setCell ⟨w.heap.size, 3, none⟩ (.slice A3' y.locals.length c3')).setCell ⟨w.heap.size, 4, none⟩ (.slice A4' y.takes.length c4')).setCell ⟨w.heap.size, 5, none⟩ (.slice A5' y.code.length c5') := ⟨_, rfl⟩
      have HRE := Lib.hid (show Blk wE w.heap.size 48 #[.int .i64 y.seen, .slice A1' y.args.length c1', .slice A2' y.rets.length c2', .slice A3' y.locals.length c3', .slice A4' y.takes.length c4', .slice A5' y.code.length c5'] by rw [hwE]; exact ((((((HR5d.out.set_ 0 (.int .i64 y.seen)).set_ 1 (.slice A1' y.args.length c1')).set_ 2 (.slice A2' y.rets.length c2')).set_ 3 (.slice A3' y.locals.length c3')).set_ 4 (.slice A4' y.takes.length c4')).set_ 5 (.slice A5' y.code.length c5')))
      have hkE : ∀ b, b ≠ w.heap.size → wE.heap[b]? = wa5.heap[b]? := fun b h1 => by rw [hwE, Below.heap_setCell _ _ _ _ h1, Below.heap_setCell _ _ _ _ h1, Below.heap_setCell _ _ _ _ h1, Below.heap_setCell _ _ _ _ h1, Below.heap_setCell _ _ _ _ h1, Below.heap_setCell _ _ _ _ h1]
      have hsE : wE.heap.size = wa5.heap.size := by rw [hwE]; simp [World.setCell]
      have HWE := Lib.hid (show Below w.heap.size w wE by rw [hwE]; exact (((((HW5d.out.setCell (by simp) _).setCell (by simp) _).setCell (by simp) _).setCell (by simp) _).setCell (by simp) _).setCell (by simp) _)
      have HQ := Lib.hid (show SFD (some y) w (.returned (.tuple #[.agg #[.int .i64 y.seen, .slice A1' y.args.length c1', .slice A2' y.rets.length c2', .slice A3' y.locals.length c3', .slice A4' y.takes.length c4', .slice A5' y.code.length c5'], .bool true])) wE from
        ⟨A1', A2', A3', A4', A5', c1', c2', c3', c4', c5', rfl, ⟨HFD.out.seen, wa1.heap.size, wa2.heap.size, wa3.heap.size, wa4.heap.size, by omega, by omega, by omega, by omega, by omega, (HX1_5.out.keep (w' := wE) fun b g1 g2 => hkE b (by omega)).mono (by omega) (by omega), (HX2_5.out.keep (w' := wE) fun b g1 g2 => hkE b (by omega)).mono (by omega) (by omega), (HX3_5.out.keep (w' := wE) fun b g1 g2 => hkE b (by omega)).mono (by omega) (by omega), (HX4_5.out.keep (w' := wE) fun b g1 g2 => hkE b (by omega)).mono (by omega) (by omega), (HX5_5.out.keep (w' := wE) fun b g1 g2 => hkE b (by omega)).mono (by omega) (by omega)⟩, HWE.out⟩)
      have HwE := Lib.hid hwE
      clear hwE hkE
      go_wp2
      rw [← HwE.out, HX.out]
      obtain ⟨r0, r1, r2, r3, r4, r5⟩ := HRE.out.g6
      exact bodyPost_ret (v := .tuple #[.agg #[.int .i64 y.seen, .slice A1' y.args.length c1', .slice A2' y.rets.length c2', .slice A3' y.locals.length c3', .slice A4' y.takes.length c4', .slice A5' y.code.length c5'], .bool true]) (by simp [results, Tryd.results18, go_sem, r0, r1, r2, r3, r4, r5]) rfl HQ.out
  · have HX := Lib.hid (fAt_no hyes)
    have HQ := Lib.hid (show SFD none w (.returned (.tuple #[.agg #[.int .i64 0, .slice none 0 0, .slice none 0 0, .slice none 0 0, .slice none 0 0, .slice none 0 0], .bool false])) w0 from
      ⟨none, none, none, none, none, 0, 0, 0, 0, 0, rfl, ⟨by show I64 0; unfold I64; omega, w.heap.size, w.heap.size, w.heap.size, w.heap.size, Nat.le_refl _, Nat.le_refl _, Nat.le_refl _, Nat.le_refl _, by omega, own_none, own_none, own_none, own_none, own_none⟩, HW0.out⟩)
    clear hsm hs0
    by_cases h1 : m < 0
    · go_enter Tryd.func18, Tryd.ntmps18
      go_wp2
      rw [← Hw0.out, HX.out]
      obtain ⟨r0, r1, r2, r3, r4, r5⟩ := HR0.out.g6
      exact bodyPost_ret (v := .tuple #[.agg #[.int .i64 0, .slice none 0 0, .slice none 0 0, .slice none 0 0, .slice none 0 0, .slice none 0 0], .bool false]) (by simp [results, Tryd.results18, go_sem, r0, r1, r2, r3, r4, r5]) rfl HQ.out
    · by_cases h2 : (xs.length : Int) ≤ m
      · go_enter Tryd.func18, Tryd.ntmps18
        go_wp2
        rw [← Hw0.out, HX.out]
        obtain ⟨r0, r1, r2, r3, r4, r5⟩ := HR0.out.g6
        exact bodyPost_ret (v := .tuple #[.agg #[.int .i64 0, .slice none 0 0, .slice none 0 0, .slice none 0 0, .slice none 0 0, .slice none 0 0], .bool false]) (by simp [results, Tryd.results18, go_sem, r0, r1, r2, r3, r4, r5]) rfl HQ.out
      · by_cases h3 : f < 0
        · go_enter Tryd.func18, Tryd.ntmps18
          go_wp2
          rw [← Hw0.out, HX.out]
          obtain ⟨r0, r1, r2, r3, r4, r5⟩ := HR0.out.g6
          exact bodyPost_ret (v := .tuple #[.agg #[.int .i64 0, .slice none 0 0, .slice none 0 0, .slice none 0 0, .slice none 0 0, .slice none 0 0], .bool false]) (by simp [results, Tryd.results18, go_sem, r0, r1, r2, r3, r4, r5]) rfl HQ.out
        · obtain ⟨mn, rfl⟩ : ∃ mn : Nat, m = mn := ⟨m.toNat, by omega⟩
          have hml : mn < xs.length := by omega
          obtain ⟨b, off, cap', D0, e0, D1, e1, D2, e2, hv, hFb, _, _, k0, k1, k2, hd⟩ := HS.out.modr_at hml
          obtain ⟨rfl, rfl⟩ : A = some ⟨b, off, none⟩ ∧ cap = cap' := by simpa using hv
          have hel : (xs[mn].funcs.length : Int) ≤ f := by
            rcases Int.lt_or_le f xs[mn].funcs.length with h4 | h4
            · exact absurd ⟨by omega, by omega, by simpa using hml, by simp only [Int.toNat_natCast]; omega⟩ hyes
            · exact h4
          have hbl := hF b hFb
          clear hv hd hFb hyes
          go_enter Tryd.func18, Tryd.ntmps18
          go_wp2
          rw [← Hw0.out, HX.out]
          obtain ⟨r0, r1, r2, r3, r4, r5⟩ := HR0.out.g6
          exact bodyPost_ret (v := .tuple #[.agg #[.int .i64 0, .slice none 0 0, .slice none 0 0, .slice none 0 0, .slice none 0 0, .slice none 0 0], .bool false]) (by simp [results, Tryd.results18, go_sem, r0, r1, r2, r3, r4, r5]) rfl HQ.out
end Go.Proofs.YtmomdflfjcboiaaDoor
