/- Whatever the arguments, the exact law of ShapeWritten answers true: the program's ShapeWritten is the model's, and leaves its arguments alone. -/
import Derived.Test.YtgfpncpphpkahaaJa
import Derived.Test.YtgfpncpphpkahaaJb
import Derived.Test.YtgfpncpphpkahaaJt
import Derived.Test.YtgfpncpphpkahaaJe
import Derived.Test.YtgfpncpphpkahaaJo
namespace Go.Proofs.Ytgfpncpphpkahaa
open Go.ChangeShapes Go.WideShapes Go.ChangeAt Go.RowKit Go.Deep
open Go.ChangeMaps (open_string shut_string)

set_option maxRecDepth 100000 in
set_option maxHeartbeats 4000000 in
theorem lawShapeWritten (F : Nat → Prop) (x : ShapeR) (A0 A1 : Option Addr) (c0 c1 : Nat) (fr : Int) (w : World) (h : ShapeRd F w (.slice A0 x.stack.length c0) (.slice A1 x.places.length c1) x) (hF : ∀ b, F b → b < w.heap.size) :
    Calls Try.prog 4 #[.agg #[.slice A0 x.stack.length c0, .slice A1 x.places.length c1], .int .i64 fr] w fun e w' => e = .returned (.bool true) ∧ Below w.heap.size w w' := by
  obtain ⟨w0, hw0⟩ : ∃ w0, w0 = w.alloc (.cells #[.slice A0 x.stack.length c0, .slice A1 x.places.length c1] 24) := ⟨_, rfl⟩
  have HB0 := Lib.hid (show Blk w0 w.heap.size 24 #[.slice A0 x.stack.length c0, .slice A1 x.places.length c1] by rw [hw0]; exact Blk.new _ _ _)
  have HE0 := Lib.hid (show Below w.heap.size w w0 by rw [hw0]; exact (Below.refl _ _).alloc (Nat.le_refl _) _)
  have hs0 : w.heap.size + 1 ≤ w0.heap.size := by rw [hw0]; simp
  have HV0 := Lib.hid (h.keep (w' := w0) fun b hb => HE0.out.block b (hF b hb))
  have HF0 := Lib.hid (show ∀ b, F b → b < w0.heap.size from fun b hb => by have := hF b hb; omega)
  have Hw0 := Lib.hid hw0
  have HC0 := Lib.hid (szShaper_one F A0 A1 _ c0 _ c1 x 1048576 w0 HV0.out HF0.out (by omega) (by omega))
  clear h hF hw0
  by_cases hz : szShaper x 1048576 < 0
  · clear hs0
    go_enter Try.func4, Try.ntmps4
    go_wp2_with fail
    rw [← Hw0.out]
    refine HC0.out.mono ?_
    rintro e w1 ⟨rfl, hb⟩
    have HE1 := Lib.hid (HE0.out.trans (hb.mono HE0.out.size))
    clear hb HC0
    go_wp2_with fail
    go_ret
    exact ⟨rfl, HE1.out⟩
  · have hsm := smol_shaper (x := x) (l := 1048576) (by omega) (by omega) (by omega)
    have HS := Lib.hid hsm
    clear hsm
    go_enter Try.func4, Try.ntmps4
    go_wp2_with fail
    rw [← Hw0.out]
    refine HC0.out.mono ?_
    rintro e w1 ⟨rfl, hb⟩
    have HV1 := Lib.hid (HV0.out.keep (below_keeps hb HF0.out))
    have HF1 := Lib.hid (show ∀ b, F b → b < w1.heap.size from fun b hb' => Nat.lt_of_lt_of_le (HF0.out b hb') hb.size)
    have HB1 := Lib.hid (HB0.out.below hb (by omega))
    obtain ⟨x0, x1⟩ := HB1.out.g2
    have HE1 := Lib.hid (HE0.out.trans (hb.mono HE0.out.size))
    have hs1 := Nat.le_trans hs0 hb.size
    clear HC0
    have HC1 := Lib.hid (toShaper_one F A0 A1 _ c0 _ c1 x w1 HV1.out HF1.out HS.out)
    clear hb
    go_wp2_with fail
    refine HC1.out.mono ?_
    rintro e w2 ⟨A0s, c0s, A1s, c1s, rfl, hO, hb⟩
    clear HC1 x0 x1
    have HV2 := Lib.hid (HV1.out.keep (below_keeps hb HF1.out))
    have HF2 := Lib.hid (show ∀ b, F b → b < w2.heap.size from fun b hb' => Nat.lt_of_lt_of_le (HF1.out b hb') hb.size)
    have HB2 := Lib.hid (HB1.out.below hb (by omega))
    obtain ⟨x0, x1⟩ := HB2.out.g2
    have HE2 := Lib.hid (HE1.out.trans (hb.mono HE1.out.size))
    have hs2 := Nat.le_trans hs1 hb.size
    have HCs := Lib.hid (specShapeWritten_any (fun b => w1.heap.size ≤ b ∧ b < w2.heap.size) A0s A1s _ c0s _ c1s x fr w2 hO.rd (fun b hb => hb.2))
    clear hO hb
    go_wp2_with fail
    refine HCs.out.mono ?_
    rintro e w3 ⟨rfl, hb⟩
    clear HCs x0 x1
    have HV3 := Lib.hid (HV2.out.keep (below_keeps hb HF2.out))
    have HF3 := Lib.hid (show ∀ b, F b → b < w3.heap.size from fun b hb' => Nat.lt_of_lt_of_le (HF2.out b hb') hb.size)
    have HB3 := Lib.hid (HB2.out.below hb (by omega))
    obtain ⟨x0, x1⟩ := HB3.out.g2
    have HE3 := Lib.hid (HE2.out.trans (hb.mono HE2.out.size))
    have hs3 := Nat.le_trans hs2 hb.size
    have HC3 := Lib.hid (toShaper_one F A0 A1 _ c0 _ c1 x w3 HV3.out HF3.out HS.out)
    clear hb
    go_wp2_with fail
    refine HC3.out.mono ?_
    rintro e w4 ⟨A0m, c0m, A1m, c1m, rfl, hO, hb⟩
    clear HC3 x0 x1
    have HV4 := Lib.hid (HV3.out.keep (below_keeps hb HF3.out))
    have HF4 := Lib.hid (show ∀ b, F b → b < w4.heap.size from fun b hb' => Nat.lt_of_lt_of_le (HF3.out b hb') hb.size)
    have HB4 := Lib.hid (HB3.out.below hb (by omega))
    obtain ⟨x0, x1⟩ := HB4.out.g2
    have HE4 := Lib.hid (HE3.out.trans (hb.mono HE3.out.size))
    have hs4 := Nat.le_trans hs3 hb.size
    obtain ⟨w5, hw5⟩ : ∃ w5, w5 = w4.alloc (.cells #[.slice A0m x.stack.length c0m, .slice A1m x.places.length c1m] 29) := ⟨_, rfl⟩
    have hM := hO.rd
    have HX5 := Lib.hid (show Blk w5 w4.heap.size 29 #[.slice A0m x.stack.length c0m, .slice A1m x.places.length c1m] by rw [hw5]; exact Blk.new _ _ _)
    have hsx : w4.heap.size < w5.heap.size := by rw [hw5]; simp
    clear hb hO
    have hb : Below w4.heap.size w4 w5 := by rw [hw5]; exact (Below.refl _ _).alloc (Nat.le_refl _) _
    have HM5 := Lib.hid (hM.keep (below_keeps hb fun b hb => hb.2))
    have Hw5 := Lib.hid hw5
    clear hw5 hM x0 x1
    have HV5 := Lib.hid (HV4.out.keep (below_keeps hb HF4.out))
    have HF5 := Lib.hid (show ∀ b, F b → b < w5.heap.size from fun b hb' => Nat.lt_of_lt_of_le (HF4.out b hb') hb.size)
    have HB5 := Lib.hid (HB4.out.below hb (by omega))
    obtain ⟨x0, x1⟩ := HB5.out.g2
    have HE5 := Lib.hid (HE4.out.trans (hb.mono HE4.out.size))
    have hs5 := Nat.le_trans hs4 hb.size
    have HCi := Lib.hid (implShapeWritten_any (fun b => w3.heap.size ≤ b ∧ b < w4.heap.size) A0m A1m _ c0m _ c1m x fr w5 HM5.out (fun b hb => Nat.lt_trans hb.2 hsx))
    clear hb x0 x1
    go_wp2_with fail
    rw [← Hw5.out]
    refine HCi.out.mono ?_
    rintro e w6 ⟨rfl, hb⟩
    clear HCi
    have HV6 := Lib.hid (HV5.out.keep (below_keeps hb HF5.out))
    have HF6 := Lib.hid (show ∀ b, F b → b < w6.heap.size from fun b hb' => Nat.lt_of_lt_of_le (HF5.out b hb') hb.size)
    have HB6 := Lib.hid (HB5.out.below hb (by omega))
    obtain ⟨x0, x1⟩ := HB6.out.g2
    have HE6 := Lib.hid (HE5.out.trans (hb.mono HE5.out.size))
    have hs6 := Nat.le_trans hs5 hb.size
    have HX6 := Lib.hid (HX5.out.below hb hsx)
    have HM6 := Lib.hid (HM5.out.keep (below_keeps hb fun b hb => Nat.lt_trans hb.2 hsx))
    have hsx6 := Nat.lt_of_lt_of_le hsx hb.size
    have HX6d := Lib.hid (show Blk w6.drew w4.heap.size 29 #[.slice A0m x.stack.length c0m, .slice A1m x.places.length c1m] from HX6.out)
    have hsx6d : w4.heap.size < w6.drew.heap.size := hsx6
    have HM6d := Lib.hid (HM6.out.keep (w := w6) (w' := w6.drew) fun _ _ => rfl)
    have HC6 := Lib.hid (toShaper_one F A0 A1 _ c0 _ c1 x w6.drew (HV6.out.keep (w := w6) (w' := w6.drew) fun _ _ => rfl) HF6.out HS.out)
    obtain ⟨z0, z1⟩ := HX6.out.g2
    clear hb
    go_wp2_with fail
    go_region_with (first
      | (go_at_call 7; (with_reducible refine HC6.out.mono ?_); rintro e w7 ⟨A0e, c0e, A1e, c1e, rfl, hO, hb⟩; go_must (obtain ⟨y0, y1⟩ := (HX6d.out.below hb hsx6d).g2; have hs67 : w6.heap.size ≤ w7.heap.size := hb.size; have HCe := Lib.hid (eqShaper_one (fun b => b < w7.heap.size) A0m A0e A1m A1e _ c0m _ c0e _ c1m _ c1e x w7 ((HM6d.out.keep (below_keeps hb fun b hb => Nat.lt_trans hb.2 hsx6d)).mono fun b hb => by have := hb.2; omega) (hO.rd.mono fun b hb => hb.2) fun b hb => hb); have HQ0 := Lib.hid hb; clear hO hb))
      | (go_at_call 9; (with_reducible refine HCe.out.mono ?_); rintro e w8 ⟨rfl, hb⟩; go_must (have HQ := Lib.hid (HQ0.out.trans (hb.mono HQ0.out.size)); clear hb)))
    all_goals
      go_wp2
      go_ret
      exact ⟨rfl, HE6.out.drew.trans (HQ.out.mono HE6.out.size)⟩

set_option maxRecDepth 100000 in
theorem liftShapeWritten (os : Os) (started : os.Started) (H : Type) (enc : TypeId × Value → H) :
    ReturnsInHanded {} Try.checked os 4 .any (Rows.fnExactShapeWrittenSpec.pre6 enc Try.prog Try.f4 Rows.fnExactShapeWrittenRow.domain false) (Rows.fnExactShapeWrittenSpec.post enc Try.prog Try.f4 false true false false) := by
  refine returnsInHanded_of_change (C := Try.checked) own_ started (by kernel_rfl) Try.func4
    (ChangeSpec.witness6 (enc := enc) (C := Try.checked) false ⟨#[], #[.agg #[.slice none 0 0, .slice none 0 0], .int .i64 0], []⟩ 8 (by kernel_rfl) (by kernel_rfl) (by kernel_rfl) (by kernel_rfl)) ?_
  intro W base args ds gs before hval0 hW _ _
  have hval : ∀ (j : Nat) t v, Try.f4.params[j]? = some t → args[j]? = some v → Value.okWide Try.prog W .any base t v := hval0
  have hW' := hW
  obtain ⟨p, q, hA0, hV, rfl, _, _⟩ := hW
  have hA : DataW.TrodAll enc Try.prog W 0 (fun _ => true) true Try.f4.params.toList args.toList ds p := hA0
  rw [Try.params4] at hA hval
  obtain ⟨v0, v1, d0, d1, p0, p1, rfl, rfl, rfl, h0, h1⟩ := trodAll_two hA
  obtain ⟨rfl, rfl⟩ := trodVars_none hV
  obtain ⟨n, rfl, rfl, rfl, wn⟩ := open_int Try.underlying3 (hval 1 3 v1 rfl rfl) h1
  obtain ⟨x, u0, u1, rfl, hd⟩ := open_shape (hval 0 24 v0 rfl rfl) h0
  clear hA0 hval0
  simp only [List.append_nil] at hW'
  have hlt : ∀ x ∈ p0, x.block < W.heap.size := fun x hx => by simpa using hW'.lt x (by simp [hx])
  obtain ⟨A0, c0, rfl, _⟩ := id hd.stack
  obtain ⟨A1, c1, rfl, _⟩ := id hd.places
  refine (lawShapeWritten (Old W) x A0 A1 c0 c1 n W hd (fun b hb => hb)).mono fun e W' ⟨he, hn⟩ => ?_
  subst he
  refine ⟨_, rfl, _, _, _, [], p0 ++ [], [], hW', ?_, ?_, rfl, hn.frame _, fun h => by cases h⟩
  · exact trodAll_mk1 (shut_bool Try.underlying4 true)
  · exact trodAll_mk2 (Below.trod laidOut_ (by kernel_rfl) (of_decide_eq_true (by kernel_rfl)) h0 hn hlt) (shut_int Try.underlying3 wn)

theorem ShapeWritten_holds : Rows.FnExactShapeWrittenSaid :=
  OpenClaim.holds_of_wide 4 Try.f4 rfl rfl rfl rfl rfl rfl rfl ⟨rfl, rfl, rfl, rfl, rfl⟩ rfl rfl rfl rfl rfl (by kernel_rfl) Try.func4 (by kernel_rfl)
    (of_decide_eq_true (by kernel_rfl)) (by unfold Func.isWrapper; first | (rw [if_pos (by decide +kernel)]; kernel_rfl) | (rw [if_neg (by decide +kernel)]; exact ⟨rfl, rfl⟩))
    (fun os started H enc _ => liftShapeWritten os started H enc)
end Go.Proofs.Ytgfpncpphpkahaa
