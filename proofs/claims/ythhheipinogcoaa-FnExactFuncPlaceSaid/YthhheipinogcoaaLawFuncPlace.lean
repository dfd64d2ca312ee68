/- Whatever the arguments, the exact law of FuncPlace answers true: the program's FuncPlace is the model's, and leaves its arguments alone. -/
import Derived.Test.YthhheipinogcoaaGp
import Derived.Test.YthhheipinogcoaaGt
import Derived.Test.YthhheipinogcoaaGe
import Derived.Test.YthhheipinogcoaaGo
namespace Go.Proofs.Ythhheipinogcoaa
open Go.ChangeShapes Go.WideShapes Go.ChangeAt Go.RowKit Go.Deep
open Go.ChangeMaps (open_string shut_string)

set_option maxRecDepth 100000 in
set_option maxHeartbeats 4000000 in
theorem lawFuncPlace (F : Nat → Prop) (x : FunR) (A1 A2 A3 A4 A5 : Option Addr) (c1 c2 c3 c4 c5 : Nat) (n : Int) (w : World) (h : FunIn F w x A1 A2 A3 A4 A5 c1 c2 c3 c4 c5) (hF : ∀ b, F b → b < w.heap.size) (hn64 : I64 n) :
    Calls Try.prog 5 #[funV x A1 A2 A3 A4 A5 c1 c2 c3 c4 c5, .int .i64 n] w fun e w' => e = .returned (.bool true) ∧ Below w.heap.size w w' := by
  obtain ⟨w0, hw0⟩ : ∃ w0, w0 = w.alloc (.cells #[.int .i64 x.seen, .slice A1 x.args.length c1, .slice A2 x.rets.length c2, .slice A3 x.locals.length c3, .slice A4 x.takes.length c4, .slice A5 x.code.length c5] 45) := ⟨_, rfl⟩
  have HB0 := Lib.hid (show Blk w0 w.heap.size 45 #[.int .i64 x.seen, .slice A1 x.args.length c1, .slice A2 x.rets.length c2, .slice A3 x.locals.length c3, .slice A4 x.takes.length c4, .slice A5 x.code.length c5] by rw [hw0]; exact Blk.new _ _ _)
  have HE0 := Lib.hid (show Below w.heap.size w w0 by rw [hw0]; exact (Below.refl _ _).alloc (Nat.le_refl _) _)
  have hs0 : w.heap.size + 1 ≤ w0.heap.size := by rw [hw0]; simp
  have HV0 := Lib.hid (h.keep (w' := w0) fun b hb => HE0.out.block b (hF b hb))
  have HF0 := Lib.hid (show ∀ b, F b → b < w0.heap.size from fun b hb => by have := hF b hb; omega)
  have Hw0 := Lib.hid hw0
  have HC0 := Lib.hid (szFunr_one F A1 A2 A3 A4 A5 _ c1 _ c2 _ c3 _ c4 _ c5 x 1048576 w0 HV0.out HF0.out (by omega) (by omega))
  unfold funV
  clear h hF hw0
  by_cases hz : szFunr x 1048576 < 0
  · clear hs0
    go_enter Try.func5, Try.ntmps5
    go_wp2_with fail
    rw [← Hw0.out]
    refine HC0.out.mono ?_
    rintro e w1 ⟨rfl, hb⟩
    have HE1 := Lib.hid (HE0.out.trans (hb.mono HE0.out.size))
    clear hb HC0
    go_wp2_with fail
    go_ret
    exact ⟨rfl, HE1.out⟩
  · have hsm := smol_funr (x := x) (l := 1048576) (by omega) (by omega) (by omega)
    have hm1 := hsm.1
    have hm2 := hsm.2.2.1
    have HS := Lib.hid hsm
    clear hsm
    go_enter Try.func5, Try.ntmps5
    go_wp2_with fail
    rw [← Hw0.out]
    refine HC0.out.mono ?_
    rintro e w1 ⟨rfl, hb⟩
    have HV1 := Lib.hid (HV0.out.keep (below_keeps hb HF0.out))
    have HF1 := Lib.hid (show ∀ b, F b → b < w1.heap.size from fun b hb' => Nat.lt_of_lt_of_le (HF0.out b hb') hb.size)
    have HB1 := Lib.hid (HB0.out.below hb (by omega))
    obtain ⟨x0, x1, x2, x3, x4, x5⟩ := HB1.out.g6
    have HE1 := Lib.hid (HE0.out.trans (hb.mono HE0.out.size))
    have hs1 := Nat.le_trans hs0 hb.size
    have HC1 := Lib.hid (toFunr_one F A1 A2 A3 A4 A5 _ c1 _ c2 _ c3 _ c4 _ c5 x w1 HV1.out HF1.out HS.out)
    clear hb HC0
    go_wp2_with fail
    refine HC1.out.mono ?_
    rintro e w2 ⟨A1s, c1s, A2s, c2s, A3s, c3s, A4s, c4s, A5s, c5s, rfl, hO, hb⟩
    clear HC1
    clear x0 x1 x2 x3 x4 x5
    have HV2 := Lib.hid (HV1.out.keep (below_keeps hb HF1.out))
    have HF2 := Lib.hid (show ∀ b, F b → b < w2.heap.size from fun b hb' => Nat.lt_of_lt_of_le (HF1.out b hb') hb.size)
    have HB2 := Lib.hid (HB1.out.below hb (by omega))
    obtain ⟨x0, x1, x2, x3, x4, x5⟩ := HB2.out.g6
    have HE2 := Lib.hid (HE1.out.trans (hb.mono HE1.out.size))
    have hs2 := Nat.le_trans hs1 hb.size
    have HCs := Lib.hid (specFuncPlace_any (fun b => w1.heap.size ≤ b ∧ b < w2.heap.size) x A1s A2s A3s A4s A5s c1s c2s c3s c4s c5s n w2 hO.rd (fun b hb => hb.2) hm1 hm2)
    clear hO hb
    unfold funV at HCs
    go_wp2_with fail
    refine HCs.out.mono ?_
    rintro e w3 ⟨rfl, hb⟩
    clear HCs
    clear x0 x1 x2 x3 x4 x5
    have HV3 := Lib.hid (HV2.out.keep (below_keeps hb HF2.out))
    have HF3 := Lib.hid (show ∀ b, F b → b < w3.heap.size from fun b hb' => Nat.lt_of_lt_of_le (HF2.out b hb') hb.size)
    have HB3 := Lib.hid (HB2.out.below hb (by omega))
    obtain ⟨x0, x1, x2, x3, x4, x5⟩ := HB3.out.g6
    have HE3 := Lib.hid (HE2.out.trans (hb.mono HE2.out.size))
    have hs3 := Nat.le_trans hs2 hb.size
    have HC3 := Lib.hid (toFunr_one F A1 A2 A3 A4 A5 _ c1 _ c2 _ c3 _ c4 _ c5 x w3 HV3.out HF3.out HS.out)
    clear hb
    go_wp2_with fail
    refine HC3.out.mono ?_
    rintro e w4 ⟨A1m, c1m, A2m, c2m, A3m, c3m, A4m, c4m, A5m, c5m, rfl, hO, hb⟩
    clear HC3
    clear x0 x1 x2 x3 x4 x5
    have HV4 := Lib.hid (HV3.out.keep (below_keeps hb HF3.out))
    have HF4 := Lib.hid (show ∀ b, F b → b < w4.heap.size from fun b hb' => Nat.lt_of_lt_of_le (HF3.out b hb') hb.size)
    have HB4 := Lib.hid (HB3.out.below hb (by omega))
    obtain ⟨x0, x1, x2, x3, x4, x5⟩ := HB4.out.g6
    have HE4 := Lib.hid (HE3.out.trans (hb.mono HE3.out.size))
    have hs4 := Nat.le_trans hs3 hb.size
    obtain ⟨w5, hw5⟩ : ∃ w5, w5 = w4.alloc (.cells #[.int .i64 x.seen, .slice A1m x.args.length c1m, .slice A2m x.rets.length c2m, .slice A3m x.locals.length c3m, .slice A4m x.takes.length c4m, .slice A5m x.code.length c5m] 37) := ⟨_, rfl⟩
    have hM := hO.rd
    have HX5 := Lib.hid (show Blk w5 w4.heap.size 37 #[.int .i64 x.seen, .slice A1m x.args.length c1m, .slice A2m x.rets.length c2m, .slice A3m x.locals.length c3m, .slice A4m x.takes.length c4m, .slice A5m x.code.length c5m] by rw [hw5]; exact Blk.new _ _ _)
    have hsx : w4.heap.size < w5.heap.size := by rw [hw5]; simp
    clear hb hO
    have hb : Below w4.heap.size w4 w5 := by rw [hw5]; exact (Below.refl _ _).alloc (Nat.le_refl _) _
    have HM5 := Lib.hid (hM.keep (below_keeps hb fun b hb => hb.2))
    have Hw5 := Lib.hid hw5
    clear hw5 hM
    clear x0 x1 x2 x3 x4 x5
    have HV5 := Lib.hid (HV4.out.keep (below_keeps hb HF4.out))
    have HF5 := Lib.hid (show ∀ b, F b → b < w5.heap.size from fun b hb' => Nat.lt_of_lt_of_le (HF4.out b hb') hb.size)
    have HB5 := Lib.hid (HB4.out.below hb (by omega))
    obtain ⟨x0, x1, x2, x3, x4, x5⟩ := HB5.out.g6
    have HE5 := Lib.hid (HE4.out.trans (hb.mono HE4.out.size))
    have hs5 := Nat.le_trans hs4 hb.size
    have HCi := Lib.hid (implFuncPlace_any (fun b => w3.heap.size ≤ b ∧ b < w4.heap.size) x A1m A2m A3m A4m A5m c1m c2m c3m c4m c5m n w5 HM5.out (fun b hb => Nat.lt_trans hb.2 hsx) hm1 hm2 hn64)
    clear hb
    unfold funV at HCi
    clear x0 x1 x2 x3 x4 x5
    go_wp2_with fail
    rw [← Hw5.out]
    refine HCi.out.mono ?_
    rintro e w6 ⟨rfl, hb⟩
    clear HCi
    have HV6 := Lib.hid (HV5.out.keep (below_keeps hb HF5.out))
    have HF6 := Lib.hid (show ∀ b, F b → b < w6.heap.size from fun b hb' => Nat.lt_of_lt_of_le (HF5.out b hb') hb.size)
    have HB6 := Lib.hid (HB5.out.below hb (by omega))
    obtain ⟨x0, x1, x2, x3, x4, x5⟩ := HB6.out.g6
    have HE6 := Lib.hid (HE5.out.trans (hb.mono HE5.out.size))
    have hs6 := Nat.le_trans hs5 hb.size
    have HX6 := Lib.hid (HX5.out.below hb hsx)
    have HM6 := Lib.hid (HM5.out.keep (below_keeps hb fun b hb => Nat.lt_trans hb.2 hsx))
    have hsx6 := Nat.lt_of_lt_of_le hsx hb.size
    have HX6d := Lib.hid (show Blk w6.drew w4.heap.size 37 #[.int .i64 x.seen, .slice A1m x.args.length c1m, .slice A2m x.rets.length c2m, .slice A3m x.locals.length c3m, .slice A4m x.takes.length c4m, .slice A5m x.code.length c5m] from HX6.out)
    have hsx6d : w4.heap.size < w6.drew.heap.size := hsx6
    have HM6d := Lib.hid (HM6.out.keep (w := w6) (w' := w6.drew) fun _ _ => rfl)
    have HC6 := Lib.hid (toFunr_one F A1 A2 A3 A4 A5 _ c1 _ c2 _ c3 _ c4 _ c5 x w6.drew (HV6.out.keep (w := w6) (w' := w6.drew) fun _ _ => rfl) HF6.out HS.out)
    obtain ⟨z0, z1, z2, z3, z4, z5⟩ := HX6.out.g6
    clear hb
    go_wp2_with fail
    go_region_with (first
      | (go_at_call 24; (with_reducible refine HC6.out.mono ?_); rintro e w7 ⟨A1e, c1e, A2e, c2e, A3e, c3e, A4e, c4e, A5e, c5e, rfl, hO, hb⟩; go_must (obtain ⟨y0, y1, y2, y3, y4, y5⟩ := (HX6d.out.below hb hsx6d).g6; have hs67 : w6.heap.size ≤ w7.heap.size := hb.size; have HCe := Lib.hid (eqFunr_one (fun b => b < w7.heap.size) A1m A1e A2m A2e A3m A3e A4m A4e A5m A5e _ c1m _ c1e _ c2m _ c2e _ c3m _ c3e _ c4m _ c4e _ c5m _ c5e x w7 ((HM6d.out.keep (below_keeps hb fun b hb => Nat.lt_trans hb.2 hsx6d)).mono fun b hb => by have := hb.2; omega) (hO.rd.mono fun b hb => hb.2) fun b hb => hb); have HQ0 := Lib.hid hb; clear hO hb))
      | (go_at_call 19; (with_reducible refine HCe.out.mono ?_); rintro e w8 ⟨rfl, hb⟩; go_must (have HQ := Lib.hid (HQ0.out.trans (hb.mono HQ0.out.size)); clear hb)))
    all_goals
      go_wp2
      go_ret
      exact ⟨rfl, HE6.out.drew.trans (HQ.out.mono HE6.out.size)⟩


set_option maxRecDepth 100000 in
theorem liftFuncPlace (os : Os) (started : os.Started) (H : Type) (enc : TypeId × Value → H) :
    ReturnsInHanded {} Try.checked os 5 .any (Rows.fnExactFuncPlaceSpec.pre6 enc Try.prog Try.f5 Rows.fnExactFuncPlaceRow.domain false) (Rows.fnExactFuncPlaceSpec.post enc Try.prog Try.f5 false true false false) := by
  refine returnsInHanded_of_change (C := Try.checked) own_ started (by kernel_rfl) Try.func5
    (ChangeSpec.witness6 (enc := enc) (C := Try.checked) false ⟨#[], #[.agg #[.int .i64 0, .slice none 0 0, .slice none 0 0, .slice none 0 0, .slice none 0 0, .slice none 0 0], .int .i64 0], []⟩ 8 (by kernel_rfl) (by kernel_rfl) (by kernel_rfl) (by kernel_rfl)) ?_
  intro W base args ds gs before hval0 hW _ _
  have hval : ∀ (j : Nat) t v, Try.f5.params[j]? = some t → args[j]? = some v → Value.okWide Try.prog W .any base t v := hval0
  have hW' := hW
  obtain ⟨p, q, hA0, hV, rfl, _, _⟩ := hW
  have hA : DataW.TrodAll enc Try.prog W 0 (fun _ => true) true Try.f5.params.toList args.toList ds p := hA0
  rw [Try.params5] at hA hval
  obtain ⟨v0, v1, d0, d1, p0, p1, rfl, rfl, rfl, h0, h1⟩ := trodAll_two hA
  obtain ⟨rfl, rfl⟩ := trodVars_none hV
  obtain ⟨n, rfl, rfl, rfl, wn⟩ := open_int Try.underlying3 (hval 1 3 v1 rfl rfl) h1
  have hn64 := wf_I64 wn
  obtain ⟨x, u1, u2, u3, u4, u5, rfl, hd⟩ := open_func (hval 0 45 v0 rfl rfl) h0
  clear hA0 hval0
  simp only [List.append_nil] at hW'
  have hlt : ∀ x ∈ p0, x.block < W.heap.size := fun x hx => by simpa using hW'.lt x (by simp [hx])
  obtain ⟨A1, c1, rfl, _⟩ := id hd.args
  obtain ⟨A2, c2, rfl, _⟩ := id hd.rets
  obtain ⟨A3, c3, rfl, _⟩ := id hd.locals
  obtain ⟨A4, c4, rfl, _⟩ := id hd.takes
  obtain ⟨A5, c5, rfl, _⟩ := id hd.code
  refine (lawFuncPlace (Old W) x A1 A2 A3 A4 A5 c1 c2 c3 c4 c5 n W hd (fun b hb => hb) hn64).mono fun e W' ⟨he, hn⟩ => ?_
  subst he
  refine ⟨_, rfl, _, _, _, [], p0 ++ [], [], hW', ?_, ?_, rfl, hn.frame _, fun h => by cases h⟩
  · exact trodAll_mk1 (shut_bool Try.underlying4 true)
  · exact trodAll_mk2 (Below.trod laidOut_ (by kernel_rfl) (of_decide_eq_true (by kernel_rfl)) h0 hn hlt) (shut_int Try.underlying3 wn)

theorem FuncPlace_holds : Rows.FnExactFuncPlaceSaid :=
  OpenClaim.holds_of_wide 5 Try.f5 rfl rfl rfl rfl rfl rfl rfl ⟨rfl, rfl, rfl, rfl, rfl⟩ rfl rfl rfl rfl rfl (by kernel_rfl) Try.func5 (by kernel_rfl)
    (of_decide_eq_true (by kernel_rfl)) (by unfold Func.isWrapper; first | (rw [if_pos (by decide +kernel)]; kernel_rfl) | (rw [if_neg (by decide +kernel)]; exact ⟨rfl, rfl⟩))
    (fun os started H enc _ => liftFuncPlace os started H enc)
end Go.Proofs.Ythhheipinogcoaa
