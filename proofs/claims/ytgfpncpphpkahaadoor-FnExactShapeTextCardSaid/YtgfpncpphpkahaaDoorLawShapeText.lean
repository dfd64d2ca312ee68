/- Whatever the arguments, the exact law of ShapeText answers true: the program's ShapeText is the model's, and leaves its arguments alone. -/
import Derived.Test.YtgfpncpphpkahaaDoorJr
import Derived.Lib.LaidTab
import Derived.LaidMore
import Derived.Stop.Joined
import Derived.Stop.LaidErr
import Derived.LaidByTextLater
import Derived.SevenTiedAt
import Derived.ProofKit
import Derived.OpenShut
import Derived.Test.YtgfpncpphpkahaaDoorTie
import Derived.Test.YtgfpncpphpkahaaDoorCards
import Derived.Test.YtgfpncpphpkahaaDoorJt
import Derived.Test.YtgfpncpphpkahaaDoorJe
import Derived.Test.YtgfpncpphpkahaaDoorJo
namespace Go.Proofs.YtgfpncpphpkahaaDoor
open Go.ChangeShapes Go.WideShapes Go.ChangeAt Go.RowKit Go.Deep
open Go.ChangeMaps (open_string shut_string)

set_option maxRecDepth 100000 in
set_option maxHeartbeats 4000000 in
theorem lawShapeText (F : Nat → Prop) (x : ShapeR) (A0 A1 : Option Addr) (c0 c1 : Nat) (w : World) (h : ShapeRd F w (.slice A0 x.stack.length c0) (.slice A1 x.places.length c1) x) (hF : ∀ b, F b → b < w.heap.size) (htab : Lib.TabBelow Tryd.prog w.heap.size w tabN .u64 Lib.pow10Tab) :
    Calls Tryd.prog 5 #[.agg #[.slice A0 x.stack.length c0, .slice A1 x.places.length c1]] w fun e w' => e = .returned (.bool true) ∧ Below w.heap.size w w' := by
  obtain ⟨w0, hw0⟩ : ∃ w0, w0 = w.alloc (.cells #[.slice A0 x.stack.length c0, .slice A1 x.places.length c1] 38) := ⟨_, rfl⟩
  have HB0 := Lib.hid (show Blk w0 w.heap.size 38 #[.slice A0 x.stack.length c0, .slice A1 x.places.length c1] by rw [hw0]; exact Blk.new _ _ _)
  have HE0 := Lib.hid (show Below w.heap.size w w0 by rw [hw0]; exact (Below.refl _ _).alloc (Nat.le_refl _) _)
  have hs0 : w.heap.size + 1 ≤ w0.heap.size := by rw [hw0]; simp
  have HV0 := Lib.hid (h.keep (w' := w0) fun b hb => HE0.out.block b (hF b hb))
  have HF0 := Lib.hid (show ∀ b, F b → b < w0.heap.size from fun b hb => by have := hF b hb; omega)
  have Hw0 := Lib.hid hw0
  have HC0 := Lib.hid (szShaper_one F A0 A1 _ c0 _ c1 x 1048576 w0 HV0.out HF0.out (by omega) (by omega))
  have HT := Lib.hid htab
  clear h hF hw0 htab
  by_cases hz : szShaper x 1048576 < 0
  · clear hs0
    go_enter Tryd.func5, Tryd.ntmps5
    go_wp2_with fail
    rw [← Hw0.out]
    refine HC0.out.mono ?_
    rintro e w1 ⟨rfl, hb⟩
    have HE1 := Lib.hid (HE0.out.trans (hb.mono HE0.out.size))
    clear hb HC0
    go_wp2_with fail
    go_ret
    exact ⟨rfl, HE1.out⟩
  · have hsm := smol_shaper (x := x) (l := 1048576) (by omega) (by omega) (by omega)
    have HS := Lib.hid hsm
    have HFew := Lib.hid (szShaper_few (x := x) (by omega))
    clear hsm
    go_enter Tryd.func5, Tryd.ntmps5
    go_wp2_with fail
    rw [← Hw0.out]
    refine HC0.out.mono ?_
    rintro e w1 ⟨rfl, hb⟩
    have HV1 := Lib.hid (HV0.out.keep (below_keeps hb HF0.out))
    have HF1 := Lib.hid (show ∀ b, F b → b < w1.heap.size from fun b hb' => Nat.lt_of_lt_of_le (HF0.out b hb') hb.size)
    have HB1 := Lib.hid (HB0.out.below hb (by omega))
    obtain ⟨x0, x1⟩ := HB1.out.g2
    have HE1 := Lib.hid (HE0.out.trans (hb.mono HE0.out.size))
    have hs1 := Nat.le_trans hs0 hb.size
    clear HC0
    have HC1 := Lib.hid (toShaper_one F A0 A1 _ c0 _ c1 x w1 HV1.out HF1.out HS.out)
    clear hb
    go_wp2_with fail
    refine HC1.out.mono ?_
    rintro e w2 ⟨A0s, c0s, A1s, c1s, rfl, hO, hb⟩
    clear HC1 x0 x1
    have HV2 := Lib.hid (HV1.out.keep (below_keeps hb HF1.out))
    have HF2 := Lib.hid (show ∀ b, F b → b < w2.heap.size from fun b hb' => Nat.lt_of_lt_of_le (HF1.out b hb') hb.size)
    have HB2 := Lib.hid (HB1.out.below hb (by omega))
    obtain ⟨x0, x1⟩ := HB2.out.g2
    have HE2 := Lib.hid (HE1.out.trans (hb.mono HE1.out.size))
    have hs2 := Nat.le_trans hs1 hb.size
    have HCs := Lib.hid (specShapeText_any (fun b => w1.heap.size ≤ b ∧ b < w2.heap.size) A0s A1s _ c0s _ c1s x w2 hO.rd (fun b hb => hb.2) HFew.out)
    clear hO hb
    go_wp2_with fail
    refine HCs.out.mono ?_
    rintro e w3 ⟨rfl, hb⟩
    clear HCs x0 x1
    have HV3 := Lib.hid (HV2.out.keep (below_keeps hb HF2.out))
    have HF3 := Lib.hid (show ∀ b, F b → b < w3.heap.size from fun b hb' => Nat.lt_of_lt_of_le (HF2.out b hb') hb.size)
    have HB3 := Lib.hid (HB2.out.below hb (by omega))
    obtain ⟨x0, x1⟩ := HB3.out.g2
    have HE3 := Lib.hid (HE2.out.trans (hb.mono HE2.out.size))
    have hs3 := Nat.le_trans hs2 hb.size
    have HC3 := Lib.hid (toShaper_one F A0 A1 _ c0 _ c1 x w3 HV3.out HF3.out HS.out)
    clear hb
    go_wp2_with fail
    refine HC3.out.mono ?_
    rintro e w4 ⟨A0m, c0m, A1m, c1m, rfl, hO, hb⟩
    clear HC3 x0 x1
    have HV4 := Lib.hid (HV3.out.keep (below_keeps hb HF3.out))
    have HF4 := Lib.hid (show ∀ b, F b → b < w4.heap.size from fun b hb' => Nat.lt_of_lt_of_le (HF3.out b hb') hb.size)
    have HB4 := Lib.hid (HB3.out.below hb (by omega))
    obtain ⟨x0, x1⟩ := HB4.out.g2
    have HE4 := Lib.hid (HE3.out.trans (hb.mono HE3.out.size))
    have hs4 := Nat.le_trans hs3 hb.size
    obtain ⟨w5, hw5⟩ : ∃ w5, w5 = w4.alloc (.cells #[.slice A0m x.stack.length c0m, .slice A1m x.places.length c1m] 26) := ⟨_, rfl⟩
    have hM := hO.rd
    have HX5 := Lib.hid (show Blk w5 w4.heap.size 26 #[.slice A0m x.stack.length c0m, .slice A1m x.places.length c1m] by rw [hw5]; exact Blk.new _ _ _)
    have hsx : w4.heap.size < w5.heap.size := by rw [hw5]; simp
    clear hb hO
    have hb : Below w4.heap.size w4 w5 := by rw [hw5]; exact (Below.refl _ _).alloc (Nat.le_refl _) _
    have HM5 := Lib.hid (hM.keep (below_keeps hb fun b hb => hb.2))
    have Hw5 := Lib.hid hw5
    clear hw5 hM x0 x1
    have HV5 := Lib.hid (HV4.out.keep (below_keeps hb HF4.out))
    have HF5 := Lib.hid (show ∀ b, F b → b < w5.heap.size from fun b hb' => Nat.lt_of_lt_of_le (HF4.out b hb') hb.size)
    have HB5 := Lib.hid (HB4.out.below hb (by omega))
    obtain ⟨x0, x1⟩ := HB5.out.g2
    have HE5 := Lib.hid (HE4.out.trans (hb.mono HE4.out.size))
    have hs5 := Nat.le_trans hs4 hb.size
    have HCi := Lib.hid (implShapeText_any (fun b => w3.heap.size ≤ b ∧ b < w4.heap.size) A0m A1m c0m c1m x w5 HM5.out (fun b hb => Nat.lt_trans hb.2 hsx) HFew.out (tab_up HT.out HE5.out HE5.out.size))
    clear hb x0 x1
    go_wp2_with fail
    rw [← Hw5.out]
    refine HCi.out.mono ?_
    rintro e w6 ⟨rfl, hb⟩
    clear HCi
    have HV6 := Lib.hid (HV5.out.keep (below_keeps hb HF5.out))
    have HF6 := Lib.hid (show ∀ b, F b → b < w6.heap.size from fun b hb' => Nat.lt_of_lt_of_le (HF5.out b hb') hb.size)
    have HB6 := Lib.hid (HB5.out.below hb (by omega))
    obtain ⟨x0, x1⟩ := HB6.out.g2
    have HE6 := Lib.hid (HE5.out.trans (hb.mono HE5.out.size))
    have hs6 := Nat.le_trans hs5 hb.size
    have HX6 := Lib.hid (HX5.out.below hb hsx)
    have HM6 := Lib.hid (HM5.out.keep (below_keeps hb fun b hb => Nat.lt_trans hb.2 hsx))
    have hsx6 := Nat.lt_of_lt_of_le hsx hb.size
    have HX6d := Lib.hid (show Blk w6.drew w4.heap.size 26 #[.slice A0m x.stack.length c0m, .slice A1m x.places.length c1m] from HX6.out)
    have hsx6d : w4.heap.size < w6.drew.heap.size := hsx6
    have HM6d := Lib.hid (HM6.out.keep (w := w6) (w' := w6.drew) fun _ _ => rfl)
    have HC6 := Lib.hid (toShaper_one F A0 A1 _ c0 _ c1 x w6.drew (HV6.out.keep (w := w6) (w' := w6.drew) fun _ _ => rfl) HF6.out HS.out)
    obtain ⟨z0, z1⟩ := HX6.out.g2
    clear hb
    go_wp2_with fail
    go_region_with (first
      | (go_at_call 17; (with_reducible refine HC6.out.mono ?_); rintro e w7 ⟨A0e, c0e, A1e, c1e, rfl, hO, hb⟩; go_must (obtain ⟨y0, y1⟩ := (HX6d.out.below hb hsx6d).g2; have hs67 : w6.heap.size ≤ w7.heap.size := hb.size; have HCe := Lib.hid (eqShaper_one (fun b => b < w7.heap.size) A0m A0e A1m A1e _ c0m _ c0e _ c1m _ c1e x w7 ((HM6d.out.keep (below_keeps hb fun b hb => Nat.lt_trans hb.2 hsx6d)).mono fun b hb => by have := hb.2; omega) (hO.rd.mono fun b hb => hb.2) fun b hb => hb); have HQ0 := Lib.hid hb; clear hO hb))
      | (go_at_call 10; (with_reducible refine HCe.out.mono ?_); rintro e w8 ⟨rfl, hb⟩; go_must (have HQ := Lib.hid (HQ0.out.trans (hb.mono HQ0.out.size)); clear hb)))
    all_goals
      go_wp2
      go_ret
      exact ⟨rfl, HE6.out.drew.trans (HQ.out.mono HE6.out.size)⟩

/-- What the row lists. -/
def laidSt : List (String × DataW Unit) := Rows.fnExactShapeTextRow.laid
set_option maxRecDepth 100000 in
theorem door_metSt (os : Os) (args : Array Value) : laidMetH Tryd.prog laidSt ((World.doorLaid Tryd.prog 400 os).forCall (fun _ _ => 0) ⟨#[], args, []⟩).memory :=
  laidMetH_of_parts3 (fuel := 8) (laidMet_of_run' 8 (by kernel_rfl) (by kernel_rfl)) (by kernel_rfl) (by kernel_rfl)
set_option maxRecDepth 100000 in
theorem tab_of_laidSt {W : World} (h : laidMetH Tryd.prog laidSt W) : Lib.TabBelow Tryd.prog W.heap.size W tabN .u64 Lib.pow10Tab := by
  rw [MakeChecks.laidMetH_plain _ _ _ (by kernel_rfl)] at h
  refine Lib.tabBelow_of_tabIs ?_
  have h2 := laidMet.tail (laidMet.tail h)
  exact Lib.tabIs_of_head (g := 2) (t := 192) (e := 163) (n := 20) (by kernel_rfl) (by kernel_rfl) Tryd.underlying192 Tryd.underlying163 (by kernel_rfl) (by kernel_rfl) h2

set_option maxRecDepth 100000 in
theorem liftShapeText (os : Os) (started : os.Started) (H : Type) (enc : TypeId × Value → H) :
    ReturnsInHanded {} Tryd.checked os 5 .any (fun w args => (Rows.fnExactShapeTextSpec.pre enc Tryd.prog Tryd.f5 [] false w args ∧ laidMetH Tryd.prog laidSt w) ∧ sizedMet enc Tryd.prog Tryd.f5 (OpenSpec.ofChange Rows.fnExactShapeTextSpec) false w args)
      (Rows.fnExactShapeTextSpec.post enc Tryd.prog Tryd.f5 false true false false) := by
  refine returnsInHanded_of_change_and (C := Tryd.checked) (X := fun w _ => laidMetH Tryd.prog laidSt w) (fun _ _ _ hh h => h.of_heap hh) own_ started (by kernel_rfl) Tryd.func5
    (ChangeSpec.witness_shaped (enc := enc) (C := Tryd.checked) (os := os) (X := fun w _ => laidMetH Tryd.prog laidSt w) false (World.doorLaid Tryd.prog 400 os) #[.agg #[.slice none 0 0, .slice none 0 0]] 8 rfl (World.shaped_of_RefB (by kernel_rfl) (by kernel_rfl)) (by kernel_rfl) (by kernel_rfl) (by kernel_rfl) (door_metSt os _)) ?_
  intro W base args ds gs before hval0 hW _ _ hL _
  have htab := tab_of_laidSt hL
  have hval : ∀ (j : Nat) t v, Tryd.f5.params[j]? = some t → args[j]? = some v → Value.okWide Tryd.prog W .any base t v := hval0
  have hW' := hW
  obtain ⟨p, q, hA0, hV, rfl, _, _⟩ := hW
  have hA : DataW.TrodAll enc Tryd.prog W 0 (fun _ => true) true Tryd.f5.params.toList args.toList ds p := hA0
  rw [Tryd.params5] at hA hval
  obtain ⟨v0, d0, rfl, rfl, h0⟩ := trodAll_one hA
  obtain ⟨rfl, rfl⟩ := trodVars_none hV
  obtain ⟨x, u0, u1, rfl, hd⟩ := open_shape (hval 0 38 v0 rfl rfl) h0
  clear hA0 hval0
  simp only [List.append_nil] at hW'
  have hlt : ∀ x ∈ p, x.block < W.heap.size := fun x hx => by simpa using hW'.lt x (by simp [hx])
  obtain ⟨A0, c0, rfl, _⟩ := id hd.stack
  obtain ⟨A1, c1, rfl, _⟩ := id hd.places
  refine (lawShapeText (Old W) x A0 A1 c0 c1 W hd (fun b hb => hb) htab).mono fun e W' ⟨he, hn⟩ => ?_
  subst he
  refine ⟨_, rfl, _, _, _, [], p, [], hW', ?_, ?_, rfl, hn.frame _, fun h => by cases h⟩
  · exact trodAll_mk1 (shut_bool Tryd.underlying4 true)
  · exact trodAll_mk1 (Below.trod laidOut_ (by kernel_rfl) (of_decide_eq_true (by kernel_rfl)) h0 hn hlt)

theorem ShapeText_holds : Rows.FnExactShapeTextSaid :=
  OpenClaim.holds_of_wide 5 Tryd.f5 rfl rfl rfl rfl rfl rfl rfl ⟨rfl, rfl, rfl, rfl, rfl⟩ rfl rfl rfl rfl rfl (by kernel_rfl) Tryd.func5 (by kernel_rfl)
    (of_decide_eq_true (by kernel_rfl)) (by unfold Func.isWrapper; first | (rw [if_pos (by decide +kernel)]; kernel_rfl) | (rw [if_neg (by decide +kernel)]; exact ⟨rfl, rfl⟩))
    (fun os started H enc _ => liftShapeText os started H enc)
theorem ShapeText_card : Rows.FnExactShapeTextCardSaid :=
  Claim7.holds_tied_plain_at .later [] [.data, .data, .data] true (true, "f1a3abb38f333082fc2c64d574c2ba271c18911d4a6c8887dd6ec3c438fcd491") false
    ShapeText_holds (fun _ h => by cases h) (by kernel_rfl) (fun _ h => by cases h) fnExactShapeText_row_tie rfl ⟨rfl, rfl⟩ (by kernel_rfl) rfl
    (fun f fn hf hfn => by
      obtain rfl : f = 5 := Option.some.inj ((show Tryd.prog.funcNamed Rows.fnExactShapeTextRow.func = some 5 by kernel_rfl).symm.trans hf) |>.symm
      obtain rfl : fn = Tryd.f5 := (Option.some.inj (Tryd.func5.symm.trans hfn)).symm
      exact ⟨by kernel_rfl, fun j t ht => by
        rw [Tryd.params5] at ht
        have hm : t ∈ [38] := by simpa using Array.mem_of_getElem? ht
        have hall : ([38].all fun u => !Tryd.prog.wantsStandIn u) = true := by kernel_rfl
        exact (show Tryd.prog.wantsStandIn t = false by simpa using List.all_eq_true.1 hall t hm)⟩)
    (by kernel_rfl)
end Go.Proofs.YtgfpncpphpkahaaDoor
