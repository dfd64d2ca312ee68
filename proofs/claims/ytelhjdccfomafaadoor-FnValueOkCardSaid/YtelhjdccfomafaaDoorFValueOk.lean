/- Whatever the code, the law of ValueOk answers true: of what is drawn the program's ValueOk is the model's, and a value is one just if it has a text. -/
import Derived.Test.YtelhjdccfomafaaDoorFvValueOk
import Derived.Test.YtelhjdccfomafaaDoorFw
import Derived.Test.YtelhjdccfomafaaDoorVuc
import Derived.Lib.LaidTab
import Derived.LaidMore
import Derived.Stop.Joined
import Derived.Stop.LaidErr
import Derived.LaidByTextLater
import Derived.SevenTiedAt
import Derived.ProofKit
import Derived.OpenShut
import Derived.Test.YtelhjdccfomafaaDoorTie
import Derived.Test.YtelhjdccfomafaaDoorCards
import Derived.Deep.DeepCutAuto
namespace Go.Proofs.YtelhjdccfomafaaDoor
open Go.ChangeShapes Go.WideShapes Go.ChangeAt Go.RowKit Go.Deep
open Go.ChangeMaps (open_string shut_string)

set_option maxRecDepth 100000 in
set_option maxHeartbeats 4000000 in
theorem fnValueOk (F : Nat → Prop) (v : Value) (xs : List Nat) (w : World) (h : Cod.u8.Sl F w v xs) (hF : ∀ b, F b → b < w.heap.size) (htab : Lib.TabBelow Tryd.prog w.heap.size w tabN .u64 Lib.pow10Tab) :
    Calls Tryd.prog 3 #[v] w fun e w' => e = .returned (.bool true) ∧ Below w.heap.size w w' := by
  have HS := Lib.hid h
  have HTab := Lib.hid htab
  obtain ⟨A, cap, rfl, hlc, hcm, _⟩ := h
  unfold maxLen at hcm
  clear htab
  by_cases hl : 1048576 < xs.length
  · go_enter Tryd.func3, Tryd.ntmps3
    go_wp2
    go_ret
    exact ⟨rfl, Below.refl _ _⟩
  · go_enter Tryd.func3, Tryd.ntmps3
    go_wp2_with fail
    refine (drawValueOk_any F _ xs w HS.out hF).mono ?_
    rintro e w1 ⟨ad, cap, ks, v, A, c, B, c', rfl, hK, hV, hm, hlen⟩
    have HK := Lib.hid hK
    have Hm := Lib.hid hm
    have HE1 := Lib.hid hK.2
    obtain ⟨wA, hwA⟩ : ∃ wA, wA = w1.alloc (.cells #[.string v.ty, .int .i64 v.n, .slice A v.parts.length c, .slice B v.path.length c'] 27) := ⟨_, rfl⟩
    have hbA : Below w1.heap.size w1 wA := by rw [hwA]; exact (Below.refl _ _).alloc (Nat.le_refl _) _
    have HBA := Lib.hid (show Blk wA w1.heap.size 27 #[.string v.ty, .int .i64 v.n, .slice A v.parts.length c, .slice B v.path.length c'] by rw [hwA]; exact Blk.new _ _ _)
    have HKA := Lib.hid (hK.on hbA)
    have HVA := Lib.hid (MadeV.drawn hV hbA)
    have hlA : w1.heap.size < wA.heap.size := by rw [hwA]; simp
    have HwA := Lib.hid hwA
    clear hK hV hm hbA hwA
    go_upto_region 4 with fail
    rw [← HwA.out]
    obtain ⟨x0, x1, x2, x3⟩ := HBA.out.c2
    go_wp2_with fail
    refine (implValueOk_any (d := 9) (Fresh w wA) _ A B _ _ c c' v wA HKA.out.1 HVA.out (fun b hb => hb.2)).mono ?_
    rintro e w2 ⟨rfl, hb2⟩
    have HK2 := Lib.hid (HKA.out.on hb2)
    have HV2 := Lib.hid (MadeV.drawn HVA.out hb2)
    have HB2 := Lib.hid (HBA.out.below hb2 hlA)
    have hl2 := Nat.lt_of_lt_of_le hlA hb2.size
    have HT2 := Lib.hid (tab_up HTab.out HK2.out.2 HK2.out.2.size)
    clear hb2 x0 x1 x2 x3
    obtain ⟨x0, x1, x2, x3⟩ := HB2.out.c2
    go_wp2_with fail
    refine (specValueOk_any (d := 9) (Fresh w w2) _ A B _ _ c c' v w2 HK2.out.1 HV2.out (fun b hb => hb.2)).mono ?_
    rintro e w3 ⟨rfl, hb3⟩
    have HK3 := Lib.hid (HK2.out.on hb3)
    have HV3 := Lib.hid (MadeV.drawn HV2.out hb3)
    have HB3 := Lib.hid (HB2.out.below hb3 hl2)
    have hl3 := Nat.lt_of_lt_of_le hl2 hb3.size
    have HT3 := Lib.hid (tab_up HTab.out HK3.out.2 HK3.out.2.size)
    clear hb3 x0 x1 x2 x3
    obtain ⟨x0, x1, x2, x3⟩ := HB3.out.c2
    have HX := Lib.hid (textVal_empty (ks := ks) (d := 9) (v := v))
    have HC := Lib.hid (implValueText_any (ks := ks) (d := 9) (Fresh w w3) (.slice (some ⟨ad, 0, none⟩) ks.length cap) A B _ _ c c' v w3 HK3.out.1 HV3.out (fun b hb => hb.2) Hm.out HT3.out)
    generalize textVal ks 9 v = s at *
    cases hk : valOk ks 9 v
    · have t1 : s.toList.isEmpty = true := by rw [HX.out, hk]; rfl
      have t2 : (s.toList == []) = true := by rw [beq_iff_eq]; exact List.isEmpty_iff.1 t1
      clear hk
      go_wp2_with fail
      refine HC.out.mono ?_
      rintro e w4 ⟨rfl, hb4⟩
      have HE4 := Lib.hid (HK3.out.2.trans (hb4.mono HK3.out.2.size))
      clear hb4
      go_wp2
      go_ret
      exact ⟨rfl, HE4.out⟩
    · have t1 : s.toList.isEmpty = false := by rw [HX.out, hk]; rfl
      have t2 : (s.toList == []) = false := by rw [beq_eq_false_iff_ne]; intro e; rw [e] at t1; cases t1
      clear hk
      go_wp2_with fail
      refine HC.out.mono ?_
      rintro e w4 ⟨rfl, hb4⟩
      have HE4 := Lib.hid (HK3.out.2.trans (hb4.mono HK3.out.2.size))
      clear hb4
      go_wp2
      go_ret
      exact ⟨rfl, HE4.out⟩

/-- What the row lists. -/
def laidFnValueOk : List (String × DataW Unit) := Rows.fnValueOkRow.laid
set_option maxRecDepth 100000 in
theorem door_metFnValueOk (os : Os) (args : Array Value) : laidMetH Tryd.prog laidFnValueOk ((World.doorLaid Tryd.prog 400 os).forCall (fun _ _ => 0) ⟨#[], args, []⟩).memory :=
  laidMetH_of_parts3 (fuel := 8) (laidMet_of_run' 8 (by kernel_rfl) (by kernel_rfl)) (by kernel_rfl) (by kernel_rfl)
set_option maxRecDepth 100000 in
theorem tab_of_laidFnValueOk {W : World} (h : laidMetH Tryd.prog laidFnValueOk W) : Lib.TabBelow Tryd.prog W.heap.size W tabN .u64 Lib.pow10Tab := by
  rw [MakeChecks.laidMetH_plain _ _ _ (by kernel_rfl)] at h
  refine Lib.tabBelow_of_tabIs ?_
  have h2 := laidMet.tail (laidMet.tail h)
  exact Lib.tabIs_of_head (g := 0) (t := 103) (e := 95) (n := 20) (by kernel_rfl) (by kernel_rfl) Tryd.underlying103 Tryd.underlying95 (by kernel_rfl) (by kernel_rfl) h2

set_option maxRecDepth 100000 in
theorem liftFnValueOk (os : Os) (started : os.Started) (H : Type) (enc : TypeId × Value → H) :
    ReturnsInHanded {} Tryd.checked os 3 .any (fun w args => (Rows.fnValueOkSpec.pre enc Tryd.prog Tryd.f3 [] false w args ∧ laidMetH Tryd.prog laidFnValueOk w) ∧ sizedMet enc Tryd.prog Tryd.f3 (OpenSpec.ofChange Rows.fnValueOkSpec) false w args)
      (Rows.fnValueOkSpec.post enc Tryd.prog Tryd.f3 false true false false) := by
  refine returnsInHanded_of_change_and (C := Tryd.checked) (X := fun w _ => laidMetH Tryd.prog laidFnValueOk w) (fun _ _ _ hh h => h.of_heap hh) own_ started (by kernel_rfl) Tryd.func3
    (ChangeSpec.witness_shaped (enc := enc) (C := Tryd.checked) (os := os) (X := fun w _ => laidMetH Tryd.prog laidFnValueOk w) false (World.doorLaid Tryd.prog 400 os) #[.slice none 0 0] 8 rfl (World.shaped_of_RefB (by kernel_rfl) (by kernel_rfl)) (by kernel_rfl) (by kernel_rfl) (by kernel_rfl) (door_metFnValueOk os _)) ?_
  intro W base args ds gs before hval0 hW _ _ hL _
  have htab := tab_of_laidFnValueOk hL
  have hval : ∀ (j : Nat) t v, Tryd.f3.params[j]? = some t → args[j]? = some v → Value.okWide Tryd.prog W .any base t v := hval0
  have hW' := hW
  obtain ⟨p, q, hA0, hV, rfl, _, _⟩ := hW
  have hA : DataW.TrodAll enc Tryd.prog W 0 (fun _ => true) true Tryd.f3.params.toList args.toList ds p := hA0
  rw [Tryd.params3] at hA hval
  obtain ⟨v0, d0, rfl, rfl, h0⟩ := trodAll_one hA
  obtain ⟨rfl, rfl⟩ := trodVars_none hV
  obtain ⟨xs, hxs⟩ := open_code (hval 0 22 v0 rfl rfl) h0
  clear hA0 hval0
  simp only [List.append_nil] at hW'
  have hlt : ∀ x ∈ p, x.block < W.heap.size := fun x hx => by simpa using hW'.lt x (by simp [hx])
  refine (fnValueOk (Old W) v0 xs W hxs (fun b hb => hb) htab).mono fun e W' ⟨he, hn⟩ => ?_
  subst he
  refine ⟨_, rfl, _, _, _, [], p, [], hW', ?_, ?_, rfl, hn.frame _, fun h => by cases h⟩
  · exact trodAll_mk1 (shut_bool Tryd.underlying4 true)
  · exact trodAll_mk1 (Below.trod laidOut_ (by kernel_rfl) (of_decide_eq_true (by kernel_rfl)) h0 hn hlt)

theorem FnValueOk_holds : Rows.FnValueOkSaid :=
  OpenClaim.holds_of_wide 3 Tryd.f3 rfl rfl rfl rfl rfl rfl rfl ⟨rfl, rfl, rfl, rfl, rfl⟩ rfl rfl rfl rfl rfl (by kernel_rfl) Tryd.func3 (by kernel_rfl)
    (of_decide_eq_true (by kernel_rfl)) (by unfold Func.isWrapper; first | (rw [if_pos (by decide +kernel)]; kernel_rfl) | (rw [if_neg (by decide +kernel)]; exact ⟨rfl, rfl⟩))
    (fun os started H enc _ => liftFnValueOk os started H enc)
theorem FnValueOk_card : Rows.FnValueOkCardSaid :=
  Claim7.holds_tied_plain_at .later [] [.data, .data, .data] true (true, "aece749cf4b2eef9a624bae3752975545439552f2e837902540f5be2d6540414") false
    FnValueOk_holds (fun _ h => by cases h) (by kernel_rfl) (fun _ h => by cases h) fnValueOk_row_tie rfl ⟨rfl, rfl⟩ (by kernel_rfl) rfl
    (fun f fn hf hfn => by
      obtain rfl : f = 3 := Option.some.inj ((show Tryd.prog.funcNamed Rows.fnValueOkRow.func = some 3 by kernel_rfl).symm.trans hf) |>.symm
      obtain rfl : fn = Tryd.f3 := (Option.some.inj (Tryd.func3.symm.trans hfn)).symm
      exact ⟨by kernel_rfl, fun j t ht => by
        rw [Tryd.params3] at ht
        have hm : t ∈ [22] := by simpa using Array.mem_of_getElem? ht
        have hall : ([22].all fun u => !Tryd.prog.wantsStandIn u) = true := by kernel_rfl
        exact (show Tryd.prog.wantsStandIn t = false by simpa using List.all_eq_true.1 hall t hm)⟩)
    (by kernel_rfl)
end Go.Proofs.YtelhjdccfomafaaDoor
