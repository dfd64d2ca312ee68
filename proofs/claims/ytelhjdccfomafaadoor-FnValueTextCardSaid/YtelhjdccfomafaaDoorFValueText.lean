/- Whatever the code, the law of ValueText answers true: of what is drawn the program's ValueText is the model's, and what is written is read back. -/
import Derived.Test.YtelhjdccfomafaaDoorFvValueText
import Derived.Test.YtelhjdccfomafaaDoorFw
import Derived.Test.YtelhjdccfomafaaDoorFx
import Derived.Test.YtelhjdccfomafaaDoorVuc
import Derived.Test.YtelhjdccfomafaaDoorRs
import Derived.Lib.LaidTab
import Derived.LaidMore
import Derived.Stop.Joined
import Derived.Stop.LaidErr
import Derived.LaidByTextLater
import Derived.SevenTiedAt
import Derived.ProofKit
import Derived.OpenShut
import Derived.Test.YtelhjdccfomafaaDoorTie
import Derived.Test.YtelhjdccfomafaaDoorCards
import Derived.Deep.DeepCutAuto
namespace Go.Proofs.YtelhjdccfomafaaDoor
open Go.ChangeShapes Go.WideShapes Go.ChangeAt Go.RowKit Go.Deep
open Go.ChangeMaps (open_string shut_string)

set_option maxRecDepth 100000 in
set_option maxHeartbeats 4000000 in
theorem fnValueText (F : Nat → Prop) (v : Value) (xs : List Nat) (w : World) (h : Cod.u8.Sl F w v xs) (hF : ∀ b, F b → b < w.heap.size) (htab : Lib.TabBelow Tryd.prog w.heap.size w tabN .u64 Lib.pow10Tab) :
    Calls Tryd.prog 4 #[v] w fun e w' => e = .returned (.bool true) ∧ Below w.heap.size w w' := by
  have HS := Lib.hid h
  have HTab := Lib.hid htab
  obtain ⟨A, cap, rfl, hlc, hcm, _⟩ := h
  unfold maxLen at hcm
  clear htab
  by_cases hl : 1048576 < xs.length
  · go_enter Tryd.func4, Tryd.ntmps4
    go_wp2
    go_ret
    exact ⟨rfl, Below.refl _ _⟩
  · go_enter Tryd.func4, Tryd.ntmps4
    go_wp2_with fail
    refine (drawValueText_any F _ xs w HS.out hF).mono ?_
    rintro e w1 ⟨ad, cap, ks, v, A, c, B, c', rfl, hK, hV, hm, hlen⟩
    have HK := Lib.hid hK
    have Hm := Lib.hid hm
    have HE1 := Lib.hid hK.2
    obtain ⟨wA, hwA⟩ : ∃ wA, wA = w1.alloc (.cells #[.string v.ty, .int .i64 v.n, .slice A v.parts.length c, .slice B v.path.length c'] 27) := ⟨_, rfl⟩
    have hbA : Below w1.heap.size w1 wA := by rw [hwA]; exact (Below.refl _ _).alloc (Nat.le_refl _) _
    have HBA := Lib.hid (show Blk wA w1.heap.size 27 #[.string v.ty, .int .i64 v.n, .slice A v.parts.length c, .slice B v.path.length c'] by rw [hwA]; exact Blk.new _ _ _)
    have HKA := Lib.hid (hK.on hbA)
    have HVA := Lib.hid (MadeV.drawn hV hbA)
    have hlA : w1.heap.size < wA.heap.size := by rw [hwA]; simp
    have HwA := Lib.hid hwA
    clear hK hV hm hbA hwA
    go_upto_region 4 with fail
    rw [← HwA.out]
    obtain ⟨x0, x1, x2, x3⟩ := HBA.out.c2
    go_wp2_with fail
    refine (implValueText_any (d := 9) (Fresh w wA) _ A B _ _ c c' v wA HKA.out.1 HVA.out (fun b hb => hb.2) Hm.out (tab_up HTab.out HKA.out.2 HKA.out.2.size)).mono ?_
    rintro e w2 ⟨rfl, hb2⟩
    have HK2 := Lib.hid (HKA.out.on hb2)
    have HV2 := Lib.hid (MadeV.drawn HVA.out hb2)
    have HB2 := Lib.hid (HBA.out.below hb2 hlA)
    have hl2 := Nat.lt_of_lt_of_le hlA hb2.size
    have HT2 := Lib.hid (tab_up HTab.out HK2.out.2 HK2.out.2.size)
    clear hb2 x0 x1 x2 x3
    obtain ⟨x0, x1, x2, x3⟩ := HB2.out.c2
    go_wp2_with fail
    refine (specValueText_any (d := 9) (Fresh w w2) _ A B _ _ c c' v w2 HK2.out.1 HV2.out (fun b hb => hb.2) Hm.out).mono ?_
    rintro e w3 ⟨rfl, hb3⟩
    have HK3 := Lib.hid (HK2.out.on hb3)
    have HV3 := Lib.hid (MadeV.drawn HV2.out hb3)
    have HB3 := Lib.hid (HB2.out.below hb3 hl2)
    have hl3 := Nat.lt_of_lt_of_le hl2 hb3.size
    have HT3 := Lib.hid (tab_up HTab.out HK3.out.2 HK3.out.2.size)
    clear hb3 x0 x1 x2 x3
    obtain ⟨x0, x1, x2, x3⟩ := HB3.out.c2
    have HRT := Lib.hid (fun (D : Nat) (u : Val) (b : Bool) (h : AnsD ks (textVal ks 9 v) D b u) => read_text (d := 9) (v := v) h)
    have hsm := textVal_small ks 9 v
    generalize textVal ks 9 v = s at *
    have HC := Lib.hid ((implValueRead_any (ks := ks) (Fresh w w3) (.slice (some ⟨ad, 0, none⟩) ks.length cap) s w3 HK3.out.1 (fun b hb => hb.2) (by omega)).mono fun e w' h => ReadE.ans h)
    go_wp2_with fail
    refine HC.out.mono ?_
    rintro e w4 ⟨hb4, b, u, A4, c4, rfl, hup, hans, hov⟩
    obtain ⟨hbv, huv⟩ := HRT.out _ _ _ hans
    obtain ⟨w5, hw5⟩ : ∃ w5, w5 = w4.alloc (.cells #[.string u.ty, .int .i64 u.n, .slice A4 u.parts.length c4, .slice none 0 0] 27) := ⟨_, rfl⟩
    have hb5 : Below w4.heap.size w4 w5 := by rw [hw5]; exact (Below.refl _ _).alloc (Nat.le_refl _) _
    have hb35 : Below w3.heap.size w3 w5 := hb4.trans (hb5.mono hb4.size)
    have HK5 := Lib.hid (HK3.out.on hb35)
    have HV5 := Lib.hid (MadeV.drawn HV3.out hb35)
    have HB5 := Lib.hid (HB3.out.below hb35 hl3)
    have hl5 := Nat.lt_of_lt_of_le hl3 hb35.size
    have HU5 := Lib.hid (show Blk w5 w4.heap.size 27 #[.string u.ty, .int .i64 u.n, .slice A4 u.parts.length c4, .slice none 0 0] by rw [hw5]; exact Blk.new _ _ _)
    have hlu : w4.heap.size < w5.heap.size := by rw [hw5]; simp
    have HD5 := Lib.hid (show VRd (Cod.val 40) (Fresh w3 w5) w5 (.slice A4 u.parts.length c4) (.slice none 0 0) u from by
      have h1 : VRd (Cod.val 40) (fun b => w3.heap.size ≤ b ∧ b < w4.heap.size) w4 (.slice A4 u.parts.length c4) (.slice none 0 0) u := by have := hov.rd; rwa [OCod.val_cod] at this
      exact (h1.keep fun b hb => hb5.block b hb.2).mono fun b hb => ⟨hb.1, by have := hb.2; have := hb5.size; omega⟩)
    have HZ5 := Lib.hid hb35.size
    have HZ3 := Lib.hid HK3.out.2.size
    have Hw5 := Lib.hid hw5
    have Hup := Lib.hid hup
    clear hans hov hb4 hb5 hb35 hw5 hup x0 x1 x2 x3
    obtain ⟨x0, x1, x2, x3⟩ := HB5.out.c2
    obtain ⟨y0, y1, y2, y3⟩ := HU5.out.c2
    have HCO := Lib.hid (implValueOk_any (ks := ks) (d := 9) (Fresh w w5) (.slice (some ⟨ad, 0, none⟩) ks.length cap) A B _ _ c c' v w5 HK5.out.1 HV5.out (fun b hb => hb.2))
    rw [← hbv] at HCO
    cases b
    · clear huv hbv
      go_upto_region 9 with fail
      rw [← Hw5.out]
      go_wp2_with fail
      refine HCO.out.mono ?_
      rintro e w6 ⟨rfl, hb6⟩
      have HE6 := Lib.hid (HK5.out.2.trans (hb6.mono HK5.out.2.size))
      clear hb6
      go_wp2
      go_ret
      exact ⟨rfl, HE6.out⟩
    · obtain rfl := huv rfl
      clear huv hbv
      go_upto_region 9 with fail
      rw [← Hw5.out]
      go_wp2_with fail
      refine HCO.out.mono ?_
      rintro e w6 ⟨rfl, hb6⟩
      have HE6 := Lib.hid (HK5.out.2.trans (hb6.mono HK5.out.2.size))
      have HV6 := Lib.hid (MadeV.drawn HV5.out hb6)
      have HD6 := Lib.hid (show VRd (Cod.val 40) (Fresh w3 w6) w6 (.slice A4 u.parts.length c4) (.slice none 0 0) u from (HD5.out.keep fun b hb => hb6.block b hb.2).mono fun b hb => ⟨hb.1, by have := hb.2; have := hb6.size; omega⟩)
      have HB6 := Lib.hid (HB5.out.below hb6 hl5)
      have HU6 := Lib.hid (HU5.out.below hb6 hlu)
      clear hb6 x0 x1 x2 x3 y0 y1 y2 y3
      obtain ⟨x0, x1, x2, x3⟩ := HB6.out.c2
      obtain ⟨y0, y1, y2, y3⟩ := HU6.out.c2
      have HH := Lib.hid (hlValue_any 40 (Fresh w w6) (.slice A4 u.parts.length c4) (.slice none 0 0) (.slice A u.parts.length c) (.slice B u.path.length c') u w6 (HD6.out.mono fun b hb => ⟨by have := hb.1; have := HZ3.out; omega, hb.2⟩) (VRd.deep (by omega) HV6.out) (fun b hb => hb.2))
      go_wp2_with fail
      refine HH.out.mono ?_
      rintro e w7 ⟨rfl, hb7⟩
      have HE7 := Lib.hid (HE6.out.trans (hb7.mono HE6.out.size))
      clear hb7
      go_wp2
      go_ret
      exact ⟨rfl, HE7.out⟩

/-- What the row lists. -/
def laidFnValueText : List (String × DataW Unit) := Rows.fnValueTextRow.laid
set_option maxRecDepth 100000 in
theorem door_metFnValueText (os : Os) (args : Array Value) : laidMetH Tryd.prog laidFnValueText ((World.doorLaid Tryd.prog 400 os).forCall (fun _ _ => 0) ⟨#[], args, []⟩).memory :=
  laidMetH_of_parts3 (fuel := 8) (laidMet_of_run' 8 (by kernel_rfl) (by kernel_rfl)) (by kernel_rfl) (by kernel_rfl)
set_option maxRecDepth 100000 in
theorem tab_of_laidFnValueText {W : World} (h : laidMetH Tryd.prog laidFnValueText W) : Lib.TabBelow Tryd.prog W.heap.size W tabN .u64 Lib.pow10Tab := by
  rw [MakeChecks.laidMetH_plain _ _ _ (by kernel_rfl)] at h
  refine Lib.tabBelow_of_tabIs ?_
  have h2 := laidMet.tail (laidMet.tail h)
  exact Lib.tabIs_of_head (g := 0) (t := 103) (e := 95) (n := 20) (by kernel_rfl) (by kernel_rfl) Tryd.underlying103 Tryd.underlying95 (by kernel_rfl) (by kernel_rfl) h2

set_option maxRecDepth 100000 in
theorem liftFnValueText (os : Os) (started : os.Started) (H : Type) (enc : TypeId × Value → H) :
    ReturnsInHanded {} Tryd.checked os 4 .any (fun w args => (Rows.fnValueTextSpec.pre enc Tryd.prog Tryd.f4 [] false w args ∧ laidMetH Tryd.prog laidFnValueText w) ∧ sizedMet enc Tryd.prog Tryd.f4 (OpenSpec.ofChange Rows.fnValueTextSpec) false w args)
      (Rows.fnValueTextSpec.post enc Tryd.prog Tryd.f4 false true false false) := by
  refine returnsInHanded_of_change_and (C := Tryd.checked) (X := fun w _ => laidMetH Tryd.prog laidFnValueText w) (fun _ _ _ hh h => h.of_heap hh) own_ started (by kernel_rfl) Tryd.func4
    (ChangeSpec.witness_shaped (enc := enc) (C := Tryd.checked) (os := os) (X := fun w _ => laidMetH Tryd.prog laidFnValueText w) false (World.doorLaid Tryd.prog 400 os) #[.slice none 0 0] 8 rfl (World.shaped_of_RefB (by kernel_rfl) (by kernel_rfl)) (by kernel_rfl) (by kernel_rfl) (by kernel_rfl) (door_metFnValueText os _)) ?_
  intro W base args ds gs before hval0 hW _ _ hL _
  have htab := tab_of_laidFnValueText hL
  have hval : ∀ (j : Nat) t v, Tryd.f4.params[j]? = some t → args[j]? = some v → Value.okWide Tryd.prog W .any base t v := hval0
  have hW' := hW
  obtain ⟨p, q, hA0, hV, rfl, _, _⟩ := hW
  have hA : DataW.TrodAll enc Tryd.prog W 0 (fun _ => true) true Tryd.f4.params.toList args.toList ds p := hA0
  rw [Tryd.params4] at hA hval
  obtain ⟨v0, d0, rfl, rfl, h0⟩ := trodAll_one hA
  obtain ⟨rfl, rfl⟩ := trodVars_none hV
  obtain ⟨xs, hxs⟩ := open_code (hval 0 22 v0 rfl rfl) h0
  clear hA0 hval0
  simp only [List.append_nil] at hW'
  have hlt : ∀ x ∈ p, x.block < W.heap.size := fun x hx => by simpa using hW'.lt x (by simp [hx])
  refine (fnValueText (Old W) v0 xs W hxs (fun b hb => hb) htab).mono fun e W' ⟨he, hn⟩ => ?_
  subst he
  refine ⟨_, rfl, _, _, _, [], p, [], hW', ?_, ?_, rfl, hn.frame _, fun h => by cases h⟩
  · exact trodAll_mk1 (shut_bool Tryd.underlying4 true)
  · exact trodAll_mk1 (Below.trod laidOut_ (by kernel_rfl) (of_decide_eq_true (by kernel_rfl)) h0 hn hlt)

theorem FnValueText_holds : Rows.FnValueTextSaid :=
  OpenClaim.holds_of_wide 4 Tryd.f4 rfl rfl rfl rfl rfl rfl rfl ⟨rfl, rfl, rfl, rfl, rfl⟩ rfl rfl rfl rfl rfl (by kernel_rfl) Tryd.func4 (by kernel_rfl)
    (of_decide_eq_true (by kernel_rfl)) (by unfold Func.isWrapper; first | (rw [if_pos (by decide +kernel)]; kernel_rfl) | (rw [if_neg (by decide +kernel)]; exact ⟨rfl, rfl⟩))
    (fun os started H enc _ => liftFnValueText os started H enc)
theorem FnValueText_card : Rows.FnValueTextCardSaid :=
  Claim7.holds_tied_plain_at .later [] [.data, .data, .data] true (true, "aece749cf4b2eef9a624bae3752975545439552f2e837902540f5be2d6540414") false
    FnValueText_holds (fun _ h => by cases h) (by kernel_rfl) (fun _ h => by cases h) fnValueText_row_tie rfl ⟨rfl, rfl⟩ (by kernel_rfl) rfl
    (fun f fn hf hfn => by
      obtain rfl : f = 4 := Option.some.inj ((show Tryd.prog.funcNamed Rows.fnValueTextRow.func = some 4 by kernel_rfl).symm.trans hf) |>.symm
      obtain rfl : fn = Tryd.f4 := (Option.some.inj (Tryd.func4.symm.trans hfn)).symm
      exact ⟨by kernel_rfl, fun j t ht => by
        rw [Tryd.params4] at ht
        have hm : t ∈ [22] := by simpa using Array.mem_of_getElem? ht
        have hall : ([22].all fun u => !Tryd.prog.wantsStandIn u) = true := by kernel_rfl
        exact (show Tryd.prog.wantsStandIn t = false by simpa using List.all_eq_true.1 hall t hm)⟩)
    (by kernel_rfl)
end Go.Proofs.YtelhjdccfomafaaDoor
