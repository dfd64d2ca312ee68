/- Whatever the code, the law of ValueRead answers true: of what is drawn the program's ValueRead is the model's, and what is read is a value that has the text. -/
import Derived.Test.YtelhjdccfomafaaDoorFvValueRead
import Derived.Test.YtelhjdccfomafaaDoorFw
import Derived.Test.YtelhjdccfomafaaDoorFx
import Derived.Test.YtelhjdccfomafaaDoorVuc
import Derived.Test.YtelhjdccfomafaaDoorRs
import Derived.Lib.LaidTab
import Derived.LaidMore
import Derived.Stop.Joined
import Derived.Stop.LaidErr
import Derived.LaidByTextLater
import Derived.SevenTiedAt
import Derived.ProofKit
import Derived.OpenShut
import Derived.Test.YtelhjdccfomafaaDoorTie
import Derived.Test.YtelhjdccfomafaaDoorCards
import Derived.Deep.DeepCutAuto
namespace Go.Proofs.YtelhjdccfomafaaDoor
open Go.ChangeShapes Go.WideShapes Go.ChangeAt Go.RowKit Go.Deep
open Go.ChangeMaps (open_string shut_string)

set_option maxRecDepth 100000 in
set_option maxHeartbeats 4000000 in
theorem fnValueRead (F : Nat → Prop) (v : Value) (xs : List Nat) (w : World) (h : Cod.u8.Sl F w v xs) (hF : ∀ b, F b → b < w.heap.size) (htab : Lib.TabBelow Tryd.prog w.heap.size w tabN .u64 Lib.pow10Tab) :
    Calls Tryd.prog 5 #[v] w fun e w' => e = .returned (.bool true) ∧ Below w.heap.size w w' := by
  have HS := Lib.hid h
  have HTab := Lib.hid htab
  obtain ⟨A, cap, rfl, hlc, hcm, _⟩ := h
  unfold maxLen at hcm
  clear htab
  by_cases hl : 1048576 < xs.length
  · go_enter Tryd.func5, Tryd.ntmps5
    go_wp2
    go_ret
    exact ⟨rfl, Below.refl _ _⟩
  · go_enter Tryd.func5, Tryd.ntmps5
    go_wp2_with fail
    refine (drawValueRead_any F _ xs w HS.out hF).mono ?_
    rintro e w1 ⟨ad, cap, ks, s, rfl, hsm, hK⟩
    have HK1 := Lib.hid hK
    have HZ1 := Lib.hid hK.2.size
    have HC := Lib.hid ((implValueRead_any (ks := ks) (Fresh w w1) (.slice (some ⟨ad, 0, none⟩) ks.length cap) s w1 hK.1 (fun b hb => hb.2) (by omega)).mono fun e w' h => ReadE.ans h)
    clear hK
    go_wp2_with fail
    refine HC.out.mono ?_
    rintro e w4 ⟨hb4, b, u, A4, c4, rfl, hup, hans, hov⟩
    obtain ⟨w5, hw5⟩ : ∃ w5, w5 = w4.alloc (.cells #[.string u.ty, .int .i64 u.n, .slice A4 u.parts.length c4, .slice none 0 0] 27) := ⟨_, rfl⟩
    have hb5 : Below w4.heap.size w4 w5 := by rw [hw5]; exact (Below.refl _ _).alloc (Nat.le_refl _) _
    have hb15 : Below w1.heap.size w1 w5 := hb4.trans (hb5.mono hb4.size)
    have HK5 := Lib.hid (HK1.out.on hb15)
    have HU5 := Lib.hid (show Blk w5 w4.heap.size 27 #[.string u.ty, .int .i64 u.n, .slice A4 u.parts.length c4, .slice none 0 0] by rw [hw5]; exact Blk.new _ _ _)
    have hlu : w4.heap.size < w5.heap.size := by rw [hw5]; simp
    have HD5 := Lib.hid (show VRd (Cod.val 40) (Fresh w w5) w5 (.slice A4 u.parts.length c4) (.slice none 0 0) u from by
      have h1 : VRd (Cod.val 40) (fun b => w1.heap.size ≤ b ∧ b < w4.heap.size) w4 (.slice A4 u.parts.length c4) (.slice none 0 0) u := by have := hov.rd; rwa [OCod.val_cod] at this
      exact (h1.keep fun b hb => hb5.block b hb.2).mono fun b hb => ⟨by have := hb.1; have := HZ1.out; omega, by have := hb.2; have := hb5.size; omega⟩)
    have Hw5 := Lib.hid hw5
    have Hup := Lib.hid hup
    have Hans := Lib.hid hans
    clear hans hov hb4 hb5 hb15 hw5 hup HC
    go_upto_region 5 with fail
    rw [← Hw5.out]
    have HCS := Lib.hid ((specValueRead_any (ks := ks) (Fresh w w5) (.slice (some ⟨ad, 0, none⟩) ks.length cap) s w5 HK5.out.1 (fun b hb => hb.2) (by omega)).mono fun e w' h => ReadS.ans h)
    go_wp2_with fail
    refine HCS.out.mono ?_
    rintro e w6 ⟨hb6, D, b2, u2, A6, c6, rfl, hup2, hans2, hV6⟩
    obtain ⟨rfl, rfl⟩ := hans2.same Hans.out
    obtain ⟨w7, hw7⟩ : ∃ w7, w7 = w6.alloc (.cells #[.string u2.ty, .int .i64 u2.n, .slice A6 u2.parts.length c6, .slice none 0 0] 27) := ⟨_, rfl⟩
    have hb7 : Below w6.heap.size w6 w7 := by rw [hw7]; exact (Below.refl _ _).alloc (Nat.le_refl _) _
    have hb57 : Below w5.heap.size w5 w7 := hb6.trans (hb7.mono hb6.size)
    have HK7 := Lib.hid (HK5.out.on hb57)
    have HU7 := Lib.hid (HU5.out.below hb57 hlu)
    have hlu7 := Nat.lt_of_lt_of_le hlu hb57.size
    have HM7 := Lib.hid (show Blk w7 w6.heap.size 27 #[.string u2.ty, .int .i64 u2.n, .slice A6 u2.parts.length c6, .slice none 0 0] by rw [hw7]; exact Blk.new _ _ _)
    have HD7 := Lib.hid (show VRd (Cod.val 40) (Fresh w w7) w7 (.slice A4 u2.parts.length c4) (.slice none 0 0) u2 from (HD5.out.keep fun b hb => hb57.block b hb.2).mono fun b hb => ⟨hb.1, by have := hb.2; have := hb57.size; omega⟩)
    have HV7 := Lib.hid (show VRd (Cod.val D) (Fresh w w7) w7 (.slice A6 u2.parts.length c6) (.slice none 0 0) u2 from (hV6.keep fun b hb => hb7.block b hb.2).mono fun b hb => ⟨by have := hb.1; have := HK5.out.2.size; omega, by have := hb.2; have := hb7.size; omega⟩)
    have Hw7 := Lib.hid hw7
    clear hb6 hb7 hb57 hw7 hV6 hup2 hans2 HCS
    obtain ⟨x0, x1, x2, x3⟩ := HU7.out.c2
    obtain ⟨y0, y1, y2, y3⟩ := HM7.out.c2
    obtain ⟨M, hM1, hM2⟩ : ∃ M, D ≤ M ∧ 40 ≤ M := ⟨max D 40, Nat.le_max_left _ _, Nat.le_max_right _ _⟩
    have Hup := Hup.out
    have HH := Lib.hid (show Calls Tryd.prog 13 #[.agg #[.string u2.ty, .int .i64 u2.n, .slice A4 u2.parts.length c4, .slice none 0 0], .agg #[.string u2.ty, .int .i64 u2.n, .slice A6 u2.parts.length c6, .slice none 0 0]] w7 _ from hlValue_any M (Fresh w w7) (.slice A4 u2.parts.length c4) (.slice none 0 0) (.slice A6 u2.parts.length c6) (.slice none 0 0) u2 w7 (VRd.deep hM2 HD7.out) (VRd.deep hM1 HV7.out) (fun b hb => hb.2))
    go_upto_region 6 with fail
    rw [← Hw7.out]
    go_wp2_with fail
    refine HH.out.mono ?_
    rintro e w8 ⟨rfl, hb8⟩
    have HK8 := Lib.hid (HK7.out.on hb8)
    have HU8 := Lib.hid (HU7.out.below hb8 hlu7)
    have hlu8 := Nat.lt_of_lt_of_le hlu7 hb8.size
    have HD8 := Lib.hid (show VRd (Cod.val 40) (Fresh w w8) w8 (.slice A4 u2.parts.length c4) (.slice none 0 0) u2 from (HD7.out.keep fun b hb => hb8.block b hb.2).mono fun b hb => ⟨hb.1, by have := hb.2; have := hb8.size; omega⟩)
    clear hb8 x0 x1 x2 x3 y0 y1 y2 y3 HH
    obtain ⟨x0, x1, x2, x3⟩ := HU8.out.c2
    cases b2
    · have HE8 := Lib.hid HK8.out.2
      go_wp2
      go_ret
      exact ⟨rfl, HE8.out⟩
    · have hok : kindsOk ks = true ∧ okV ks 41 u2 = true := by
        rcases Hans.out with ⟨_, h1, h2, _⟩ | ⟨h1, _⟩
        · exact ⟨h1, h2⟩
        · cases h1
      obtain ⟨hvo, htx⟩ := text_read (d := 40) Hans.out hok.2
      have hsz : sizeOf' (fun _ => 1) (sizeV 40) u2 ≤ 2000000 := Int.le_trans (show sizeV 41 u2 ≤ 29524 from size_good3 hok.1 hok.2) (by decide)
      have HCO := Lib.hid (implValueOk_any (ks := ks) (d := 40) (Fresh w w8) (.slice (some ⟨ad, 0, none⟩) ks.length cap) A4 none _ _ c4 0 u2 w8 HK8.out.1 (show VRd (Cod.val 40) (Fresh w w8) w8 (.slice A4 u2.parts.length c4) (.slice none 0 0) u2 from HD8.out) (fun b hb => hb.2))
      rw [hvo] at HCO
      have HTx := Lib.hid htx
      have HSz := Lib.hid hsz
      clear hok hvo htx hsz
      go_wp2_with fail
      refine HCO.out.mono ?_
      rintro e w9 ⟨rfl, hb9⟩
      have HK9 := Lib.hid (HK8.out.on hb9)
      have HU9 := Lib.hid (HU8.out.below hb9 hlu8)
      have HD9 := Lib.hid (show VRd (Cod.val 40) (Fresh w w9) w9 (.slice A4 u2.parts.length c4) (.slice none 0 0) u2 from (HD8.out.keep fun b hb => hb9.block b hb.2).mono fun b hb => ⟨hb.1, by have := hb.2; have := hb9.size; omega⟩)
      have HCT := Lib.hid (implValueText_any (ks := ks) (d := 40) (Fresh w w9) (.slice (some ⟨ad, 0, none⟩) ks.length cap) A4 none _ _ c4 0 u2 w9 HK9.out.1 HD9.out (fun b hb => hb.2) HSz.out (tab_up HTab.out HK9.out.2 HK9.out.2.size))
      rw [HTx.out] at HCT
      clear hb9 x0 x1 x2 x3
      obtain ⟨x0, x1, x2, x3⟩ := HU9.out.c2
      go_wp2_with fail
      refine HCT.out.mono ?_
      rintro e w10 ⟨rfl, hb10⟩
      have HE10 := Lib.hid (HK9.out.2.trans (hb10.mono HK9.out.2.size))
      clear hb10
      go_wp2
      go_ret
      exact ⟨rfl, HE10.out⟩

/-- What the row lists. -/
def laidFnValueRead : List (String × DataW Unit) := Rows.fnValueReadRow.laid
set_option maxRecDepth 100000 in
theorem door_metFnValueRead (os : Os) (args : Array Value) : laidMetH Tryd.prog laidFnValueRead ((World.doorLaid Tryd.prog 400 os).forCall (fun _ _ => 0) ⟨#[], args, []⟩).memory :=
  laidMetH_of_parts3 (fuel := 8) (laidMet_of_run' 8 (by kernel_rfl) (by kernel_rfl)) (by kernel_rfl) (by kernel_rfl)
set_option maxRecDepth 100000 in
theorem tab_of_laidFnValueRead {W : World} (h : laidMetH Tryd.prog laidFnValueRead W) : Lib.TabBelow Tryd.prog W.heap.size W tabN .u64 Lib.pow10Tab := by
  rw [MakeChecks.laidMetH_plain _ _ _ (by kernel_rfl)] at h
  refine Lib.tabBelow_of_tabIs ?_
  have h2 := laidMet.tail (laidMet.tail h)
  exact Lib.tabIs_of_head (g := 0) (t := 103) (e := 95) (n := 20) (by kernel_rfl) (by kernel_rfl) Tryd.underlying103 Tryd.underlying95 (by kernel_rfl) (by kernel_rfl) h2

set_option maxRecDepth 100000 in
theorem liftFnValueRead (os : Os) (started : os.Started) (H : Type) (enc : TypeId × Value → H) :
    ReturnsInHanded {} Tryd.checked os 5 .any (fun w args => (Rows.fnValueReadSpec.pre enc Tryd.prog Tryd.f5 [] false w args ∧ laidMetH Tryd.prog laidFnValueRead w) ∧ sizedMet enc Tryd.prog Tryd.f5 (OpenSpec.ofChange Rows.fnValueReadSpec) false w args)
      (Rows.fnValueReadSpec.post enc Tryd.prog Tryd.f5 false true false false) := by
  refine returnsInHanded_of_change_and (C := Tryd.checked) (X := fun w _ => laidMetH Tryd.prog laidFnValueRead w) (fun _ _ _ hh h => h.of_heap hh) own_ started (by kernel_rfl) Tryd.func5
    (ChangeSpec.witness_shaped (enc := enc) (C := Tryd.checked) (os := os) (X := fun w _ => laidMetH Tryd.prog laidFnValueRead w) false (World.doorLaid Tryd.prog 400 os) #[.slice none 0 0] 8 rfl (World.shaped_of_RefB (by kernel_rfl) (by kernel_rfl)) (by kernel_rfl) (by kernel_rfl) (by kernel_rfl) (door_metFnValueRead os _)) ?_
  intro W base args ds gs before hval0 hW _ _ hL _
  have htab := tab_of_laidFnValueRead hL
  have hval : ∀ (j : Nat) t v, Tryd.f5.params[j]? = some t → args[j]? = some v → Value.okWide Tryd.prog W .any base t v := hval0
  have hW' := hW
  obtain ⟨p, q, hA0, hV, rfl, _, _⟩ := hW
  have hA : DataW.TrodAll enc Tryd.prog W 0 (fun _ => true) true Tryd.f5.params.toList args.toList ds p := hA0
  rw [Tryd.params5] at hA hval
  obtain ⟨v0, d0, rfl, rfl, h0⟩ := trodAll_one hA
  obtain ⟨rfl, rfl⟩ := trodVars_none hV
  obtain ⟨xs, hxs⟩ := open_code (hval 0 22 v0 rfl rfl) h0
  clear hA0 hval0
  simp only [List.append_nil] at hW'
  have hlt : ∀ x ∈ p, x.block < W.heap.size := fun x hx => by simpa using hW'.lt x (by simp [hx])
  refine (fnValueRead (Old W) v0 xs W hxs (fun b hb => hb) htab).mono fun e W' ⟨he, hn⟩ => ?_
  subst he
  refine ⟨_, rfl, _, _, _, [], p, [], hW', ?_, ?_, rfl, hn.frame _, fun h => by cases h⟩
  · exact trodAll_mk1 (shut_bool Tryd.underlying4 true)
  · exact trodAll_mk1 (Below.trod laidOut_ (by kernel_rfl) (of_decide_eq_true (by kernel_rfl)) h0 hn hlt)

theorem FnValueRead_holds : Rows.FnValueReadSaid :=
  OpenClaim.holds_of_wide 5 Tryd.f5 rfl rfl rfl rfl rfl rfl rfl ⟨rfl, rfl, rfl, rfl, rfl⟩ rfl rfl rfl rfl rfl (by kernel_rfl) Tryd.func5 (by kernel_rfl)
    (of_decide_eq_true (by kernel_rfl)) (by unfold Func.isWrapper; first | (rw [if_pos (by decide +kernel)]; kernel_rfl) | (rw [if_neg (by decide +kernel)]; exact ⟨rfl, rfl⟩))
    (fun os started H enc _ => liftFnValueRead os started H enc)
theorem FnValueRead_card : Rows.FnValueReadCardSaid :=
  Claim7.holds_tied_plain_at .later [] [.data, .data, .data] true (true, "aece749cf4b2eef9a624bae3752975545439552f2e837902540f5be2d6540414") false
    FnValueRead_holds (fun _ h => by cases h) (by kernel_rfl) (fun _ h => by cases h) fnValueRead_row_tie rfl ⟨rfl, rfl⟩ (by kernel_rfl) rfl
    (fun f fn hf hfn => by
      obtain rfl : f = 5 := Option.some.inj ((show Tryd.prog.funcNamed Rows.fnValueReadRow.func = some 5 by kernel_rfl).symm.trans hf) |>.symm
      obtain rfl : fn = Tryd.f5 := (Option.some.inj (Tryd.func5.symm.trans hfn)).symm
      exact ⟨by kernel_rfl, fun j t ht => by
        rw [Tryd.params5] at ht
        have hm : t ∈ [22] := by simpa using Array.mem_of_getElem? ht
        have hall : ([22].all fun u => !Tryd.prog.wantsStandIn u) = true := by kernel_rfl
        exact (show Tryd.prog.wantsStandIn t = false by simpa using List.all_eq_true.1 hall t hm)⟩)
    (by kernel_rfl)
end Go.Proofs.YtelhjdccfomafaaDoor
