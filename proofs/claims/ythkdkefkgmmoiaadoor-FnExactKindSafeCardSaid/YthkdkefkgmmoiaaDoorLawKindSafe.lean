/- Whatever the arguments, the exact law of KindSafe answers true: the program's KindSafe is the model's, and leaves its argument and its table alone. -/
import Derived.Test.YthkdkefkgmmoiaaDoorQb
import Derived.Test.YthkdkefkgmmoiaaDoorIth
import Derived.Stop.Joined
import Derived.Stop.LaidErr
import Derived.LaidByTextLater
import Derived.SevenTiedAt
import Derived.ProofKit
import Derived.OpenShut
import Derived.Test.YthkdkefkgmmoiaaDoorTie
import Derived.Test.YthkdkefkgmmoiaaDoorCards
import Derived.Test.YthkdkefkgmmoiaaDoorGz
import Derived.Test.YthkdkefkgmmoiaaDoorGe
import Derived.Test.YthkdkefkgmmoiaaDoorGo
namespace Go.Proofs.YthkdkefkgmmoiaaDoor
open Go.ChangeShapes Go.WideShapes Go.ChangeAt Go.RowKit Go.Deep
open Go.ChangeMaps (open_string shut_string)

theorem smol_shelf {xs : List ModR} (h : ¬ szS szModr xs 1048576 < 0) : xs.length ≤ 2000000 ∧ ∀ x ∈ xs, SmolModr x := by
  obtain ⟨h1, h2⟩ := szS_len szModr_le (xs := xs) (l := 1048576) (by omega)
  refine ⟨by omega, fun x hx => ?_⟩
  obtain ⟨l', z0, z1, z2⟩ := h2 x hx
  exact smol_modr z0 (by omega) z2

set_option maxRecDepth 100000 in
set_option maxHeartbeats 16000000 in
theorem lawKindSafe (T : Nat → Prop) (tv : Value) (F : Nat → Prop) (v : Value) (xs : List ModR) (kind : ByteArray) (w : World) (hT : ITab T w tv) (hTF : ∀ b, T b → b < w.heap.size) (h : Cod.modr.Sl F w v xs) (hF : ∀ b, F b → b < w.heap.size) (hkd : kind.size ≤ maxLen) :
    Calls Tryd.prog 3 #[v, .string kind] w fun e w' => e = .returned (.bool true) ∧ Below w.heap.size w w' := by
  obtain ⟨A, cap, rfl, _⟩ := id h
  obtain ⟨w0, hw0⟩ : ∃ w0, w0 = w := ⟨_, rfl⟩
  subst hw0
  have HV0 := Lib.hid h
  have HF0 := Lib.hid hF
  have HT := Lib.hid hT
  have HTF := Lib.hid hTF
  have HE0 := Lib.hid (Below.refl w0.heap.size w0)
  clear hF h hT hTF
  unfold maxLen at hkd
  by_cases hkl : 1048576 < kind.size
  · go_enter Tryd.func3, Tryd.ntmps3
    go_wp2
    go_ret
    exact ⟨rfl, HE0.out⟩
  by_cases hz : szS szModr xs 1048576 < 0
  · have HC := Lib.hid (sz_modr F _ xs 1048576 w0 HV0.out HF0.out (by omega) (by omega))
    go_enter Tryd.func3, Tryd.ntmps3
    go_wp2_with fail
    refine HC.out.mono ?_
    rintro e w1 ⟨rfl, hb⟩
    have HE1 := Lib.hid hb
    clear hb HC
    go_wp2_with fail
    go_ret
    exact ⟨rfl, HE1.out⟩
  · have HS := Lib.hid (smol_shelf hz)
    have HSP := Lib.hid fun (F : Nat → Prop) (v : Value) (w : World) (h : Cod.modr.Sl F w v xs) (hF : ∀ b, F b → b < w.heap.size) => (specKindSafe_any F v xs kind w h hF HS.out.1 HS.out.2 (by unfold maxLen; omega))
    have HIM := Lib.hid fun (F : Nat → Prop) (v : Value) (w : World) (hT : ITab T w tv) (hTF : ∀ b, T b → b < w.heap.size) (h : Cod.modr.Sl F w v xs) (hF : ∀ b, F b → b < w.heap.size) => (implKindSafe_any T tv F v xs kind w hT hTF h hF HS.out.1 HS.out.2)
    go_enter Tryd.func3, Tryd.ntmps3
    have HC := Lib.hid (sz_modr F _ xs 1048576 w0 HV0.out HF0.out (by omega) (by omega))
    go_wp2_with fail
    refine HC.out.mono ?_
    rintro e w1 ⟨rfl, hb⟩
    clear HC
    have hz0 := hb.size
    have HV1 : Hid (Cod.modr.Sl F w1 (.slice A xs.length cap) xs) := Lib.hid (HV0.out.keep fun b hb' => by have h1 := HF0.out b hb'; exact hb.block b (by omega))
    have HE1 := Lib.hid (HE0.out.trans (hb.mono (by omega)))
    clear hb
    have HC := Lib.hid (to_modr F _ xs w1 HV1.out (fun b hb => by have := HF0.out b hb; omega) HS.out.1 HS.out.2)
    go_wp2_with fail
    refine HC.out.mono ?_
    rintro e w2 ⟨Bs, bs, rfl, hO, hb⟩
    clear HC
    have hz1 := hb.size
    have HV2 : Hid (Cod.modr.Sl F w2 (.slice A xs.length cap) xs) := Lib.hid (HV1.out.keep fun b hb' => by have h1 := HF0.out b hb'; exact hb.block b (by omega))
    have HE2 := Lib.hid (HE1.out.trans (hb.mono (by omega)))
    have HOs := Lib.hid hO.sl
    clear hb hO
    have HC := Lib.hid (HSP.out _ _ w2 HOs.out (fun b hb => hb.2))
    go_wp2_with fail
    refine HC.out.mono ?_
    rintro e w3 ⟨rfl, hb⟩
    clear HC
    have hz2 := hb.size
    have HV3 : Hid (Cod.modr.Sl F w3 (.slice A xs.length cap) xs) := Lib.hid (HV2.out.keep fun b hb' => by have h1 := HF0.out b hb'; exact hb.block b (by omega))
    have HE3 := Lib.hid (HE2.out.trans (hb.mono (by omega)))
    clear hb HOs
    have HC := Lib.hid (to_modr F _ xs w3 HV3.out (fun b hb => by have := HF0.out b hb; omega) HS.out.1 HS.out.2)
    go_wp2_with fail
    refine HC.out.mono ?_
    rintro e w4 ⟨Bm, bm, rfl, hO, hb⟩
    clear HC
    have hz3 := hb.size
    have HV4 : Hid (Cod.modr.Sl F w4 (.slice A xs.length cap) xs) := Lib.hid (HV3.out.keep fun b hb' => by have h1 := HF0.out b hb'; exact hb.block b (by omega))
    have HE4 := Lib.hid (HE3.out.trans (hb.mono (by omega)))
    have HOm4 : Hid (Own OCod.modr 43 w3.heap.size w4.heap.size w4 (.slice Bm xs.length bm) xs) := Lib.hid hO
    clear hb hO
    have HC := Lib.hid (HIM.out _ _ w4 (HT.out.keep (below_keeps HE4.out HTF.out)) (fun b hb => by have := HTF.out b hb; omega) HOm4.out.sl (fun b hb => hb.2))
    go_wp2_with fail
    refine HC.out.mono ?_
    rintro e w5 ⟨rfl, hb⟩
    clear HC
    have hz4 := hb.size
    have HV5 : Hid (Cod.modr.Sl F w5 (.slice A xs.length cap) xs) := Lib.hid (HV4.out.keep fun b hb' => by have h1 := HF0.out b hb'; exact hb.block b (by omega))
    have HOm5 : Hid (Own OCod.modr 43 w3.heap.size w4.heap.size w5 (.slice Bm xs.length bm) xs) := Lib.hid (HOm4.out.keep fun b g1 g2 => hb.block b (by omega))
    have HE5 := Lib.hid (HE4.out.trans (hb.mono (by omega)))
    clear hb
    have HC := Lib.hid (to_modr F _ xs w5 HV5.out (fun b hb => by have := HF0.out b hb; omega) HS.out.1 HS.out.2)
    go_wp2_with fail
    refine HC.out.mono ?_
    rintro e w6 ⟨Be, be, rfl, hO, hb⟩
    clear HC
    have hz5 := hb.size
    have HV6 : Hid (Cod.modr.Sl F w6 (.slice A xs.length cap) xs) := Lib.hid (HV5.out.keep fun b hb' => by have h1 := HF0.out b hb'; exact hb.block b (by omega))
    have HOm6 : Hid (Own OCod.modr 43 w3.heap.size w4.heap.size w6 (.slice Bm xs.length bm) xs) := Lib.hid (HOm5.out.keep fun b g1 g2 => hb.block b (by omega))
    have HE6 := Lib.hid (HE5.out.trans (hb.mono (by omega)))
    have HOe := Lib.hid (show Cod.modr.Sl (fun b => b < w6.heap.size) w6 (.slice Be xs.length be) xs from hO.sl.mono fun b hb => hb.2)
    clear hb hO
    have HC := Lib.hid (eq_modr (fun b => b < w6.heap.size) _ _ xs w6 (HOm6.out.sl.mono fun b hb => by have := hb.2; omega) HOe.out fun b hb => hb)
    go_wp2_with fail
    refine HC.out.mono ?_
    rintro e w7 ⟨rfl, hb⟩
    clear HC
    have hz6 := hb.size
    have HV7 : Hid (Cod.modr.Sl F w7 (.slice A xs.length cap) xs) := Lib.hid (HV6.out.keep fun b hb' => by have h1 := HF0.out b hb'; exact hb.block b (by omega))
    have HOm7 : Hid (Own OCod.modr 43 w3.heap.size w4.heap.size w7 (.slice Bm xs.length bm) xs) := Lib.hid (HOm6.out.keep fun b g1 g2 => hb.block b (by omega))
    have HE7 := Lib.hid (HE6.out.trans (hb.mono (by omega)))
    clear hb HOe
    go_wp2_with fail
    go_ret
    exact ⟨rfl, HE7.out⟩

/-- What the row lists. -/
def laidKs : List (String × DataW Unit) := Rows.fnExactKindSafeRow.laid
set_option maxRecDepth 100000 in
theorem door_metKs (os : Os) (args : Array Value) : laidMetH Tryd.prog laidKs ((World.doorLaid Tryd.prog 400 os).forCall (fun _ _ => 0) ⟨#[], args, []⟩).memory :=
  laidMetH_of_parts3 (fuel := 8) (laidMet_of_run' 8 (by kernel_rfl) (by kernel_rfl)) (by kernel_rfl) (by kernel_rfl)
set_option maxRecDepth 100000 in
theorem tab_of_laidKs {W : World} (h : laidMetH Tryd.prog laidKs W) : ∃ v, ITab (Old W) W v := by
  rw [MakeChecks.laidMetH_plain _ _ _ (by kernel_rfl)] at h
  exact tab_of_reads (Lib.laidMet.reads h (List.mem_cons_self ..))

set_option maxRecDepth 100000 in
theorem liftKindSafe (os : Os) (started : os.Started) (H : Type) (enc : TypeId × Value → H) :
    ReturnsInHanded {} Tryd.checked os 3 .any (fun w args => (Rows.fnExactKindSafeSpec.pre enc Tryd.prog Tryd.f3 [] false w args ∧ laidMetH Tryd.prog laidKs w) ∧ sizedMet enc Tryd.prog Tryd.f3 (OpenSpec.ofChange Rows.fnExactKindSafeSpec) false w args)
      (Rows.fnExactKindSafeSpec.post enc Tryd.prog Tryd.f3 false true false false) := by
  refine returnsInHanded_of_change_and (C := Tryd.checked) (X := fun w _ => laidMetH Tryd.prog laidKs w) (fun _ _ _ hh h => h.of_heap hh) own_ started (by kernel_rfl) Tryd.func3
    (ChangeSpec.witness_shaped (enc := enc) (C := Tryd.checked) (os := os) (X := fun w _ => laidMetH Tryd.prog laidKs w) false (World.doorLaid Tryd.prog 400 os) #[.slice none 0 0, .string ByteArray.empty] 8 rfl (World.shaped_of_RefB (by kernel_rfl) (by kernel_rfl)) (by kernel_rfl) (by kernel_rfl) (by kernel_rfl) (door_metKs os _)) ?_
  intro W base args ds gs before hval0 hW _ _ hL _
  obtain ⟨tv, htab⟩ := tab_of_laidKs hL
  have hval : ∀ (j : Nat) t v, Tryd.f3.params[j]? = some t → args[j]? = some v → Value.okWide Tryd.prog W .any base t v := hval0
  have hW' := hW
  obtain ⟨p, q, hA0, hV, rfl, _, _⟩ := hW
  have hA : DataW.TrodAll enc Tryd.prog W 0 (fun _ => true) true Tryd.f3.params.toList args.toList ds p := hA0
  rw [Tryd.params3] at hA hval
  obtain ⟨v0, v1, d0, d1, p0, p1, rfl, rfl, rfl, h0, h1⟩ := trodAll_two hA
  obtain ⟨xs, hxs⟩ := open_shelf (hval 0 22 v0 rfl rfl) h0
  obtain ⟨t, rfl, rfl, rfl, wt⟩ := open_string Tryd.underlying9 (hval 1 9 v1 rfl rfl) h1
  have hV0 := hV
  obtain ⟨_, _, _, _, dv, _, rfl, _⟩ := trodVars_one hV0
  clear hA0 hval0
  have hlt0 : ∀ x ∈ p0, x.block < W.heap.size := fun x hx => by simpa using hW'.lt x (by simp [hx])
  refine (lawKindSafe (Old W) tv (Old W) v0 xs t W htab (fun b hb => hb) hxs (fun b hb => hb) wt).mono fun e W' ⟨he, hn⟩ => ?_
  subst he
  refine ⟨_, rfl, _, _, _, [], p0 ++ [], q, hW', ?_, ?_, Below.trodVars laidOut_ hn (by kernel_rfl) hV, hn.frame _, fun h => by cases h⟩
  · exact trodAll_mk1 (shut_bool Tryd.underlying4 true)
  · exact trodAll_mk2 (Below.trod laidOut_ (by kernel_rfl) (of_decide_eq_true (by kernel_rfl)) h0 hn hlt0) (shut_string Tryd.underlying9 wt)

theorem KindSafe_holds : Rows.FnExactKindSafeSaid :=
  OpenClaim.holds_of_wide 3 Tryd.f3 rfl rfl rfl rfl rfl rfl rfl ⟨rfl, rfl, rfl, rfl, rfl⟩ rfl rfl rfl rfl rfl (by kernel_rfl) Tryd.func3 (by kernel_rfl)
    (of_decide_eq_true (by kernel_rfl)) (by unfold Func.isWrapper; first | (rw [if_pos (by decide +kernel)]; kernel_rfl) | (rw [if_neg (by decide +kernel)]; exact ⟨rfl, rfl⟩))
    (fun os started H enc _ => liftKindSafe os started H enc)
theorem KindSafe_card : Rows.FnExactKindSafeCardSaid :=
  Claim7.holds_tied_plain_at .later [] [.widerDeep] true (true, "961f7158bf19e7afc323e412c0a024dfd023fd1c2b10e4fc7ae3e8fbc7a7b584") false
    KindSafe_holds (fun _ h => by cases h) (by kernel_rfl) (fun _ h => by cases h) fnExactKindSafe_row_tie rfl ⟨rfl, rfl⟩ (by kernel_rfl) rfl
    (fun f fn hf hfn => by
      obtain rfl : f = 3 := Option.some.inj ((show Tryd.prog.funcNamed Rows.fnExactKindSafeRow.func = some 3 by kernel_rfl).symm.trans hf) |>.symm
      obtain rfl : fn = Tryd.f3 := (Option.some.inj (Tryd.func3.symm.trans hfn)).symm
      exact ⟨by kernel_rfl, fun j t ht => by
        rw [Tryd.params3] at ht
        have hm : t ∈ [22, 9] := by simpa using Array.mem_of_getElem? ht
        have hall : ([22, 9].all fun u => !Tryd.prog.wantsStandIn u) = true := by kernel_rfl
        exact (show Tryd.prog.wantsStandIn t = false by simpa using List.all_eq_true.1 hall t hm)⟩)
    (by kernel_rfl)
end Go.Proofs.YthkdkefkgmmoiaaDoor
