/- Whatever the arguments, the exact law of InsWords answers true: the program's InsWords is the model's, and leaves its arguments and its table alone. -/
import Derived.Test.YtbjnjdhkillbiaaDoorItl
import Derived.Test.YtbjnjdhkillbiaaDoorIth
import Derived.Stop.Joined
import Derived.Stop.LaidErr
import Derived.LaidByTextLater
import Derived.SevenTiedAt
import Derived.ProofKit
import Derived.OpenShut
import Derived.Test.YtbjnjdhkillbiaaDoorTie
import Derived.Test.YtbjnjdhkillbiaaDoorCards
namespace Go.Proofs.YtbjnjdhkillbiaaDoor
open Go.ChangeShapes Go.WideShapes Go.ChangeAt Go.RowKit Go.Deep
open Go.ChangeMaps (open_string shut_string)

/-- What the row lists. -/
def laidWo : List (String × DataW Unit) := Rows.fnExactInsWordsRow.laid
set_option maxRecDepth 100000 in
theorem door_metWo (os : Os) (args : Array Value) : laidMetH Tryd.prog laidWo ((World.doorLaid Tryd.prog 400 os).forCall (fun _ _ => 0) ⟨#[], args, []⟩).memory :=
  laidMetH_of_parts3 (fuel := 8) (laidMet_of_run' 8 (by kernel_rfl) (by kernel_rfl)) (by kernel_rfl) (by kernel_rfl)
set_option maxRecDepth 100000 in
theorem tab_of_laidWo {W : World} (h : laidMetH Tryd.prog laidWo W) : ∃ v, Tab (Old W) W v := by
  rw [MakeChecks.laidMetH_plain _ _ _ (by kernel_rfl)] at h
  exact tab_of_reads (Lib.laidMet.reads h (List.mem_cons_self ..))

set_option maxRecDepth 100000 in
theorem liftInsWords (os : Os) (started : os.Started) (H : Type) (enc : TypeId × Value → H) :
    ReturnsInHanded {} Tryd.checked os 11 .any (fun w args => (Rows.fnExactInsWordsSpec.pre enc Tryd.prog Tryd.f11 [] false w args ∧ laidMetH Tryd.prog laidWo w) ∧ sizedMet enc Tryd.prog Tryd.f11 (OpenSpec.ofChange Rows.fnExactInsWordsSpec) false w args)
      (Rows.fnExactInsWordsSpec.post enc Tryd.prog Tryd.f11 false true false false) := by
  refine returnsInHanded_of_change_and (C := Tryd.checked) (X := fun w _ => laidMetH Tryd.prog laidWo w) (fun _ _ _ hh h => h.of_heap hh) own_ started (by kernel_rfl) Tryd.func11
    (ChangeSpec.witness_shaped (enc := enc) (C := Tryd.checked) (os := os) (X := fun w _ => laidMetH Tryd.prog laidWo w) false (World.doorLaid Tryd.prog 400 os) #[] 8 rfl (World.shaped_of_RefB (by kernel_rfl) (by kernel_rfl)) (by kernel_rfl) (by kernel_rfl) (by kernel_rfl) (door_metWo os _)) ?_
  intro W base args ds gs before hval0 hW _ _ hL _
  obtain ⟨v, htab⟩ := tab_of_laidWo hL
  have hval : ∀ (j : Nat) t v, Tryd.f11.params[j]? = some t → args[j]? = some v → Value.okWide Tryd.prog W .any base t v := hval0
  have hW' := hW
  obtain ⟨p, q, hA0, hV, rfl, _, _⟩ := hW
  have hA : DataW.TrodAll enc Tryd.prog W 0 (fun _ => true) true Tryd.f11.params.toList args.toList ds p := hA0
  rw [Tryd.params11] at hA hval
  obtain ⟨rfl, rfl, rfl⟩ : args = #[] ∧ ds = [] ∧ p = [] := by
    obtain ⟨l⟩ := args
    match l, ds, hA with
    | [], [], hA => exact ⟨rfl, rfl, hA⟩
    | [], _ :: _, hA => exact hA.elim
    | _ :: _, _, hA => exact hA.elim
  have hV0 := hV
  obtain ⟨_, _, _, _, dv, _, rfl, _⟩ := trodVars_one hV0
  clear hA0 hval0
  refine (lawInsWords (Old W) v W htab (fun b hb => hb)).mono fun e W' ⟨he, hn⟩ => ?_
  subst he
  refine ⟨_, rfl, _, _, _, [], [], q, hW', ?_, ?_, Below.trodVars laidOut_ hn (by kernel_rfl) hV, hn.frame _, fun h => by cases h⟩
  · exact trodAll_mk1 (shut_bool Tryd.underlying4 true)
  · rfl

theorem InsWords_holds : Rows.FnExactInsWordsSaid :=
  OpenClaim.holds_of_wide 11 Tryd.f11 rfl rfl rfl rfl rfl rfl rfl ⟨rfl, rfl, rfl, rfl, rfl⟩ rfl rfl rfl rfl rfl (by kernel_rfl) Tryd.func11 (by kernel_rfl)
    (of_decide_eq_true (by kernel_rfl)) (by unfold Func.isWrapper; first | (rw [if_pos (by decide +kernel)]; kernel_rfl) | (rw [if_neg (by decide +kernel)]; exact ⟨rfl, rfl⟩))
    (fun os started H enc _ => liftInsWords os started H enc)
theorem InsWords_card : Rows.FnExactInsWordsCardSaid :=
  Claim7.holds_tied_plain_at .later [] [.widerDeep] true (true, "31d0304fe57b0a5c495c9e7da426e40d3f42007a78c03c3e224e8c0616644e1e") true
    InsWords_holds (fun _ h => by cases h) (by kernel_rfl) (fun _ h => by cases h) fnExactInsWords_row_tie rfl ⟨rfl, rfl⟩ (by kernel_rfl) rfl
    (fun f fn hf hfn => by
      obtain rfl : f = 11 := Option.some.inj ((show Tryd.prog.funcNamed Rows.fnExactInsWordsRow.func = some 11 by kernel_rfl).symm.trans hf) |>.symm
      obtain rfl : fn = Tryd.f11 := (Option.some.inj (Tryd.func11.symm.trans hfn)).symm
      exact ⟨by kernel_rfl, fun j t ht => by
        rw [Tryd.params11] at ht
        simp at ht⟩)
    (by kernel_rfl)
end Go.Proofs.YtbjnjdhkillbiaaDoor
