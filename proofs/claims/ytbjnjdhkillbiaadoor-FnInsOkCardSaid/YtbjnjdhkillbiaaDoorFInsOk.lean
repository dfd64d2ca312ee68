/- Whatever the code, the law of InsOk answers true: of what is drawn the program's InsOk is the model's, and an instruction is one just if it has a text. -/
import Derived.Test.YtbjnjdhkillbiaaDoorFn
import Derived.Test.YtbjnjdhkillbiaaDoorFc
import Derived.Test.YtbjnjdhkillbiaaDoorIth
import Derived.Lib.LaidTab
import Derived.Test.YtbjnjdhkillbiaaDoorIth
import Derived.Stop.Joined
import Derived.Stop.LaidErr
import Derived.LaidByTextLater
import Derived.SevenTiedAt
import Derived.ProofKit
import Derived.OpenShut
import Derived.Test.YtbjnjdhkillbiaaDoorTie
import Derived.Test.YtbjnjdhkillbiaaDoorCards
namespace Go.Proofs.YtbjnjdhkillbiaaDoor
open Go.ChangeShapes Go.WideShapes Go.ChangeAt Go.RowKit Go.Deep
open Go.ChangeMaps (open_string shut_string)

/-- What the row lists. -/
def laidFnInsOk : List (String × DataW Unit) := Rows.fnInsOkRow.laid
set_option maxRecDepth 100000 in
theorem door_metFnInsOk (os : Os) (args : Array Value) : laidMetH Tryd.prog laidFnInsOk ((World.doorLaid Tryd.prog 400 os).forCall (fun _ _ => 0) ⟨#[], args, []⟩).memory :=
  laidMetH_of_parts3 (fuel := 8) (laidMet_of_run' 8 (by kernel_rfl) (by kernel_rfl)) (by kernel_rfl) (by kernel_rfl)
set_option maxRecDepth 100000 in
theorem tab_of_laidFnInsOk {W : World} (h : laidMetH Tryd.prog laidFnInsOk W) : (∃ v, Tab (Old W) W v) ∧ Lib.TabBelow Tryd.prog W.heap.size W tabN .u64 Lib.pow10Tab := by
  rw [MakeChecks.laidMetH_plain _ _ _ (by kernel_rfl)] at h
  refine ⟨tab_of_reads (Lib.laidMet.reads h (.tail _ (.tail _ (.tail _ (.head _))))), Lib.tabBelow_of_tabIs ?_⟩
  have h2 := laidMet.tail (laidMet.tail h)
  exact Lib.tabIs_of_head (g := 4) (t := 139) (e := 115) (n := 20) (by kernel_rfl) (by kernel_rfl) Tryd.underlying139 Tryd.underlying115 (by kernel_rfl) (by kernel_rfl) h2

set_option maxRecDepth 100000 in
theorem liftFnInsOk (os : Os) (started : os.Started) (H : Type) (enc : TypeId × Value → H) :
    ReturnsInHanded {} Tryd.checked os 4 .any (fun w args => (Rows.fnInsOkSpec.pre enc Tryd.prog Tryd.f4 [] false w args ∧ laidMetH Tryd.prog laidFnInsOk w) ∧ sizedMet enc Tryd.prog Tryd.f4 (OpenSpec.ofChange Rows.fnInsOkSpec) false w args)
      (Rows.fnInsOkSpec.post enc Tryd.prog Tryd.f4 false true false false) := by
  refine returnsInHanded_of_change_and (C := Tryd.checked) (X := fun w _ => laidMetH Tryd.prog laidFnInsOk w) (fun _ _ _ hh h => h.of_heap hh) own_ started (by kernel_rfl) Tryd.func4
    (ChangeSpec.witness_shaped (enc := enc) (C := Tryd.checked) (os := os) (X := fun w _ => laidMetH Tryd.prog laidFnInsOk w) false (World.doorLaid Tryd.prog 400 os) #[.slice none 0 0] 8 rfl (World.shaped_of_RefB (by kernel_rfl) (by kernel_rfl)) (by kernel_rfl) (by kernel_rfl) (by kernel_rfl) (door_metFnInsOk os _)) ?_
  intro W base args ds gs before hval0 hW _ _ hL _
  obtain ⟨⟨v, htab⟩, hpow⟩ := tab_of_laidFnInsOk hL
  have hval : ∀ (j : Nat) t v, Tryd.f4.params[j]? = some t → args[j]? = some v → Value.okWide Tryd.prog W .any base t v := hval0
  have hW' := hW
  obtain ⟨p, q, hA0, hV, rfl, _, _⟩ := hW
  have hA : DataW.TrodAll enc Tryd.prog W 0 (fun _ => true) true Tryd.f4.params.toList args.toList ds p := hA0
  rw [Tryd.params4] at hA hval
  obtain ⟨v0, d0, rfl, rfl, h0⟩ := trodAll_one hA
  obtain ⟨xs, hxs⟩ := open_code (hval 0 22 v0 rfl rfl) h0
  have hV0 := hV
  obtain ⟨_, _, _, _, dv, _, rfl, _⟩ := trodVars_one hV0
  clear hA0 hval0
  have hlt0 : ∀ x ∈ p, x.block < W.heap.size := fun x hx => by simpa using hW'.lt x (by simp [hx])
  refine (fnInsOk (Old W) v v0 xs W htab (fun b hb => hb) hxs hpow).mono fun e W' ⟨he, hn⟩ => ?_
  subst he
  refine ⟨_, rfl, _, _, _, [], p, q, hW', ?_, ?_, Below.trodVars laidOut_ hn (by kernel_rfl) hV, hn.frame _, fun h => by cases h⟩
  · exact trodAll_mk1 (shut_bool Tryd.underlying4 true)
  · exact trodAll_mk1 (Below.trod laidOut_ (by kernel_rfl) (of_decide_eq_true (by kernel_rfl)) h0 hn hlt0)

theorem FnInsOk_holds : Rows.FnInsOkSaid :=
  OpenClaim.holds_of_wide 4 Tryd.f4 rfl rfl rfl rfl rfl rfl rfl ⟨rfl, rfl, rfl, rfl, rfl⟩ rfl rfl rfl rfl rfl (by kernel_rfl) Tryd.func4 (by kernel_rfl)
    (of_decide_eq_true (by kernel_rfl)) (by unfold Func.isWrapper; first | (rw [if_pos (by decide +kernel)]; kernel_rfl) | (rw [if_neg (by decide +kernel)]; exact ⟨rfl, rfl⟩))
    (fun os started H enc _ => liftFnInsOk os started H enc)
theorem FnInsOk_card : Rows.FnInsOkCardSaid :=
  Claim7.holds_tied_plain_at .later [] [.data, .data, .data, .widerDeep] true (true, "31d0304fe57b0a5c495c9e7da426e40d3f42007a78c03c3e224e8c0616644e1e") true
    FnInsOk_holds (fun _ h => by cases h) (by kernel_rfl) (fun _ h => by cases h) fnInsOk_row_tie rfl ⟨rfl, rfl⟩ (by kernel_rfl) rfl
    (fun f fn hf hfn => by
      obtain rfl : f = 4 := Option.some.inj ((show Tryd.prog.funcNamed Rows.fnInsOkRow.func = some 4 by kernel_rfl).symm.trans hf) |>.symm
      obtain rfl : fn = Tryd.f4 := (Option.some.inj (Tryd.func4.symm.trans hfn)).symm
      exact ⟨by kernel_rfl, fun j t ht => by
        rw [Tryd.params4] at ht
        have hm : t ∈ [22] := by simpa using Array.mem_of_getElem? ht
        have hall : ([22].all fun u => !Tryd.prog.wantsStandIn u) = true := by kernel_rfl
        exact (show Tryd.prog.wantsStandIn t = false by simpa using List.all_eq_true.1 hall t hm)⟩)
    (by kernel_rfl)
end Go.Proofs.YtbjnjdhkillbiaaDoor
