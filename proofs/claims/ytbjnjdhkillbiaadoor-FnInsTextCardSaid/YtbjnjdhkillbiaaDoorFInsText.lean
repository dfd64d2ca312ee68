/- Whatever the code, the law of InsText answers true: of what is drawn the program's InsText is the model's, and what is written is read back. -/
import Derived.Test.YtbjnjdhkillbiaaDoorFn
import Derived.Test.YtbjnjdhkillbiaaDoorFc
import Derived.Test.YtbjnjdhkillbiaaDoorIth
import Derived.Lib.LaidTab
import Derived.Stop.Joined
import Derived.Stop.LaidErr
import Derived.LaidByTextLater
import Derived.SevenTiedAt
import Derived.ProofKit
import Derived.OpenShut
import Derived.Test.YtbjnjdhkillbiaaDoorTie
import Derived.Test.YtbjnjdhkillbiaaDoorCards
namespace Go.Proofs.YtbjnjdhkillbiaaDoor
open Go.ChangeShapes Go.WideShapes Go.ChangeAt Go.RowKit Go.Deep
open Go.ChangeMaps (open_string shut_string)

/-- What the row lists. -/
def laidFnInsText : List (String × DataW Unit) := Rows.fnInsTextRow.laid
set_option maxRecDepth 100000 in
theorem door_metFnInsText (os : Os) (args : Array Value) : laidMetH Tryd.prog laidFnInsText ((World.doorLaid Tryd.prog 400 os).forCall (fun _ _ => 0) ⟨#[], args, []⟩).memory :=
  laidMetH_of_parts3 (fuel := 8) (laidMet_of_run' 8 (by kernel_rfl) (by kernel_rfl)) (by kernel_rfl) (by kernel_rfl)
set_option maxRecDepth 100000 in
theorem tab_of_laidFnInsText {W : World} (h : laidMetH Tryd.prog laidFnInsText W) (hsh : W.ShapedOpen Tryd.prog) : (∃ v, Tab (Old W) W v) ∧ Lib.TabBelow Tryd.prog W.heap.size W tabN .u64 Lib.pow10Tab ∧ LibAt W := by
  rw [MakeChecks.laidMetH_plain _ _ _ (by kernel_rfl)] at h
  refine ⟨tab_of_reads (Lib.laidMet.reads h (.tail _ (.tail _ (.tail _ (.tail _ (.tail _ (.head _))))))), Lib.tabBelow_of_tabIs ?_, laysM145.s1_3 W hsh, ?_, ?_⟩
  · have h2 := laidMet.tail (laidMet.tail h)
    exact Lib.tabIs_of_head (g := 4) (t := 139) (e := 115) (n := 20) (by kernel_rfl) (by kernel_rfl) Tryd.underlying139 Tryd.underlying115 (by kernel_rfl) (by kernel_rfl) h2
  · exact iface_of_reads (n := "strconv.ErrSyntax") (t := 77) (by kernel_rfl) (by kernel_rfl) Tryd.underlying77 (Lib.laidMet.reads h (.tail _ (.tail _ (.tail _ (.tail _ (.head _))))))
  · exact iface_of_reads (n := "strconv.ErrRange") (t := 77) (by kernel_rfl) (by kernel_rfl) Tryd.underlying77 (Lib.laidMet.reads h (.tail _ (.tail _ (.tail _ (.head _)))))

set_option maxRecDepth 100000 in
theorem coreFnInsText {H : Type} {enc : TypeId × Value → H} (W : World) (base : Nat) (args : Array Value) (ds gs : List (DataW H)) (before : List MemPlace) (hval : ∀ (j : Nat) t v, Tryd.f5.params[j]? = some t → args[j]? = some v → Value.okWide Tryd.prog W .any base t v)
    (hW : DataW.Whole enc Tryd.prog Tryd.f5.params.toList Rows.fnInsTextSpec.vars false W args.toList ds gs before) (hL : laidMetH Tryd.prog laidFnInsText W) (hsh : W.ShapedOpen Tryd.prog) :
    Calls Tryd.prog 5 args W fun e W' => ∃ v, e = .returned v ∧ Rows.fnInsTextSpec.post enc Tryd.prog Tryd.f5 false true false false W args v W' := by
  obtain ⟨⟨v, htab⟩, hpow, hlib⟩ := tab_of_laidFnInsText hL hsh
  have hW' := hW
  obtain ⟨p, q, hA0, hV, rfl, _, _⟩ := hW
  have hA : DataW.TrodAll enc Tryd.prog W 0 (fun _ => true) true Tryd.f5.params.toList args.toList ds p := hA0
  rw [Tryd.params5] at hA hval
  obtain ⟨v0, d0, rfl, rfl, h0⟩ := trodAll_one hA
  obtain ⟨xs, hxs⟩ := open_code (hval 0 22 v0 rfl rfl) h0
  have hV0 := hV
  obtain ⟨_, _, _, _, dv, _, rfl, _⟩ := trodVars_one hV0
  clear hA0
  have hlt0 : ∀ x ∈ p, x.block < W.heap.size := fun x hx => by simpa using hW'.lt x (by simp [hx])
  refine (fnInsText (Old W) v v0 xs W htab (fun b hb => hb) hxs hlib hpow).mono fun e W' ⟨he, hn⟩ => ?_
  subst he
  refine ⟨_, rfl, _, _, _, [], p, q, hW', ?_, ?_, Below.trodVars laidOut_ hn (by kernel_rfl) hV, hn.frame _, fun h => by cases h⟩
  · exact trodAll_mk1 (shut_bool Tryd.underlying4 true)
  · exact trodAll_mk1 (Below.trod laidOut_ (by kernel_rfl) (of_decide_eq_true (by kernel_rfl)) h0 hn hlt0)

set_option maxRecDepth 100000 in
theorem liftFnInsText (os : Os) (started : os.Started) (H : Type) (enc : TypeId × Value → H) :
    ReturnsInHanded {} Tryd.checked os 5 .any (fun w args => (Rows.fnInsTextSpec.pre enc Tryd.prog Tryd.f5 [] false w args ∧ laidMetH Tryd.prog laidFnInsText w) ∧ sizedMet enc Tryd.prog Tryd.f5 (OpenSpec.ofChange Rows.fnInsTextSpec) false w args)
      (Rows.fnInsTextSpec.post enc Tryd.prog Tryd.f5 false true false false) := by
  refine returnsInHanded_of_calls (C := Tryd.checked) own_ started (by kernel_rfl)
    (ChangeSpec.witness_shaped (enc := enc) (C := Tryd.checked) (os := os) (X := fun w _ => laidMetH Tryd.prog laidFnInsText w) false (World.doorLaid Tryd.prog 400 os) #[.slice none 0 0] 8 rfl (World.shaped_of_RefB (by kernel_rfl) (by kernel_rfl)) (by kernel_rfl) (by kernel_rfl) (by kernel_rfl) (door_metFnInsText os _)) ?_
  intro w0 tape inp _ hshaped _ hfits hpre _
  obtain ⟨_, _, _, fn', hfn', _, _, _, _, hval⟩ := hfits
  obtain rfl : fn' = Tryd.f5 := Option.some.inj (hfn'.symm.trans Tryd.func5)
  obtain ⟨⟨⟨ds, gs, before, hW, _⟩, hL⟩, _⟩ := hpre
  refine (coreFnInsText (w0.forCall tape inp) _ inp.args ds gs before hval (DataW.Whole.of_heap (w' := w0.forCall tape inp) (by rfl) hW) (hL.of_heap (by rfl)) hshaped).mono fun E W' ⟨v, he, hp⟩ => ?_
  subst he
  exact ChangeSpec.post_blind hp

theorem FnInsText_holds : Rows.FnInsTextSaid :=
  OpenClaim.holds_of_wide 5 Tryd.f5 rfl rfl rfl rfl rfl rfl rfl ⟨rfl, rfl, rfl, rfl, rfl⟩ rfl rfl rfl rfl rfl (by kernel_rfl) Tryd.func5 (by kernel_rfl)
    (of_decide_eq_true (by kernel_rfl)) (by unfold Func.isWrapper; first | (rw [if_pos (by decide +kernel)]; kernel_rfl) | (rw [if_neg (by decide +kernel)]; exact ⟨rfl, rfl⟩))
    (fun os started H enc _ => liftFnInsText os started H enc)
theorem FnInsText_card : Rows.FnInsTextCardSaid :=
  Claim7.holds_tied_plain_at .later [] [.data, .data, .data, .sentinel, .sentinel, .widerDeep] true (true, "31d0304fe57b0a5c495c9e7da426e40d3f42007a78c03c3e224e8c0616644e1e") true
    FnInsText_holds (fun _ h => by cases h) (by kernel_rfl) (fun _ h => by cases h) fnInsText_row_tie rfl ⟨rfl, rfl⟩ (by kernel_rfl) rfl
    (fun f fn hf hfn => by
      obtain rfl : f = 5 := Option.some.inj ((show Tryd.prog.funcNamed Rows.fnInsTextRow.func = some 5 by kernel_rfl).symm.trans hf) |>.symm
      obtain rfl : fn = Tryd.f5 := (Option.some.inj (Tryd.func5.symm.trans hfn)).symm
      exact ⟨by kernel_rfl, fun j t ht => by
        rw [Tryd.params5] at ht
        have hm : t ∈ [22] := by simpa using Array.mem_of_getElem? ht
        have hall : ([22].all fun u => !Tryd.prog.wantsStandIn u) = true := by kernel_rfl
        exact (show Tryd.prog.wantsStandIn t = false by simpa using List.all_eq_true.1 hall t hm)⟩)
    (by kernel_rfl)
end Go.Proofs.YtbjnjdhkillbiaaDoor
