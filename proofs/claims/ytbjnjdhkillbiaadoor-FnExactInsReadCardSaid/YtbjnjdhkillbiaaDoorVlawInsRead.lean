/- Whatever the argument, the exact law of InsRead answers true: the program's InsRead is the model's, and leaves its argument and its table alone. -/
import Derived.Test.YtbjnjdhkillbiaaDoorItq
import Derived.Lib.LaidTab
import Derived.Stop.Joined
import Derived.Stop.LaidErr
import Derived.LaidByTextLater
import Derived.SevenTiedAt
import Derived.ProofKit
import Derived.OpenShut
import Derived.Test.YtbjnjdhkillbiaaDoorTie
import Derived.Test.YtbjnjdhkillbiaaDoorCards
namespace Go.Proofs.YtbjnjdhkillbiaaDoor
open Go.ChangeShapes Go.WideShapes Go.ChangeAt Go.RowKit Go.Deep
open Go.ChangeMaps (open_string shut_string)

set_option maxRecDepth 100000 in
theorem eqIns_any (o : ByteArray) (x y : Int) (w : World) : Calls Tryd.prog 31 #[.agg #[.string o, .int .i64 x, .int .i64 y], .agg #[.string o, .int .i64 x, .int .i64 y]] w fun e w' => e = .returned (.bool true) ∧ Below w.heap.size w w' := by
  have HQ := Lib.hid (((Below.refl w.heap.size w).alloc (Nat.le_refl _) (.cells #[.string o, .int .i64 x, .int .i64 y] 34)).alloc (by simp) (.cells #[.string o, .int .i64 x, .int .i64 y] 34))
  go_enter Tryd.func31, Tryd.ntmps31
  go_wp2
  go_ret
  exact ⟨rfl, HQ.out⟩

set_option maxRecDepth 100000 in
set_option maxHeartbeats 4000000 in
theorem lawInsRead (F : Nat → Prop) (v : Value) (s : ByteArray) (w : World) (h : Tab F w v) (hF : ∀ b, F b → b < w.heap.size) (hsm : s.size ≤ maxLen) (hlib : LibAt w) (htab : Lib.TabBelow Tryd.prog w.heap.size w tabN .u64 Lib.pow10Tab) :
    Calls Tryd.prog 10 #[.string s] w fun e w' => e = .returned (.bool true) ∧ Below w.heap.size w w' := by
  have HT := Lib.hid h
  have HTab := Lib.hid htab
  have HLib := Lib.hid hlib
  unfold maxLen at hsm
  clear h htab hlib
  by_cases hz : 1048576 < s.size
  · have b1 : (1048576 : Int) < s.size := by omega
    clear hz
    go_enter Tryd.func10, Tryd.ntmps10
    go_wp2_with fail
    go_ret
    exact ⟨rfl, Below.refl _ _⟩
  · have b1 : ¬ (1048576 : Int) < s.size := by omega
    have hs : s.size ≤ 2000000 := by omega
    have HC1 := Lib.hid (specInsRead_any s w hs)
    have HC2 := Lib.hid fun (w1 : World) (h1 : Below w.heap.size w w1) => implInsRead_any F v s w1 (HT.out.keep (below_keeps h1 hF)) (fun b hb => Nat.lt_of_lt_of_le (hF b hb) h1.size) hs (HLib.out.below h1) (tab_up HTab.out h1 h1.size)
    generalize insRead s = r at HC1 HC2
    obtain ⟨⟨o, x, y⟩, b⟩ := r
    clear hz hsm
    go_enter Tryd.func10, Tryd.ntmps10
    go_wp2_with fail
    refine HC1.out.mono ?_
    rintro e w1 ⟨rfl, hb⟩
    dsimp only [ReadV]
    have HW1 := Lib.hid hb
    clear hb
    have HB1 := Lib.hid (Blk.new w1 34 #[.string o, .int .i64 x, .int .i64 y])
    have HW1a := Lib.hid (HW1.out.alloc HW1.out.size (.cells #[.string o, .int .i64 x, .int .i64 y] 34))
    have hw1s : (w1.alloc (.cells #[.string o, .int .i64 x, .int .i64 y] 34)).heap.size = w1.heap.size + 1 := by simp
    have Hw1 := Lib.hid hw1s
    clear hw1s
    go_wp2_with fail
    refine (HC2.out _ HW1a.out).mono ?_
    rintro e w2 ⟨rfl, hb⟩
    dsimp only [ReadV]
    have HB2 := Lib.hid (HB1.out.below hb (by rw [Hw1.out]; omega))
    have HW2 := Lib.hid (HW1a.out.trans (hb.mono HW1a.out.size))
    obtain ⟨x0, x1, x2⟩ := HB2.out.c3
    have hlt := HB2.out.lt
    have HW2a := Lib.hid (HW2.out.alloc HW2.out.size (.cells #[.string o, .int .i64 x, .int .i64 y] 34))
    clear hb
    go_wp2_with fail
    refine (eqIns_any o x y _).mono ?_
    rintro e w3 ⟨rfl, hb⟩
    have HW3 := Lib.hid (HW2a.out.trans (hb.mono HW2a.out.size))
    clear hb
    go_wp2_with fail
    go_ret
    exact ⟨rfl, HW3.out⟩

/-- What the row lists. -/
def laidRd : List (String × DataW Unit) := Rows.fnExactInsReadRow.laid
set_option maxRecDepth 100000 in
theorem door_metRd (os : Os) (args : Array Value) : laidMetH Tryd.prog laidRd ((World.doorLaid Tryd.prog 400 os).forCall (fun _ _ => 0) ⟨#[], args, []⟩).memory :=
  laidMetH_of_parts3 (fuel := 8) (laidMet_of_run' 8 (by kernel_rfl) (by kernel_rfl)) (by kernel_rfl) (by kernel_rfl)
set_option maxRecDepth 100000 in
theorem tab_of_laidRd {W : World} (h : laidMetH Tryd.prog laidRd W) (hsh : W.ShapedOpen Tryd.prog) : (∃ v, Tab (Old W) W v) ∧ Lib.TabBelow Tryd.prog W.heap.size W tabN .u64 Lib.pow10Tab ∧ LibAt W := by
  rw [MakeChecks.laidMetH_plain _ _ _ (by kernel_rfl)] at h
  refine ⟨tab_of_reads (Lib.laidMet.reads h (.tail _ (.tail _ (.tail _ (.tail _ (.tail _ (.head _))))))), Lib.tabBelow_of_tabIs ?_, laysM145.s1_3 W hsh, ?_, ?_⟩
  · have h2 := laidMet.tail (laidMet.tail h)
    exact Lib.tabIs_of_head (g := 4) (t := 139) (e := 115) (n := 20) (by kernel_rfl) (by kernel_rfl) Tryd.underlying139 Tryd.underlying115 (by kernel_rfl) (by kernel_rfl) h2
  · exact iface_of_reads (n := "strconv.ErrSyntax") (t := 77) (by kernel_rfl) (by kernel_rfl) Tryd.underlying77 (Lib.laidMet.reads h (.tail _ (.tail _ (.tail _ (.tail _ (.head _))))))
  · exact iface_of_reads (n := "strconv.ErrRange") (t := 77) (by kernel_rfl) (by kernel_rfl) Tryd.underlying77 (Lib.laidMet.reads h (.tail _ (.tail _ (.tail _ (.head _)))))

set_option maxRecDepth 100000 in
theorem coreInsRead {H : Type} {enc : TypeId × Value → H} (W : World) (base : Nat) (args : Array Value) (ds gs : List (DataW H)) (before : List MemPlace) (hval : ∀ (j : Nat) t v, Tryd.f10.params[j]? = some t → args[j]? = some v → Value.okWide Tryd.prog W .any base t v)
    (hW : DataW.Whole enc Tryd.prog Tryd.f10.params.toList Rows.fnExactInsReadSpec.vars false W args.toList ds gs before) (hL : laidMetH Tryd.prog laidRd W) (hsh : W.ShapedOpen Tryd.prog) :
    Calls Tryd.prog 10 args W fun e W' => ∃ v, e = .returned v ∧ Rows.fnExactInsReadSpec.post enc Tryd.prog Tryd.f10 false true false false W args v W' := by
  obtain ⟨⟨v, htab⟩, hpow, hlib⟩ := tab_of_laidRd hL hsh
  have hW' := hW
  obtain ⟨p, q, hA0, hV, rfl, _, _⟩ := hW
  have hA : DataW.TrodAll enc Tryd.prog W 0 (fun _ => true) true Tryd.f10.params.toList args.toList ds p := hA0
  rw [Tryd.params10] at hA hval
  obtain ⟨v0, d0, rfl, rfl, h0⟩ := trodAll_one hA
  obtain ⟨s, rfl, _, _, hs⟩ := open_string Tryd.underlying9 (hval 0 9 v0 rfl rfl) h0
  have hV0 := hV
  obtain ⟨_, _, _, _, dv, _, rfl, _⟩ := trodVars_one hV0
  clear hA0
  have hlt0 : ∀ x ∈ p, x.block < W.heap.size := fun x hx => by simpa using hW'.lt x (by simp [hx])
  refine (lawInsRead (Old W) v s W htab (fun b hb => hb) hs hlib hpow).mono fun e W' ⟨he, hn⟩ => ?_
  subst he
  refine ⟨_, rfl, _, _, _, [], p, q, hW', ?_, ?_, Below.trodVars laidOut_ hn (by kernel_rfl) hV, hn.frame _, fun h => by cases h⟩
  · exact trodAll_mk1 (shut_bool Tryd.underlying4 true)
  · exact trodAll_mk1 (Below.trod laidOut_ (by kernel_rfl) (of_decide_eq_true (by kernel_rfl)) h0 hn hlt0)

set_option maxRecDepth 100000 in
theorem liftInsRead (os : Os) (started : os.Started) (H : Type) (enc : TypeId × Value → H) :
    ReturnsInHanded {} Tryd.checked os 10 .any (fun w args => (Rows.fnExactInsReadSpec.pre enc Tryd.prog Tryd.f10 [] false w args ∧ laidMetH Tryd.prog laidRd w) ∧ sizedMet enc Tryd.prog Tryd.f10 (OpenSpec.ofChange Rows.fnExactInsReadSpec) false w args)
      (Rows.fnExactInsReadSpec.post enc Tryd.prog Tryd.f10 false true false false) := by
  refine returnsInHanded_of_calls (C := Tryd.checked) own_ started (by kernel_rfl)
    (ChangeSpec.witness_shaped (enc := enc) (C := Tryd.checked) (os := os) (X := fun w _ => laidMetH Tryd.prog laidRd w) false (World.doorLaid Tryd.prog 400 os) #[.string ByteArray.empty] 8 rfl (World.shaped_of_RefB (by kernel_rfl) (by kernel_rfl)) (by kernel_rfl) (by kernel_rfl) (by kernel_rfl) (door_metRd os _)) ?_
  intro w0 tape inp _ hshaped _ hfits hpre _
  obtain ⟨_, _, _, fn', hfn', _, _, _, _, hval⟩ := hfits
  obtain rfl : fn' = Tryd.f10 := Option.some.inj (hfn'.symm.trans Tryd.func10)
  obtain ⟨⟨⟨ds, gs, before, hW, _⟩, hL⟩, _⟩ := hpre
  refine (coreInsRead (w0.forCall tape inp) _ inp.args ds gs before hval (DataW.Whole.of_heap (w' := w0.forCall tape inp) (by rfl) hW) (hL.of_heap (by rfl)) hshaped).mono fun E W' ⟨v, he, hp⟩ => ?_
  subst he
  exact ChangeSpec.post_blind hp

theorem InsRead_holds : Rows.FnExactInsReadSaid :=
  OpenClaim.holds_of_wide 10 Tryd.f10 rfl rfl rfl rfl rfl rfl rfl ⟨rfl, rfl, rfl, rfl, rfl⟩ rfl rfl rfl rfl rfl (by kernel_rfl) Tryd.func10 (by kernel_rfl)
    (of_decide_eq_true (by kernel_rfl)) (by unfold Func.isWrapper; first | (rw [if_pos (by decide +kernel)]; kernel_rfl) | (rw [if_neg (by decide +kernel)]; exact ⟨rfl, rfl⟩))
    (fun os started H enc _ => liftInsRead os started H enc)
theorem InsRead_card : Rows.FnExactInsReadCardSaid :=
  Claim7.holds_tied_plain_at .later [] [.data, .data, .data, .sentinel, .sentinel, .widerDeep] true (true, "31d0304fe57b0a5c495c9e7da426e40d3f42007a78c03c3e224e8c0616644e1e") true
    InsRead_holds (fun _ h => by cases h) (by kernel_rfl) (fun _ h => by cases h) fnExactInsRead_row_tie rfl ⟨rfl, rfl⟩ (by kernel_rfl) rfl
    (fun f fn hf hfn => by
      obtain rfl : f = 10 := Option.some.inj ((show Tryd.prog.funcNamed Rows.fnExactInsReadRow.func = some 10 by kernel_rfl).symm.trans hf) |>.symm
      obtain rfl : fn = Tryd.f10 := (Option.some.inj (Tryd.func10.symm.trans hfn)).symm
      exact ⟨by kernel_rfl, fun j t ht => by
        rw [Tryd.params10] at ht
        have hm : t ∈ [9] := by simpa using Array.mem_of_getElem? ht
        have hall : ([9].all fun u => !Tryd.prog.wantsStandIn u) = true := by kernel_rfl
        exact (show Tryd.prog.wantsStandIn t = false by simpa using List.all_eq_true.1 hall t hm)⟩)
    (by kernel_rfl)
end Go.Proofs.YtbjnjdhkillbiaaDoor
