/- Whatever the arguments, the exact law of InsText answers true: the program's InsText is the model's, and leaves its arguments and its table alone. -/
import Derived.Test.YtbjnjdhkillbiaaDoorItj
import Derived.Lib.LaidTab
import Derived.Test.YtbjnjdhkillbiaaDoorIth
import Derived.Stop.Joined
import Derived.Stop.LaidErr
import Derived.LaidByTextLater
import Derived.SevenTiedAt
import Derived.ProofKit
import Derived.OpenShut
import Derived.Test.YtbjnjdhkillbiaaDoorTie
import Derived.Test.YtbjnjdhkillbiaaDoorCards
namespace Go.Proofs.YtbjnjdhkillbiaaDoor
open Go.ChangeShapes Go.WideShapes Go.ChangeAt Go.RowKit Go.Deep
open Go.ChangeMaps (open_string shut_string)

set_option maxRecDepth 100000 in
set_option maxHeartbeats 4000000 in
theorem lawInsText (F : Nat → Prop) (v : Value) (op : ByteArray) (x y : Int) (w : World) (h : Tab F w v) (hF : ∀ b, F b → b < w.heap.size) (ho : op.size ≤ maxLen) (hx : I64 x) (hy : I64 y) (htab : Lib.TabBelow Tryd.prog w.heap.size w tabN .u64 Lib.pow10Tab) :
    Calls Tryd.prog 9 #[.agg #[.string op, .int .i64 x, .int .i64 y]] w fun e w' => e = .returned (.bool true) ∧ Below w.heap.size w w' := by
  have HT := Lib.hid h
  have HTab := Lib.hid htab
  clear htab
  have HB0 := Lib.hid (Blk.new w 45 #[.string op, .int .i64 x, .int .i64 y])
  have HW0 := Lib.hid ((Below.refl w.heap.size w).alloc (Nat.le_refl _) (.cells #[.string op, .int .i64 x, .int .i64 y] 45))
  have Hw0 := Lib.hid (show (w.alloc (.cells #[.string op, .int .i64 x, .int .i64 y] 45)).heap.size = w.heap.size + 1 by simp)
  have Hx := Lib.hid hx
  have Hy := Lib.hid hy
  have HSz := Lib.hid fun w => szIns_any op x y 1048576 w ho (by omega) (by omega)
  clear h hx hy
  by_cases hz : (1048576 : Int) - op.size < 0
  · rw [if_pos hz] at HSz
    go_enter Tryd.func9, Tryd.ntmps9
    go_wp2_with fail
    refine (HSz.out _).mono ?_
    rintro e w1 ⟨rfl, hb⟩
    have HW1 := Lib.hid (HW0.out.trans (hb.mono (by rw [Hw0.out]; omega)))
    clear hb
    go_wp2_with fail
    go_ret
    exact ⟨rfl, HW1.out⟩
  · rw [if_neg hz] at HSz
    go_enter Tryd.func9, Tryd.ntmps9
    go_wp2_with fail
    refine (HSz.out _).mono ?_
    rintro e w1 ⟨rfl, hb⟩
    have HB1 := Lib.hid (HB0.out.below hb (by rw [Hw0.out]; omega))
    have HW1 := Lib.hid (HW0.out.trans (hb.mono (by rw [Hw0.out]; omega)))
    obtain ⟨x0, x1, x2⟩ := HB1.out.c3
    have hs1 := HB1.out.lt
    clear hb
    go_wp2_with fail
    refine (toIns_any op x y _).mono ?_
    rintro e w2 ⟨rfl, hb⟩
    have HB2 := Lib.hid (HB1.out.below hb hs1)
    have HW2 := Lib.hid (HW1.out.trans (hb.mono HW1.out.size))
    clear hb x0 x1 x2 hs1
    go_wp2_with fail
    refine (specInsText_any op x y _ Hx.out Hy.out).mono ?_
    rintro e w3 ⟨rfl, hb⟩
    have HB3 := Lib.hid (HB2.out.below hb HB2.out.lt)
    have HW3 := Lib.hid (HW2.out.trans (hb.mono HW2.out.size))
    obtain ⟨x0, x1, x2⟩ := HB3.out.c3
    clear hb
    go_wp2_with fail
    refine (toIns_any op x y _).mono ?_
    rintro e w4 ⟨rfl, hb⟩
    have HB4 := Lib.hid (HB3.out.below hb HB3.out.lt)
    have HW4 := Lib.hid (HW3.out.trans (hb.mono HW3.out.size))
    have HT4 := Lib.hid (HT.out.keep (below_keeps HW4.out hF))
    have HF4 := Lib.hid (show ∀ b, F b → b < w4.heap.size from fun b hb => Nat.lt_of_lt_of_le (hF b hb) HW4.out.size)
    clear hb x0 x1 x2
    go_wp2_with fail
    refine (implInsText_any F v op x y _ HT4.out HF4.out (tab_up HTab.out HW4.out HW4.out.size)).mono ?_
    rintro e w5 ⟨rfl, hb⟩
    have HW5 := Lib.hid (HW4.out.trans (hb.mono HW4.out.size))
    clear hb
    go_wp2_with fail
    go_ret
    exact ⟨rfl, HW5.out⟩

/-- What the row lists. -/
def laidTx : List (String × DataW Unit) := Rows.fnExactInsTextRow.laid
set_option maxRecDepth 100000 in
theorem door_metTx (os : Os) (args : Array Value) : laidMetH Tryd.prog laidTx ((World.doorLaid Tryd.prog 400 os).forCall (fun _ _ => 0) ⟨#[], args, []⟩).memory :=
  laidMetH_of_parts3 (fuel := 8) (laidMet_of_run' 8 (by kernel_rfl) (by kernel_rfl)) (by kernel_rfl) (by kernel_rfl)
set_option maxRecDepth 100000 in
theorem tab_of_laidTx {W : World} (h : laidMetH Tryd.prog laidTx W) : (∃ v, Tab (Old W) W v) ∧ Lib.TabBelow Tryd.prog W.heap.size W tabN .u64 Lib.pow10Tab := by
  rw [MakeChecks.laidMetH_plain _ _ _ (by kernel_rfl)] at h
  refine ⟨tab_of_reads (Lib.laidMet.reads h (.tail _ (.tail _ (.tail _ (.head _))))), Lib.tabBelow_of_tabIs ?_⟩
  have h2 := laidMet.tail (laidMet.tail h)
  exact Lib.tabIs_of_head (g := 4) (t := 139) (e := 115) (n := 20) (by kernel_rfl) (by kernel_rfl) Tryd.underlying139 Tryd.underlying115 (by kernel_rfl) (by kernel_rfl) h2

set_option maxRecDepth 100000 in
theorem liftInsText (os : Os) (started : os.Started) (H : Type) (enc : TypeId × Value → H) :
    ReturnsInHanded {} Tryd.checked os 9 .any (fun w args => (Rows.fnExactInsTextSpec.pre enc Tryd.prog Tryd.f9 [] false w args ∧ laidMetH Tryd.prog laidTx w) ∧ sizedMet enc Tryd.prog Tryd.f9 (OpenSpec.ofChange Rows.fnExactInsTextSpec) false w args)
      (Rows.fnExactInsTextSpec.post enc Tryd.prog Tryd.f9 false true false false) := by
  refine returnsInHanded_of_change_and (C := Tryd.checked) (X := fun w _ => laidMetH Tryd.prog laidTx w) (fun _ _ _ hh h => h.of_heap hh) own_ started (by kernel_rfl) Tryd.func9
    (ChangeSpec.witness_shaped (enc := enc) (C := Tryd.checked) (os := os) (X := fun w _ => laidMetH Tryd.prog laidTx w) false (World.doorLaid Tryd.prog 400 os) #[.agg #[.string ByteArray.empty, .int .i64 0, .int .i64 0]] 8 rfl (World.shaped_of_RefB (by kernel_rfl) (by kernel_rfl)) (by kernel_rfl) (by kernel_rfl) (by kernel_rfl) (door_metTx os _)) ?_
  intro W base args ds gs before hval0 hW _ _ hL _
  obtain ⟨⟨v, htab⟩, hpow⟩ := tab_of_laidTx hL
  have hval : ∀ (j : Nat) t v, Tryd.f9.params[j]? = some t → args[j]? = some v → Value.okWide Tryd.prog W .any base t v := hval0
  have hW' := hW
  obtain ⟨p, q, hA0, hV, rfl, _, _⟩ := hW
  have hA : DataW.TrodAll enc Tryd.prog W 0 (fun _ => true) true Tryd.f9.params.toList args.toList ds p := hA0
  rw [Tryd.params9] at hA hval
  obtain ⟨v0, d0, rfl, rfl, h0⟩ := trodAll_one hA
  obtain ⟨op, x, y, rfl, ho, hx, hy⟩ := open_ins (hval 0 45 v0 rfl rfl) h0
  have hV0 := hV
  obtain ⟨_, _, _, _, dv, _, rfl, _⟩ := trodVars_one hV0
  clear hA0 hval0
  have hlt0 : ∀ x ∈ p, x.block < W.heap.size := fun x hx => by simpa using hW'.lt x (by simp [hx])
  refine (lawInsText (Old W) v op x y W htab (fun b hb => hb) ho hx hy hpow).mono fun e W' ⟨he, hn⟩ => ?_
  subst he
  refine ⟨_, rfl, _, _, _, [], p, q, hW', ?_, ?_, Below.trodVars laidOut_ hn (by kernel_rfl) hV, hn.frame _, fun h => by cases h⟩
  · exact trodAll_mk1 (shut_bool Tryd.underlying4 true)
  · exact trodAll_mk1 (Below.trod laidOut_ (by kernel_rfl) (of_decide_eq_true (by kernel_rfl)) h0 hn hlt0)

theorem InsText_holds : Rows.FnExactInsTextSaid :=
  OpenClaim.holds_of_wide 9 Tryd.f9 rfl rfl rfl rfl rfl rfl rfl ⟨rfl, rfl, rfl, rfl, rfl⟩ rfl rfl rfl rfl rfl (by kernel_rfl) Tryd.func9 (by kernel_rfl)
    (of_decide_eq_true (by kernel_rfl)) (by unfold Func.isWrapper; first | (rw [if_pos (by decide +kernel)]; kernel_rfl) | (rw [if_neg (by decide +kernel)]; exact ⟨rfl, rfl⟩))
    (fun os started H enc _ => liftInsText os started H enc)
theorem InsText_card : Rows.FnExactInsTextCardSaid :=
  Claim7.holds_tied_plain_at .later [] [.data, .data, .data, .widerDeep] true (true, "31d0304fe57b0a5c495c9e7da426e40d3f42007a78c03c3e224e8c0616644e1e") true
    InsText_holds (fun _ h => by cases h) (by kernel_rfl) (fun _ h => by cases h) fnExactInsText_row_tie rfl ⟨rfl, rfl⟩ (by kernel_rfl) rfl
    (fun f fn hf hfn => by
      obtain rfl : f = 9 := Option.some.inj ((show Tryd.prog.funcNamed Rows.fnExactInsTextRow.func = some 9 by kernel_rfl).symm.trans hf) |>.symm
      obtain rfl : fn = Tryd.f9 := (Option.some.inj (Tryd.func9.symm.trans hfn)).symm
      exact ⟨by kernel_rfl, fun j t ht => by
        rw [Tryd.params9] at ht
        have hm : t ∈ [45] := by simpa using Array.mem_of_getElem? ht
        have hall : ([45].all fun u => !Tryd.prog.wantsStandIn u) = true := by kernel_rfl
        exact (show Tryd.prog.wantsStandIn t = false by simpa using List.all_eq_true.1 hall t hm)⟩)
    (by kernel_rfl)
end Go.Proofs.YtbjnjdhkillbiaaDoor
