/- Whatever the arguments, the exact law of FuncSeen answers true: the program's FuncSeen is the model's, and leaves its arguments alone. -/
import Derived.Test.YthhheipinogcoaaGj
import Derived.Test.YthhheipinogcoaaGt
import Derived.Test.YthhheipinogcoaaGe
import Derived.Test.YthhheipinogcoaaGo
namespace Go.Proofs.Ythhheipinogcoaa
open Go.ChangeShapes Go.WideShapes Go.ChangeAt Go.RowKit Go.Deep
open Go.ChangeMaps (open_string shut_string)

theorem smol_shelf {xs : List ModR} (h : ¬ szS szModr xs 1048576 < 0) : xs.length ≤ 2000000 ∧ ∀ x ∈ xs, SmolModr x := by
  obtain ⟨h1, h2⟩ := szS_len szModr_le (xs := xs) (l := 1048576) (by omega)
  refine ⟨by omega, fun x hx => ?_⟩
  obtain ⟨l', z0, z1, z2⟩ := h2 x hx
  exact smol_modr z0 (by omega) z2


set_option maxRecDepth 100000 in
set_option maxHeartbeats 4000000 in
theorem lawFuncSeen (F : Nat → Prop) (v : Value) (xs : List ModR) (fr m f : Int) (w : World) (h : Cod.modr.Sl F w v xs) (hF : ∀ b, F b → b < w.heap.size) (_ : I64 fr) (hm64 : I64 m) (hf64 : I64 f) :
    Calls Try.prog 6 #[v, .int .i64 fr, .int .i64 m, .int .i64 f] w fun e w' => e = .returned (.bool true) ∧ Below w.heap.size w w' := by
  have HV0 := Lib.hid h
  have HF0 := Lib.hid hF
  have HC0 := Lib.hid (sz_modr F v xs 1048576 w h hF (by omega) (by omega))
  obtain ⟨A, cap, rfl, hlc, hcm, _⟩ := h
  clear hF
  by_cases hz : szS szModr xs 1048576 < 0
  · go_enter Try.func6, Try.ntmps6
    go_wp2_with fail
    refine HC0.out.mono ?_
    rintro e w1 ⟨rfl, hb⟩
    have HE1 := Lib.hid hb
    clear hb HC0
    go_wp2_with fail
    go_ret
    exact ⟨rfl, HE1.out⟩
  · have hsm := smol_shelf hz
    have HS := Lib.hid hsm
    clear hsm
    go_enter Try.func6, Try.ntmps6
    go_wp2_with fail
    refine HC0.out.mono ?_
    rintro e w1 ⟨rfl, hb⟩
    have HV1 := Lib.hid (HV0.out.keep (below_keeps hb HF0.out))
    have HF1 := Lib.hid (show ∀ b, F b → b < w1.heap.size from fun b hb' => Nat.lt_of_lt_of_le (HF0.out b hb') hb.size)
    have HE1 := Lib.hid hb
    have HC1 := Lib.hid (to_modr F _ xs w1 HV1.out HF1.out HS.out.1 HS.out.2)
    clear hb HC0
    go_wp2_with fail
    refine HC1.out.mono ?_
    rintro e w2 ⟨As, cs, rfl, hO, hb⟩
    have HV2 := Lib.hid (HV1.out.keep (below_keeps hb HF1.out))
    have HF2 := Lib.hid (show ∀ b, F b → b < w2.heap.size from fun b hb' => Nat.lt_of_lt_of_le (HF1.out b hb') hb.size)
    have HE2 := Lib.hid (HE1.out.trans (hb.mono HE1.out.size))
    have HCs := Lib.hid (specFuncSeen_any _ _ xs fr m f w2 hO.sl HS.out.2)
    have HC2 := Lib.hid (to_modr F _ xs w2 HV2.out HF2.out HS.out.1 HS.out.2)
    clear hb hO HC1
    go_wp2_with fail
    refine HCs.out.mono ?_
    rintro e w2 ⟨rfl, rfl⟩
    go_wp2_with fail
    refine HC2.out.mono ?_
    rintro e w3 ⟨Am, cm, rfl, hO, hb⟩
    have HV3 := Lib.hid (HV2.out.keep (below_keeps hb HF2.out))
    have HF3 := Lib.hid (show ∀ b, F b → b < w3.heap.size from fun b hb' => Nat.lt_of_lt_of_le (HF2.out b hb') hb.size)
    have HE3 := Lib.hid (HE2.out.trans (hb.mono HE2.out.size))
    have HO3 := Lib.hid hO.sl
    have HCi := Lib.hid (implFuncSeen_any _ _ xs fr m f w3 hO.sl (fun b hb => hb.2) HS.out.2 hm64 hf64)
    clear hb hO HC2 HCs
    go_wp2_with fail
    refine HCi.out.mono ?_
    rintro e w4 ⟨rfl, hb⟩
    have HV4 := Lib.hid (HV3.out.keep (below_keeps hb HF3.out))
    have HF4 := Lib.hid (show ∀ b, F b → b < w4.heap.size from fun b hb' => Nat.lt_of_lt_of_le (HF3.out b hb') hb.size)
    have HE4 := Lib.hid (HE3.out.trans (hb.mono HE3.out.size))
    have HO4 := Lib.hid (HO3.out.keep (below_keeps hb fun b hb => hb.2))
    have HC4 := Lib.hid (to_modr F _ xs w4 HV4.out HF4.out HS.out.1 HS.out.2)
    have hs4 := hb.size
    clear hb HCi
    go_wp2_with fail
    refine HC4.out.mono ?_
    rintro e w5 ⟨Ae, ce, rfl, hO, hb⟩
    have HE5 := Lib.hid (HE4.out.trans (hb.mono HE4.out.size))
    have hs5 := hb.size
    have HCe := Lib.hid (eq_modr (fun b => b < w5.heap.size) _ _ xs w5 ((HO4.out.keep (below_keeps hb fun b hb => Nat.lt_of_lt_of_le hb.2 hs4)).mono fun b hb => by have := hb.2; omega) (hO.sl.mono fun b hb => hb.2) fun b hb => hb)
    clear hb hO HC4
    go_wp2_with fail
    refine HCe.out.mono ?_
    rintro e w6 ⟨rfl, hb⟩
    have HE6 := Lib.hid (HE5.out.trans (hb.mono HE5.out.size))
    clear hb
    go_wp2_with fail
    go_ret
    exact ⟨rfl, HE6.out⟩


set_option maxRecDepth 100000 in
theorem liftFuncSeen (os : Os) (started : os.Started) (H : Type) (enc : TypeId × Value → H) :
    ReturnsInHanded {} Try.checked os 6 .any (Rows.fnExactFuncSeenSpec.pre6 enc Try.prog Try.f6 Rows.fnExactFuncSeenRow.domain false) (Rows.fnExactFuncSeenSpec.post enc Try.prog Try.f6 false true false false) := by
  refine returnsInHanded_of_change (C := Try.checked) own_ started (by kernel_rfl) Try.func6
    (ChangeSpec.witness6 (enc := enc) (C := Try.checked) false ⟨#[], #[.slice none 0 0, .int .i64 0, .int .i64 0, .int .i64 0], []⟩ 8 (by kernel_rfl) (by kernel_rfl) (by kernel_rfl) (by kernel_rfl)) ?_
  intro W base args ds gs before hval0 hW _ _
  have hval : ∀ (j : Nat) t v, Try.f6.params[j]? = some t → args[j]? = some v → Value.okWide Try.prog W .any base t v := hval0
  have hW' := hW
  obtain ⟨p, q, hA0, hV, rfl, _, _⟩ := hW
  have hA : DataW.TrodAll enc Try.prog W 0 (fun _ => true) true Try.f6.params.toList args.toList ds p := hA0
  rw [Try.params6] at hA hval
  obtain ⟨v0, v1, v2, v3, d0, d1, d2, d3, p0, p1, p2, p3, rfl, rfl, rfl, h0, h1, h2, h3⟩ := trodAll_four hA
  obtain ⟨rfl, rfl⟩ := trodVars_none hV
  obtain ⟨fr, rfl, rfl, rfl, u1⟩ := open_int Try.underlying3 (hval 1 3 v1 rfl rfl) h1
  obtain ⟨m, rfl, rfl, rfl, u2⟩ := open_int Try.underlying3 (hval 2 3 v2 rfl rfl) h2
  obtain ⟨f, rfl, rfl, rfl, u3⟩ := open_int Try.underlying3 (hval 3 3 v3 rfl rfl) h3
  obtain ⟨xs, hxs⟩ := open_shelf (hval 0 22 v0 rfl rfl) h0
  clear hA0 hval0
  simp only [List.append_nil] at hW'
  have hlt : ∀ x ∈ p0, x.block < W.heap.size := fun x hx => by simpa using hW'.lt x (by simp [hx])
  refine (lawFuncSeen (Old W) v0 xs fr m f W hxs (fun b hb => hb) (wf_I64 u1) (wf_I64 u2) (wf_I64 u3)).mono fun e W' ⟨he, hn⟩ => ?_
  subst he
  refine ⟨_, rfl, _, _, _, [], p0 ++ ([] ++ ([] ++ [])), [], hW', ?_, ?_, rfl, hn.frame _, fun h => by cases h⟩
  · exact trodAll_mk1 (shut_bool Try.underlying4 true)
  · exact trodAll_mk4 (Below.trod laidOut_ (by kernel_rfl) (of_decide_eq_true (by kernel_rfl)) h0 hn hlt) (shut_int Try.underlying3 u1) (shut_int Try.underlying3 u2) (shut_int Try.underlying3 u3)

theorem FuncSeen_holds : Rows.FnExactFuncSeenSaid :=
  OpenClaim.holds_of_wide 6 Try.f6 rfl rfl rfl rfl rfl rfl rfl ⟨rfl, rfl, rfl, rfl, rfl⟩ rfl rfl rfl rfl rfl (by kernel_rfl) Try.func6 (by kernel_rfl)
    (of_decide_eq_true (by kernel_rfl)) (by unfold Func.isWrapper; first | (rw [if_pos (by decide +kernel)]; kernel_rfl) | (rw [if_neg (by decide +kernel)]; exact ⟨rfl, rfl⟩))
    (fun os started H enc _ => liftFuncSeen os started H enc)
end Go.Proofs.Ythhheipinogcoaa
