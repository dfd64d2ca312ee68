/- FuncSeen, of the model and of the program. -/
import Derived.Test.YtmomdflfjcboiaaDoorGi
import Derived.Test.YtmomdflfjcboiaaDoorGf
namespace Go.Proofs.YtmomdflfjcboiaaDoor
open Go.RowKit

def fseen (xs : List ModR) (fr m f : Int) : Bool :=
  match fAt xs m f with
  | none => false
  | some y => (decide (m ≤ fr) && decide (fr < xs.length)) && (decide (fr = m) || (decide (y.seen = 2) || (decide (y.seen = 1) && decide (fr ∈ (xs.getD m.toNat ⟨[], [], []⟩).friends))))
theorem fseen_none {xs : List ModR} {fr m f : Int} (h : fAt xs m f = none) : fseen xs fr m f = false := by unfold fseen; rw [h]
theorem fseen_out {xs : List ModR} {fr m f : Int} (h : ¬ (m ≤ fr ∧ fr < xs.length)) : fseen xs fr m f = false := by
  unfold fseen
  split
  · rfl
  · have : (decide (m ≤ fr) && decide (fr < xs.length)) = false := by
      rw [Bool.eq_false_iff]
      simp only [ne_eq, Bool.and_eq_true, decide_eq_true_eq]
      exact h
    rw [this, Bool.false_and]
theorem fseen_some {xs : List ModR} {fr : Int} {m : Nat} {f : Int} {y : FunR} (h : fAt xs m f = some y) (hm : m < xs.length) (h1 : (m : Int) ≤ fr) (h2 : fr < xs.length) : fseen xs fr m f = (decide (fr = m) || (decide (y.seen = 2) || (decide (y.seen = 1) && decide (fr ∈ xs[m].friends)))) := by
  unfold fseen
  rw [h]
  simp [h1, h2, List.getElem?_eq_getElem hm]

set_option maxRecDepth 100000 in
set_option maxHeartbeats 2000000 in
theorem l4Has_any (F : Nat → Prop) (v : Value) (xs : List ModR) (m f : Int) (w : World) (h : Cod.modr.Sl F w v xs) (hsm : ∀ x ∈ xs, SmolModr x) :
    Calls Tryd.prog 15 #[v, .int .i64 m, .int .i64 f] w fun e w' => e = .returned (.bool (fAt xs m f).isSome) ∧ w = w' := by
  have HS := Lib.hid h
  obtain ⟨A, cap, rfl, hlc, hcm, _⟩ := h
  unfold maxLen at hcm
  have H6 := Lib.hid fun (w' : World) => l6In_yn m 0 ((xs.length : Int) - 1) w'
  by_cases hm : 0 ≤ m ∧ m < xs.length
  · obtain ⟨mn, rfl⟩ : ∃ mn : Nat, m = mn := ⟨m.toNat, by omega⟩
    have hml : mn < xs.length := by omega
    obtain ⟨b, off, cap', D0, e0, D1, e1, D2, e2, hv, hFb, _, _, k0, k1, k2, hd⟩ := HS.out.modr_at hml
    obtain ⟨rfl, rfl⟩ : A = some ⟨b, off, none⟩ ∧ cap = cap' := by simpa using hv
    have hx := (hsm _ (List.getElem_mem hml)).2.1
    have H7 := Lib.hid fun (w' : World) => l6In_yn f 0 ((xs[mn].funcs.length : Int) - 1) w'
    have H6' := Lib.hid fun (w' : World) => (H6.out w').1 (by omega)
    by_cases hf : 0 ≤ f ∧ f < xs[mn].funcs.length
    · have HX := Lib.hid (show (fAt xs mn f).isSome = true by
        obtain ⟨fn, rfl⟩ : ∃ fn : Nat, f = fn := ⟨f.toNat, by omega⟩
        rw [fAt_yes hml (by omega)]
        rfl)
      have H7' := Lib.hid fun (w' : World) => (H7.out w').1 (by omega)
      clear H6 H7 hf hv hd hm hsm
      go_enter Tryd.func15, Tryd.ntmps15
      go_wp2_with (first | (go_at_call 36; with_reducible refine (H6'.out _).mono ?_; rintro e w' ⟨rfl, rfl⟩) | (go_at_call 36; with_reducible refine (H7'.out _).mono ?_; rintro e w' ⟨rfl, rfl⟩))
      go_ret
      exact ⟨ret_bool HX.out.symm, rfl⟩
    · have HX := Lib.hid (show (fAt xs mn f).isSome = false by
        rw [fAt_no fun hh => hf ⟨hh.2.1, by obtain ⟨h1, h2⟩ := hh.2.2; simp only [Int.toNat_natCast] at h2; omega⟩]
        rfl)
      have H7' := Lib.hid fun (w' : World) => (H7.out w').2 (by omega)
      clear H6 H7 hf hv hd hm hsm
      go_enter Tryd.func15, Tryd.ntmps15
      go_wp2_with (first | (go_at_call 36; with_reducible refine (H6'.out _).mono ?_; rintro e w' ⟨rfl, rfl⟩) | (go_at_call 36; with_reducible refine (H7'.out _).mono ?_; rintro e w' ⟨rfl, rfl⟩))
      go_ret
      exact ⟨ret_bool HX.out.symm, rfl⟩
  · have HX := Lib.hid (show (fAt xs m f).isSome = false by
      rw [fAt_no fun hh => hm ⟨hh.1, by obtain ⟨h1, h2⟩ := hh.2.2; omega⟩]
      rfl)
    have H6' := Lib.hid fun (w' : World) => (H6.out w').2 (by omega)
    clear H6 hm hsm
    go_enter Tryd.func15, Tryd.ntmps15
    go_wp2_with (go_at_call 36; with_reducible refine (H6'.out _).mono ?_; rintro e w' ⟨rfl, rfl⟩)
    go_ret
    exact ⟨ret_bool HX.out.symm, rfl⟩

end Go.Proofs.YtmomdflfjcboiaaDoor
