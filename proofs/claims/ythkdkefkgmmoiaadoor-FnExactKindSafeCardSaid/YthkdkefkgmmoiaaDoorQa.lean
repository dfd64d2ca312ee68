/- What can neither be copied nor dropped: the model's KindSafe and the program's. -/
import Derived.Test.YthkdkefkgmmoiaaDoorHe
import Derived.Test.YthkdkefkgmmoiaaDoorVim
namespace Go.Proofs.YthkdkefkgmmoiaaDoor
open Go.RowKit

theorem below_goQ {F : Nat → Prop} {w w' : World} (hF : ∀ b, F b → b < w.heap.size) (hb : Below w.heap.size w w') : ∀ b, F b → b < w'.heap.size := fun b h => Nat.lt_of_lt_of_le (hF b h) hb.size
/-- A text that is a kind. -/
def isKindB (ks : Ks) (t : ByteArray) : Bool := match kindOf t with | some (m, k) => hasB ks m k | none => false
/-- A kind that can neither be copied nor dropped. -/
def safeB (xs : List ModR) (t : ByteArray) : Bool := shapeB xs && (isKindB (kindsOf xs) t && (!canB (ableT (kindsOf xs) t) 1 && !canB (ableT (kindsOf xs) t) 2))

set_option maxRecDepth 100000 in
set_option maxHeartbeats 4000000 in
theorem l11IsKind_any (F : Nat → Prop) (v : Value) (xs : List ModR) (t : ByteArray) (w : World) (h : Cod.modr.Sl F w v xs) (hF : ∀ b, F b → b < w.heap.size) (hn : xs.length ≤ 2000000) (hsm : ∀ x ∈ xs, SmolModr x) :
    Calls Tryd.prog 11 #[v, .string t] w fun e w' => e = .returned (.bool (isKindB (kindsOf xs) t)) ∧ Below w.heap.size w w' := by
  have HS := Lib.hid h
  have HF := Lib.hid hF
  have HM := Lib.hid hsm
  obtain ⟨A, cap, rfl, _⟩ := h
  clear hF hsm
  cases hk : kindOf t with
  | none =>
    have HK := Lib.hid (fun W => l1Kind_no t W hk)
    have HR := Lib.hid (show isKindB (kindsOf xs) t = false by unfold isKindB; rw [hk])
    clear hk
    go_enter Tryd.func11, Tryd.ntmps11
    go_wp2_with fail
    refine (HK.out _).mono ?_
    rintro e w1 ⟨rfl, n, rfl⟩
    go_wp2
    go_ret
    exact ⟨ret_bool HR.out.symm, below_drewN (Below.refl _ _) _⟩
  | some mk =>
    obtain ⟨m, k⟩ := mk
    have HK := Lib.hid (fun W => l1Kind_yes t m k W hk)
    have HR := Lib.hid (show isKindB (kindsOf xs) t = hasB (kindsOf xs) m k by unfold isKindB; rw [hk])
    clear hk
    go_enter Tryd.func11, Tryd.ntmps11
    go_wp2_with fail
    refine (HK.out _).mono ?_
    rintro e w1 ⟨rfl, n, hw1⟩
    have hb1 : Below w.heap.size w w1 := by rw [hw1]; exact below_drewN (Below.refl _ _) _
    have HC := Lib.hid (specShelfKinds_any F _ xs w1 (HS.out.keep (below_keeps hb1 HF.out)) (below_goQ HF.out hb1) hn HM.out)
    have HB1 := Lib.hid hb1
    clear hb1 hw1
    go_wp2_with fail
    refine HC.out.mono ?_
    rintro e w2 ⟨A', c', rfl, hO, hb⟩
    have HH := Lib.hid (l1Has_any _ _ (kindsOf xs) m k w2 (by have := hO.sl; rw [← kindsOf_length xs] at this; exact this))
    have HB2 := Lib.hid (HB1.out.trans (hb.mono HB1.out.size))
    rw [kindsOf_length] at HH
    clear hO hb HC
    go_wp2_with fail
    refine HH.out.mono ?_
    rintro e w3 ⟨rfl, rfl⟩
    go_wp2
    go_ret
    exact ⟨ret_bool HR.out.symm, HB2.out⟩

theorem able_in {ks : Ks} {t : ByteArray} (h : kindsOk ks = true) (hi : isKindB ks t = true) : 0 ≤ ableT ks t ∧ ableT ks t ≤ 15 := by
  unfold ableT
  split
  · decide
  · split
    · decide
    · cases hh : kindOf t with
      | none => exact ⟨(by show (0 : Int) ≤ 7; decide), (by show (7 : Int) ≤ 15; decide)⟩
      | some mk =>
        have hk : hasB ks mk.1 mk.2 = true := by unfold isKindB at hi; rw [hh] at hi; exact hi
        have hrec := ok_rec h hk
        unfold recB at hrec
        simp only [Bool.and_eq_true, decide_eq_true_eq] at hrec
        show 0 ≤ (recAt ks mk.1 mk.2).able ∧ (recAt ks mk.1 mk.2).able ≤ 15
        omega
theorem known_kind {ks : Ks} {t : ByteArray} (h : isKindB ks t = true) : Known ks t := fun m k hk => by unfold isKindB at h; rw [hk] at h; exact h

set_option maxRecDepth 100000 in
set_option maxHeartbeats 4000000 in
theorem specKindSafe_any (F : Nat → Prop) (v : Value) (xs : List ModR) (t : ByteArray) (w : World) (h : Cod.modr.Sl F w v xs) (hF : ∀ b, F b → b < w.heap.size) (hn : xs.length ≤ 2000000) (hsm : ∀ x ∈ xs, SmolModr x) (ht : t.size ≤ maxLen) :
    Calls Tryd.prog 5 #[v, .string t] w fun e w' => e = .returned (.bool (safeB xs t)) ∧ Below w.heap.size w w' := by
  have HS := Lib.hid h
  have HF := Lib.hid hF
  have HM := Lib.hid hsm
  have HC := Lib.hid (specShelfShape_any F v xs w h hF hn hsm)
  obtain ⟨A, cap, rfl, _⟩ := h
  clear hF hsm
  cases hs : shapeB xs with
  | false =>
    have HR := Lib.hid (show safeB xs t = false by unfold safeB; rw [hs]; rfl)
    rw [hs] at HC
    clear hs
    go_enter Tryd.func5, Tryd.ntmps5
    go_wp2_with fail
    refine HC.out.mono ?_
    rintro e w1 ⟨rfl, hb⟩
    have HB := Lib.hid hb
    clear hb
    go_wp2
    go_ret
    exact ⟨ret_bool HR.out.symm, HB.out⟩
  | true =>
    rw [hs] at HC
    have hok : kindsOk (kindsOf xs) = true := by unfold shapeB at hs; rw [Bool.and_eq_true] at hs; exact hs.1
    cases hi : isKindB (kindsOf xs) t with
    | false =>
      have HR := Lib.hid (show safeB xs t = false by unfold safeB; rw [hs, hi]; rfl)
      clear hs hok
      go_enter Tryd.func5, Tryd.ntmps5
      go_wp2_with fail
      refine HC.out.mono ?_
      rintro e w1 ⟨rfl, hb⟩
      have HI := Lib.hid (l11IsKind_any F _ xs t w1 (HS.out.keep (below_keeps hb HF.out)) (below_goQ HF.out hb) hn HM.out)
      have HB1 := Lib.hid hb
      rw [hi] at HI
      clear hb hi
      go_wp2_with fail
      refine HI.out.mono ?_
      rintro e w2 ⟨rfl, hb⟩
      have HB2 := Lib.hid (HB1.out.trans (hb.mono HB1.out.size))
      clear hb
      go_wp2
      go_ret
      exact ⟨ret_bool HR.out.symm, HB2.out⟩
    | true =>
      obtain ⟨ab, hab⟩ : ∃ ab, ab = ableT (kindsOf xs) t := ⟨_, rfl⟩
      have HR := Lib.hid (show safeB xs t = (!canB ab 1 && !canB ab 2) by unfold safeB; rw [hs, hi, hab]; rfl)
      have hkn := known_kind hi
      have hin : 0 ≤ ab ∧ ab ≤ 1000000 := by rw [hab]; have := able_in hok hi; omega
      have HK := Lib.hid hkn
      clear hs hok hkn
      go_enter Tryd.func5, Tryd.ntmps5
      go_wp2_with fail
      refine HC.out.mono ?_
      rintro e w1 ⟨rfl, hb⟩
      have HI := Lib.hid (l11IsKind_any F _ xs t w1 (HS.out.keep (below_keeps hb HF.out)) (below_goQ HF.out hb) hn HM.out)
      have HB1 := Lib.hid hb
      rw [hi] at HI
      clear hb hi
      go_wp2_with fail
      refine HI.out.mono ?_
      rintro e w2 ⟨rfl, hb⟩
      have hb2 := HB1.out.trans (hb.mono HB1.out.size)
      have HC2 := Lib.hid (specShelfKinds_any F _ xs w2 (HS.out.keep (below_keeps hb2 HF.out)) (below_goQ HF.out hb2) hn HM.out)
      have HB2 := Lib.hid hb2
      clear hb hb2
      go_wp2_with fail
      refine HC2.out.mono ?_
      rintro e w3 ⟨A', c', rfl, hO, hb⟩
      have HA := Lib.hid (l1Able_any _ _ (kindsOf xs) t w3 (by have := hO.sl; rw [← kindsOf_length xs] at this; exact this) ht HK.out)
      have HB3 := Lib.hid (HB2.out.trans (hb.mono HB2.out.size))
      rw [kindsOf_length, ← hab] at HA
      clear hO hb HC2 hab
      go_wp2_with fail
      refine HA.out.mono ?_
      rintro e w4 ⟨rfl, n, hw4⟩
      have HB4 := Lib.hid (show Below w.heap.size w w4 by rw [hw4]; exact below_drewN HB3.out _)
      have H1 := Lib.hid fun W => l1Can_any ab 1 W hin.1 (by decide) hin.2
      have H2 := Lib.hid fun W => l1Can_any ab 2 W hin.1 (by decide) hin.2
      clear hw4 hin
      cases h1 : canB ab 1 <;> rw [h1] at H1 HR
      · cases h2 : canB ab 2 <;> rw [h2] at H2 HR
        all_goals
          clear h1 h2
          go_wp2_with fail
          refine (H1.out _).mono ?_
          rintro e w5 ⟨rfl, rfl⟩
          go_wp2_with fail
          refine (H2.out _).mono ?_
          rintro e w6 ⟨rfl, rfl⟩
          go_wp2
          go_ret
          exact ⟨ret_bool HR.out.symm, HB4.out⟩
      · clear h1
        go_wp2_with fail
        refine (H1.out _).mono ?_
        rintro e w5 ⟨rfl, rfl⟩
        go_wp2
        go_ret
        exact ⟨ret_bool HR.out.symm, HB4.out⟩
end Go.Proofs.YthkdkefkgmmoiaaDoor
