/- The model of types: what each of its functions answers, told by plain functions on lists. -/
import Derived.Test.YthkdkefkgmmoiaaDoorRows
import Derived.Test.YthkdkefkgmmoiaaDoorKit
namespace Go.Proofs.YthkdkefkgmmoiaaDoor
open Go.RowKit

abbrev Ks := List (List Rec)

/-- The module and the number of the kind that a text names by its form. -/
def kindOf (t : ByteArray) : Option (Nat × Nat) :=
  if h : t.size = 3 then
    if (t[0]'(by omega)).toNat = 83 ∧ 48 ≤ (t[1]'(by omega)).toNat ∧ (t[1]'(by omega)).toNat ≤ 57 ∧ 48 ≤ (t[2]'(by omega)).toNat ∧ (t[2]'(by omega)).toNat ≤ 57 then
      some ((t[1]'(by omega)).toNat - 48, (t[2]'(by omega)).toNat - 48) else none
  else none
def baseB (t : ByteArray) : Bool := t.toList == [110] || t.toList == [98] || t.toList == [111]
def hasB (ks : Ks) (m k : Nat) : Bool := match ks[m]? with | some r => decide (k < r.length) | none => false
def refB (t : ByteArray) : Bool := if h : 0 < t.size then ((t[0].toNat : Int) == 38 || (t[0].toNat : Int) == 33) else false
def amp (t : ByteArray) : Bool := if h : 0 < t.size then (t[0].toNat : Int) == 38 else false
def ofT (t : ByteArray) : ByteArray := if refB t then t.extract 1 t.size else t
def plainB (ks : Ks) (t : ByteArray) : Bool := baseB t || (match kindOf t with | some (m, k) => hasB ks m k | none => false)
def recAt (ks : Ks) (m k : Nat) : Rec := (ks.getD m []).getD k ⟨0, []⟩
def ableT (ks : Ks) (t : ByteArray) : Int := if amp t then 3 else if refB t then 2 else match kindOf t with | some (m, k) => (recAt ks m k).able | none => 7
def canB (able one : Int) : Bool := able / one % 2 == 1
def fieldB (ks : Ks) (m k : Nat) (t : ByteArray) : Bool :=
  match kindOf t with
  | none => baseB t
  | some (am, ak) => hasB ks am ak && (decide (am < m) || (decide (am = m) && decide (ak < k)))

theorem ret_3 {a b a' b' : Int} {c : Bool} (ha : a = a') (hb : b = b') : Ending.returned (.tuple #[.int .i64 a, .int .i64 b, .bool c]) = .returned (.tuple #[.int .i64 a', .int .i64 b', .bool c]) := by rw [ha, hb]
theorem kindOf_le {t : ByteArray} {m k : Nat} (h : kindOf t = some (m, k)) : m ≤ 9 ∧ k ≤ 9 := by
  unfold kindOf at h
  split at h
  · split at h
    · simp only [Option.some.injEq, Prod.mk.injEq] at h
      omega
    · cases h
  · cases h

set_option maxHeartbeats 400000 in
theorem l1Kind_yes (t : ByteArray) (m k : Nat) (w : World) (hk : kindOf t = some (m, k)) :
    Calls Tryd.prog 26 #[.string t] w fun e w' => e = .returned (.tuple #[.int .i64 m, .int .i64 k, .bool true]) ∧ ∃ n, w' = w.drewN n := by
  unfold kindOf at hk
  split at hk
  · rename_i h
    split at hk
    · rename_i hc
      obtain ⟨h0, h1, h2, h3, h4⟩ := hc
      simp only [Option.some.injEq, Prod.mk.injEq] at hk
      obtain ⟨hm, hk⟩ := hk
      have HM := Lib.hid (show ((t[1]'(by omega)).toNat : Int) - 48 = m by omega)
      have HK := Lib.hid (show ((t[2]'(by omega)).toNat : Int) - 48 = k by omega)
      clear hm hk
      have b0 : (((t[0]'(by omega)).toNat : Int) == 83) = true := by rw [beq_iff_eq]; omega
      have b1 : ((t.size : Int) == 3) = true := by rw [beq_iff_eq]; omega
      have c1 : 48 ≤ ((t[1]'(by omega)).toNat : Int) := by omega
      have c2 : ((t[1]'(by omega)).toNat : Int) ≤ 57 := by omega
      have c3 : 48 ≤ ((t[2]'(by omega)).toNat : Int) := by omega
      have c4 : ((t[2]'(by omega)).toNat : Int) ≤ 57 := by omega
      go_enter Tryd.func26, Tryd.ntmps26
      go_wp2
      go_quiet (fail)
      go_wp2
      go_ret3
      exact ⟨ret_3 HM.out HK.out, _, rfl⟩
    · cases hk
  · cases hk

set_option maxHeartbeats 400000 in
theorem l1Kind_no (t : ByteArray) (w : World) (hk : kindOf t = none) :
    Calls Tryd.prog 26 #[.string t] w fun e w' => e = .returned (.tuple #[.int .i64 0, .int .i64 0, .bool false]) ∧ ∃ n, w' = w.drewN n := by
  unfold kindOf at hk
  split at hk
  · rename_i h
    split at hk
    · cases hk
    · rename_i hc
      have HC := Lib.hid hc
      clear hk hc
      go_enter Tryd.func26, Tryd.ntmps26
      go_wp2
      all_goals first
        | (go_ret3; exact ⟨rfl, 0, rfl⟩)
        | (exfalso; apply HC.out; omega)
  · rename_i h
    have b1 : ((t.size : Int) == 3) = false := by rw [beq_eq_false_iff_ne]; omega
    clear hk
    go_enter Tryd.func26, Tryd.ntmps26
    go_wp2
    go_ret3
    exact ⟨rfl, 0, rfl⟩

set_option maxHeartbeats 400000 in
theorem l1Base_any (t : ByteArray) (w : World) :
    Calls Tryd.prog 70 #[.string t] w fun e w' => e = .returned (.bool (baseB t)) ∧ w = w' := by
  go_enter Tryd.func70, Tryd.ntmps70
  go_wp2
  all_goals
    go_ret
    exact ⟨ret_bool (by simp [baseB, *]), rfl⟩

set_option maxHeartbeats 400000 in
theorem l1Ref_any (t : ByteArray) (w : World) (_ : t.size ≤ maxLen) :
    Calls Tryd.prog 28 #[.string t] w fun e w' => e = .returned (.bool (refB t)) ∧ w = w' := by
  go_enter Tryd.func28, Tryd.ntmps28
  go_wp2
  all_goals
    go_ret
    exact ⟨ret_bool (by simp [refB, *]), rfl⟩

set_option maxHeartbeats 400000 in
theorem l1Can_any (able one : Int) (w : World) (h0 : 0 ≤ able) (h1 : 1 ≤ one) (h2 : able ≤ 1000000) :
    Calls Tryd.prog 14 #[.int .i64 able, .int .i64 one] w fun e w' => e = .returned (.bool (canB able one)) ∧ w = w' := by
  have hd : 0 ≤ able / one := Int.ediv_nonneg h0 (by omega)
  have hd2 : able / one ≤ 1000000 := Int.le_trans (Int.ediv_le_self _ h0) h2
  go_enter Tryd.func14, Tryd.ntmps14
  go_wp2
  go_ret
  exact ⟨rfl, rfl⟩

set_option maxHeartbeats 400000 in
theorem l6In_any (n low high : Int) (w : World) :
    Calls Tryd.prog 42 #[.int .i64 n, .int .i64 low, .int .i64 high] w fun e w' => e = .returned (.bool (decide (low ≤ n) && decide (n ≤ high))) ∧ w = w' := by
  go_enter Tryd.func42, Tryd.ntmps42
  go_wp2
  all_goals
    go_ret
    exact ⟨ret_bool (by rw [Bool.eq_iff_iff]; simp; try omega), rfl⟩

set_option maxHeartbeats 400000 in
theorem l1Has_any (F : Nat → Prop) (v : Value) (ks : Ks) (m k : Nat) (w : World) (h : Cod.recs.Sl F w v ks) :
    Calls Tryd.prog 27 #[v, .int .i64 m, .int .i64 k] w fun e w' => e = .returned (.bool (hasB ks m k)) ∧ w = w' := by
  by_cases hlt : m < ks.length
  · obtain ⟨b, off, cap, u, rfl, _, hlc, hcm, hc0, hu⟩ := h.sl_at hlt
    obtain ⟨Au, cu, rfl, hlu, hcu, _⟩ := hu
    unfold maxLen at hcm hcu
    have HB : Hid (hasB ks m k = decide (k < ks[m].length)) := by show _ = _; unfold hasB; rw [List.getElem?_eq_getElem hlt]
    go_enter Tryd.func27, Tryd.ntmps27
    go_wp2
    go_ret
    exact ⟨ret_bool (by rw [HB.out]), rfl⟩
  · obtain ⟨A, cap, rfl, hlc, hcm, _⟩ := h
    unfold maxLen at hcm
    have HB : Hid (hasB ks m k = false) := by show _ = _; unfold hasB; rw [List.getElem?_eq_none (by omega)]
    go_enter Tryd.func27, Tryd.ntmps27
    go_wp2
    go_ret
    exact ⟨ret_bool (by rw [HB.out]), rfl⟩

set_option maxHeartbeats 400000 in
theorem l1Of_any (t : ByteArray) (w : World) (hs : t.size ≤ maxLen) :
    Calls Tryd.prog 57 #[.string t] w fun e w' => e = .returned (.string (ofT t)) ∧ w = w' := by
  have hs' := hs
  unfold maxLen at hs
  by_cases hr : refB t = true
  · have HO : Hid (ofT t = t.extract 1 t.size) := by show _ = _; unfold ofT; rw [if_pos hr]
    have h0 : 0 < t.size := by
      unfold refB at hr
      split at hr
      · assumption
      · cases hr
    go_enter Tryd.func57, Tryd.ntmps57
    go_wp2_with (go_at_call 28; refine (l1Ref_any t _ hs').mono ?_; rintro e w' ⟨rfl, rfl⟩)
    go_ret
    exact ⟨ret_str HO.out.symm, rfl⟩
  · have hr' : refB t = false := by simpa using hr
    have HO : Hid (ofT t = t) := by show _ = _; unfold ofT; rw [if_neg hr]
    go_enter Tryd.func57, Tryd.ntmps57
    go_wp2_with (go_at_call 28; refine (l1Ref_any t _ hs').mono ?_; rintro e w' ⟨rfl, rfl⟩)
    go_ret
    exact ⟨ret_str HO.out.symm, rfl⟩

set_option maxHeartbeats 400000 in
theorem l1Plain_any (F : Nat → Prop) (v : Value) (ks : Ks) (t : ByteArray) (w : World) (h : Cod.recs.Sl F w v ks) :
    Calls Tryd.prog 56 #[v, .string t] w fun e w' => e = .returned (.bool (plainB ks t)) ∧ ∃ n, w' = w.drewN n := by
  have HS := Lib.hid h
  obtain ⟨A, cap, rfl, _⟩ := h
  cases hk : kindOf t with
  | none =>
    have HK := Lib.hid hk
    have HP : Hid (plainB ks t = baseB t) := by show _ = _; unfold plainB; rw [hk]; simp
    clear hk
    go_enter Tryd.func56, Tryd.ntmps56
    go_wp2_with (first
      | (go_at_call 26; refine (l1Kind_no t _ HK.out).mono ?_; rintro e w1 ⟨rfl, n, rfl⟩)
      | (go_at_call 70; refine (l1Base_any t _).mono ?_; rintro e w' ⟨rfl, rfl⟩))
    all_goals
      go_ret
      exact ⟨ret_bool (by rw [HP.out]; simp [*]), _, rfl⟩
  | some mk =>
    obtain ⟨m, k⟩ := mk
    have HK := Lib.hid hk
    have HP : Hid (plainB ks t = (baseB t || hasB ks m k)) := by show _ = _; unfold plainB; rw [hk]
    clear hk
    go_enter Tryd.func56, Tryd.ntmps56
    go_wp2_with (first
      | (go_at_call 26; refine (l1Kind_yes t m k _ HK.out).mono ?_; rintro e w1 ⟨rfl, n, rfl⟩)
      | (go_at_call 70; refine (l1Base_any t _).mono ?_; rintro e w' ⟨rfl, rfl⟩)
      | (go_at_call 27; refine (l1Has_any F _ ks m k (w.drewN n) (HS.out.keep fun _ _ => rfl)).mono ?_; rintro e w' ⟨rfl, rfl⟩))
    all_goals
      go_ret
      exact ⟨ret_bool (by rw [HP.out]; simp [*]), _, rfl⟩

set_option maxHeartbeats 400000 in
theorem l1Field_any (F : Nat → Prop) (v : Value) (ks : Ks) (m k : Nat) (t : ByteArray) (w : World) (h : Cod.recs.Sl F w v ks) :
    Calls Tryd.prog 69 #[v, .int .i64 m, .int .i64 k, .string t] w fun e w' => e = .returned (.bool (fieldB ks m k t)) ∧ ∃ n, w' = w.drewN n := by
  have HS := Lib.hid h
  obtain ⟨A, cap, rfl, _⟩ := h
  cases hk : kindOf t with
  | none =>
    have HK := Lib.hid hk
    have HP : Hid (fieldB ks m k t = baseB t) := by show _ = _; unfold fieldB; rw [hk]
    clear hk
    go_enter Tryd.func69, Tryd.ntmps69
    go_wp2_with (first
      | (go_at_call 26; refine (l1Kind_no t _ HK.out).mono ?_; rintro e w1 ⟨rfl, n, rfl⟩)
      | (go_at_call 70; refine (l1Base_any t _).mono ?_; rintro e w' ⟨rfl, rfl⟩))
    all_goals
      go_ret
      exact ⟨ret_bool (by rw [HP.out]), _, rfl⟩
  | some mk =>
    obtain ⟨am, ak⟩ := mk
    have HK := Lib.hid hk
    have HP : Hid (fieldB ks m k t = (hasB ks am ak && (decide (am < m) || (decide (am = m) && decide (ak < k))))) := by show _ = _; unfold fieldB; rw [hk]
    clear hk
    go_enter Tryd.func69, Tryd.ntmps69
    go_wp2_with (first
      | (go_at_call 26; refine (l1Kind_yes t am ak _ HK.out).mono ?_; rintro e w1 ⟨rfl, n, rfl⟩)
      | (go_at_call 27; refine (l1Has_any F _ ks am ak (w.drewN n) (HS.out.keep fun _ _ => rfl)).mono ?_; rintro e w' ⟨rfl, rfl⟩))
    all_goals
      go_ret
      exact ⟨ret_bool (by rw [HP.out, Bool.eq_iff_iff]; simp [*]; try omega), _, rfl⟩

/-- The abilities of a type are asked of types alone. -/
def Known (ks : Ks) (t : ByteArray) : Prop := ∀ m k, kindOf t = some (m, k) → hasB ks m k = true

theorem has_at {ks : Ks} {m k : Nat} (h : hasB ks m k = true) : ∃ (hm : m < ks.length) (hk : k < ks[m].length), recAt ks m k = ks[m][k] := by
  unfold hasB at h
  split at h
  · rename_i r hr
    obtain ⟨hm, rfl⟩ := List.getElem?_eq_some_iff.1 hr
    have hk : k < ks[m].length := by simpa using h
    exact ⟨hm, hk, by simp [recAt, List.getD, hm, hk]⟩
  · cases h
theorem kindOf_ref {t : ByteArray} (h : refB t = true) : kindOf t = none := by
  unfold refB at h
  split at h
  · rename_i h0
    unfold kindOf
    split
    · rename_i h3
      rw [if_neg]
      rintro ⟨h1, _⟩
      rw [h1] at h
      simp at h
    · rfl
  · cases h
theorem amp_ref {t : ByteArray} (h : amp t = true) : refB t = true := by
  unfold amp at h
  unfold refB
  split at h
  · rename_i h0
    rw [dif_pos h0, h, Bool.true_or]
  · cases h

set_option maxHeartbeats 400000 in
theorem l1Able_any (F : Nat → Prop) (v : Value) (ks : Ks) (t : ByteArray) (w : World) (h : Cod.recs.Sl F w v ks) (hs : t.size ≤ maxLen) (hn : Known ks t) :
    Calls Tryd.prog 12 #[v, .string t] w fun e w' => e = .returned (.int .i64 (ableT ks t)) ∧ ∃ n, w' = w.drewN n := by
  have HS := Lib.hid h
  have hs' := hs
  unfold maxLen at hs'
  by_cases hr : refB t = true
  · obtain ⟨A, cap, rfl, _⟩ := h
    have h0 : 0 < t.size := by
      unfold refB at hr
      split at hr
      · assumption
      · cases hr
    by_cases ha : amp t = true
    · have HP : Hid (ableT ks t = 3) := by show _ = _; unfold ableT; rw [if_pos ha]
      have h1 : (((t[0]).toNat : Int) == 38) = true := by unfold amp at ha; rw [dif_pos h0] at ha; exact ha
      go_enter Tryd.func12, Tryd.ntmps12
      go_wp2_with (go_at_call 28; refine (l1Ref_any t _ hs).mono ?_; rintro e w' ⟨rfl, rfl⟩)
      go_ret
      exact ⟨ret_int HP.out.symm, 0, rfl⟩
    · have HP : Hid (ableT ks t = 2) := by show _ = _; unfold ableT; rw [if_neg ha, if_pos hr]
      have h1 : (((t[0]).toNat : Int) == 38) = false := by unfold amp at ha; rw [dif_pos h0] at ha; simpa using ha
      go_enter Tryd.func12, Tryd.ntmps12
      go_wp2_with (go_at_call 28; refine (l1Ref_any t _ hs).mono ?_; rintro e w' ⟨rfl, rfl⟩)
      go_ret
      exact ⟨ret_int HP.out.symm, 0, rfl⟩
  · have ha : ¬ amp t = true := fun h => hr (amp_ref h)
    have hr' : refB t = false := by simpa using hr
    cases hk : kindOf t with
    | none =>
      obtain ⟨A, cap, rfl, _⟩ := h
      have HK := Lib.hid hk
      have HP : Hid (ableT ks t = 7) := by show _ = _; unfold ableT; rw [if_neg ha, if_neg hr, hk]
      clear hk ha hr
      go_enter Tryd.func12, Tryd.ntmps12
      go_wp2_with (first
        | (go_at_call 28; refine (l1Ref_any t _ hs).mono ?_; rintro e w' ⟨rfl, rfl⟩)
        | (go_at_call 26; refine (l1Kind_no t _ HK.out).mono ?_; rintro e w1 ⟨rfl, n, rfl⟩))
      go_ret
      exact ⟨ret_int HP.out.symm, _, rfl⟩
    | some mk =>
      obtain ⟨m, k⟩ := mk
      obtain ⟨hm, hk', hrec⟩ := has_at (hn m k hk)
      have HK := Lib.hid hk
      have HP : Hid (ableT ks t = (ks[m][k]).able) := by show _ = _; unfold ableT; rw [if_neg ha, if_neg hr, hk, ← hrec]
      obtain ⟨b, off, cap, u, rfl, _, hlc, hcm, hc0, hu⟩ := h.sl_at hm
      obtain ⟨b', off', cap', u', rfl, _, hlu, hcu, hc1, _, _, _⟩ := hu.rec_at hk'
      unfold maxLen at hcm hcu
      clear hk ha hr hrec hu
      go_enter Tryd.func12, Tryd.ntmps12
      go_wp2_with (first
        | (go_at_call 28; refine (l1Ref_any t _ hs).mono ?_; rintro e w' ⟨rfl, rfl⟩)
        | (go_at_call 26; refine (l1Kind_yes t m k _ HK.out).mono ?_; rintro e w1 ⟨rfl, n, rfl⟩))
      go_ret
      exact ⟨ret_int HP.out.symm, _, rfl⟩
end Go.Proofs.YthkdkefkgmmoiaaDoor
