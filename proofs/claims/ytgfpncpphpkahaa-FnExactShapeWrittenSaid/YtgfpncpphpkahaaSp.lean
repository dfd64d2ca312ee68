/- The model of types: what each of its functions answers, told by plain functions on lists. -/
import Derived.Test.YtgfpncpphpkahaaRows
import Derived.Test.YtgfpncpphpkahaaKit
namespace Go.Proofs.Ytgfpncpphpkahaa
open Go.RowKit

abbrev Ks := List (List Rec)

/-- The module and the number of the kind that a text names by its form. -/
def kindOf (t : ByteArray) : Option (Nat × Nat) :=
  if h : t.size = 3 then
    if (t[0]'(by omega)).toNat = 83 ∧ 48 ≤ (t[1]'(by omega)).toNat ∧ (t[1]'(by omega)).toNat ≤ 57 ∧ 48 ≤ (t[2]'(by omega)).toNat ∧ (t[2]'(by omega)).toNat ≤ 57 then
      some ((t[1]'(by omega)).toNat - 48, (t[2]'(by omega)).toNat - 48) else none
  else none
def baseB (t : ByteArray) : Bool := t.toList == [110] || t.toList == [98] || t.toList == [111]
def hasB (ks : Ks) (m k : Nat) : Bool := match ks[m]? with | some r => decide (k < r.length) | none => false
def refB (t : ByteArray) : Bool := if h : 0 < t.size then ((t[0].toNat : Int) == 38 || (t[0].toNat : Int) == 33) else false
def amp (t : ByteArray) : Bool := if h : 0 < t.size then (t[0].toNat : Int) == 38 else false
def ofT (t : ByteArray) : ByteArray := if refB t then t.extract 1 t.size else t
def plainB (ks : Ks) (t : ByteArray) : Bool := baseB t || (match kindOf t with | some (m, k) => hasB ks m k | none => false)
def recAt (ks : Ks) (m k : Nat) : Rec := (ks.getD m []).getD k ⟨0, []⟩
def ableT (ks : Ks) (t : ByteArray) : Int := if amp t then 3 else if refB t then 2 else match kindOf t with | some (m, k) => (recAt ks m k).able | none => 7
def canB (able one : Int) : Bool := able / one % 2 == 1
def fieldB (ks : Ks) (m k : Nat) (t : ByteArray) : Bool :=
  match kindOf t with
  | none => baseB t
  | some (am, ak) => hasB ks am ak && (decide (am < m) || (decide (am = m) && decide (ak < k)))

theorem ret_3 {a b a' b' : Int} {c : Bool} (ha : a = a') (hb : b = b') : Ending.returned (.tuple #[.int .i64 a, .int .i64 b, .bool c]) = .returned (.tuple #[.int .i64 a', .int .i64 b', .bool c]) := by rw [ha, hb]
theorem kindOf_le {t : ByteArray} {m k : Nat} (h : kindOf t = some (m, k)) : m ≤ 9 ∧ k ≤ 9 := by
  unfold kindOf at h
  split at h
  · split at h
    · simp only [Option.some.injEq, Prod.mk.injEq] at h
      omega
    · cases h
  · cases h

set_option maxHeartbeats 400000 in
theorem l1Ref_any (t : ByteArray) (w : World) (_ : t.size ≤ maxLen) :
    Calls Try.prog 18 #[.string t] w fun e w' => e = .returned (.bool (refB t)) ∧ w = w' := by
  go_enter Try.func18, Try.ntmps18
  go_wp2
  all_goals
    go_ret
    exact ⟨ret_bool (by simp [refB, *]), rfl⟩

/-- The abilities of a type are asked of types alone. -/
def Known (ks : Ks) (t : ByteArray) : Prop := ∀ m k, kindOf t = some (m, k) → hasB ks m k = true

theorem has_at {ks : Ks} {m k : Nat} (h : hasB ks m k = true) : ∃ (hm : m < ks.length) (hk : k < ks[m].length), recAt ks m k = ks[m][k] := by
  unfold hasB at h
  split at h
  · rename_i r hr
    obtain ⟨hm, rfl⟩ := List.getElem?_eq_some_iff.1 hr
    have hk : k < ks[m].length := by simpa using h
    exact ⟨hm, hk, by simp [recAt, List.getD, hm, hk]⟩
  · cases h
theorem kindOf_ref {t : ByteArray} (h : refB t = true) : kindOf t = none := by
  unfold refB at h
  split at h
  · rename_i h0
    unfold kindOf
    split
    · rename_i h3
      rw [if_neg]
      rintro ⟨h1, _⟩
      rw [h1] at h
      simp at h
    · rfl
  · cases h
theorem amp_ref {t : ByteArray} (h : amp t = true) : refB t = true := by
  unfold amp at h
  unfold refB
  split at h
  · rename_i h0
    rw [dif_pos h0, h, Bool.true_or]
  · cases h

end Go.Proofs.Ytgfpncpphpkahaa
