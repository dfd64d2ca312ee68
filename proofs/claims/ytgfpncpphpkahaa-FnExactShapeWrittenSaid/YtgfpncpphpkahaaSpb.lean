/- The model of types, go on: records, kinds, types. The model of types, the end: kinds, types, abilities, what holds what. The model of types, the last: what holds what. -/
import Derived.Test.YtgfpncpphpkahaaSp
import Derived.Test.YtgfpncpphpkahaaStr
namespace Go.Proofs.Ytgfpncpphpkahaa
open Go.RowKit

/-- May a record with some abilities have a field with others? -/
def condA (able a : Int) : Bool := !(canB able 1 && !canB a 1 || canB able 2 && !canB a 2) && !(decide (4 ≤ able) && !canB a 4)
def recB (ks : Ks) (m k : Nat) : Bool :=
  (decide (0 ≤ (recAt ks m k).able) && decide ((recAt ks m k).able ≤ 15)) && decide ((recAt ks m k).fields.length ≤ 3) &&
    (recAt ks m k).fields.all fun f => fieldB ks m k f && condA (recAt ks m k).able (ableT ks f)

theorem base_cases {t : ByteArray} (h : baseB t = true) : t.toList = [110] ∨ t.toList = [98] ∨ t.toList = [111] := by
  unfold baseB at h
  simpa [or_assoc] using h
theorem kindOf_base {t : ByteArray} (h : baseB t = true) : kindOf t = none := by
  unfold kindOf
  split
  · rename_i h3
    have hl : t.toList.length = 3 := by rw [length_toList]; exact h3
    rcases base_cases h with h | h | h <;> rw [h] at hl <;> simp at hl
  · rfl
theorem refB_base {t : ByteArray} (h : baseB t = true) : refB t = false := by
  unfold refB
  split
  · rename_i h0
    have hg := get_toList t 0 h0
    rcases base_cases h with h | h | h <;> rw [h] at hg <;> simp at hg <;> rw [← hg] <;> rfl
  · rfl
theorem refB_kind {t : ByteArray} {m k : Nat} (h : kindOf t = some (m, k)) : refB t = false := by
  cases hr : refB t with
  | false => rfl
  | true => rw [kindOf_ref hr] at h; cases h
theorem field_known {ks : Ks} {m k : Nat} {t : ByteArray} (h : fieldB ks m k t = true) : Known ks t ∧ refB t = false := by
  unfold fieldB at h
  split at h
  · rename_i hk
    exact ⟨fun a b hab => (by rw [hk] at hab; cases hab), refB_base h⟩
  · rename_i am ak hk
    refine ⟨fun a b hab => ?_, refB_kind hk⟩
    rw [hk] at hab
    simp only [Option.some.injEq, Prod.mk.injEq] at hab
    obtain ⟨rfl, rfl⟩ := hab
    simp only [Bool.and_eq_true] at h
    exact h.1

/-- All records ahead of one have abilities. -/
def Ahead (ks : Ks) (m k : Nat) : Prop := ∀ am ak, hasB ks am ak = true → (am < m ∨ am = m ∧ ak < k) → 0 ≤ (recAt ks am ak).able ∧ (recAt ks am ak).able ≤ 15

theorem able_field {ks : Ks} {m k : Nat} {t : ByteArray} (h : fieldB ks m k t = true) (ha : Ahead ks m k) : 0 ≤ ableT ks t ∧ ableT ks t ≤ 15 := by
  obtain ⟨_, hr⟩ := field_known h
  have hamp : ¬ amp t = true := fun h' => by rw [amp_ref h'] at hr; cases hr
  unfold ableT
  rw [if_neg hamp, hr, if_neg (by simp)]
  unfold fieldB at h
  split at h
  · rename_i hk
    rw [hk]; exact ⟨by simp, by simp⟩
  · rename_i am ak hk
    rw [hk]
    simp only [Bool.and_eq_true, Bool.or_eq_true, decide_eq_true_eq] at h
    exact ha am ak h.1 h.2

theorem all_stop {α : Type} {p : α → Bool} {xs : List α} {k : Nat} {R : Bool} (hk : k < xs.length) (h : (xs.drop k).all p = R) (hn : p xs[k] = false) : false = R := by
  rw [drop_cons hk, List.all_cons, hn, Bool.false_and] at h; exact h
theorem all_step {α : Type} {p : α → Bool} {xs : List α} {k : Nat} {R : Bool} (hk : k < xs.length) (h : (xs.drop k).all p = R) (hn : p xs[k] = true) : (xs.drop (k + 1)).all p = R := by
  rw [drop_cons hk, List.all_cons, hn, Bool.true_and] at h; exact h
theorem all_end {α : Type} {p : α → Bool} {xs : List α} {k : Nat} {R : Bool} (hk : k = xs.length) (h : (xs.drop k).all p = R) : true = R := by
  rw [hk, List.drop_length] at h; exact h

/-- The first record of a module that is none, from the k-th on (n: how many are left). -/
def badIn (ks : Ks) (m : Nat) : Nat → Nat → Option Nat
  | 0, _ => none
  | n + 1, k => if recB ks m k then badIn ks m n (k + 1) else some k
def badOut (ks : Ks) : Nat → Nat → Int × Int
  | 0, _ => (-1, -1)
  | n + 1, m =>
    if 3 < (ks.getD m []).length then ((m : Int), 3) else
    match badIn ks m (ks.getD m []).length 0 with
    | some k => ((m : Int), (k : Int))
    | none => badOut ks n (m + 1)
def kindsBad (ks : Ks) : Int × Int := if 3 < ks.length then (3, 0) else badOut ks ks.length 0

theorem rec_able {ks : Ks} {m k : Nat} (h : recB ks m k = true) : 0 ≤ (recAt ks m k).able ∧ (recAt ks m k).able ≤ 15 := by
  unfold recB at h
  simp only [Bool.and_eq_true, decide_eq_true_eq] at h
  exact h.1.1
theorem Ahead.next {ks : Ks} {m k : Nat} (h : Ahead ks m k) (hr : recB ks m k = true) : Ahead ks m (k + 1) := by
  intro am ak hh hlt
  by_cases he : am = m ∧ ak = k
  · obtain ⟨rfl, rfl⟩ := he
    exact rec_able hr
  · exact h am ak hh (by omega)
theorem Ahead.over {ks : Ks} {m k : Nat} (h : Ahead ks m k) (hk : (ks.getD m []).length ≤ k) : Ahead ks (m + 1) 0 := by
  intro am ak hh hlt
  refine h am ak hh ?_
  by_cases he : am = m
  · subst he
    obtain ⟨hm, hk', _⟩ := has_at hh
    have : (ks.getD am []) = ks[am] := by simp [List.getD, hm]
    rw [this] at hk
    omega
  · omega
theorem ret_2 {a b a' b' : Int} (ha : a = a') (hb : b = b') : Ending.returned (.tuple #[.int .i64 a, .int .i64 b]) = .returned (.tuple #[.int .i64 a', .int .i64 b']) := by rw [ha, hb]

end Go.Proofs.Ytgfpncpphpkahaa

namespace Go.Proofs.Ytgfpncpphpkahaa
open Go.RowKit

def kindsOk (ks : Ks) : Bool := decide ((kindsBad ks).1 < 0)
def typeOkB (ks : Ks) (t : ByteArray) : Bool := kindsOk ks && plainB ks (ofT t)
def typeAble (ks : Ks) (t : ByteArray) : Int := if typeOkB ks t then ableT ks t else -1

/-- The plain type of a type. -/
def plainT (ks : Ks) (t : ByteArray) : ByteArray := if typeOkB ks t then ofT t else ByteArray.empty

theorem size_ofT (t : ByteArray) : (ofT t).size ≤ t.size := by
  unfold ofT; split
  · simp
  · exact Nat.le_refl _

theorem known_of_ok {ks : Ks} {t : ByteArray} (h : typeOkB ks t = true) : Known ks t := by
  intro m k hk
  unfold typeOkB at h
  simp only [Bool.and_eq_true] at h
  have hr := refB_kind hk
  have ho : ofT t = t := by unfold ofT; rw [hr]; rfl
  rw [ho] at h
  have hb : baseB t = false := by
    cases hb : baseB t with
    | false => rfl
    | true => rw [kindOf_base hb] at hk; cases hk
  have hp := h.2
  unfold plainB at hp
  rw [hb, hk, Bool.false_or] at hp
  exact hp

/-- In good kinds each record is one. -/
theorem badIn_none {ks : Ks} {m : Nat} : ∀ (n k : Nat), badIn ks m n k = none → ∀ j, k ≤ j → j < k + n → recB ks m j = true
  | 0, k, _, j, h1, h2 => by omega
  | n + 1, k, h, j, h1, h2 => by
    unfold badIn at h
    split at h
    · rename_i hr
      by_cases he : j = k
      · subst he; exact hr
      · exact badIn_none n (k + 1) h j (by omega) (by omega)
    · cases h
theorem badOut_neg {ks : Ks} : ∀ (n m : Nat), (badOut ks n m).1 < 0 → ∀ j, m ≤ j → j < m + n → (ks.getD j []).length ≤ 3 ∧ ∀ k, k < (ks.getD j []).length → recB ks j k = true
  | 0, m, _, j, h1, h2 => by omega
  | n + 1, m, h, j, h1, h2 => by
    unfold badOut at h
    split at h
    · simp at h; omega
    · rename_i h3
      split at h
      · simp at h; omega
      · rename_i hb
        by_cases he : j = m
        · subst he
          exact ⟨by omega, fun k hk => badIn_none _ _ hb k (Nat.zero_le _) (by omega)⟩
        · exact badOut_neg n (m + 1) h j (by omega) (by omega)
theorem ok_rec {ks : Ks} (h : kindsOk ks = true) {m k : Nat} (hh : hasB ks m k = true) : recB ks m k = true := by
  unfold kindsOk kindsBad at h
  have h := of_decide_eq_true h
  split at h
  · simp at h
  · obtain ⟨hm, hk, _⟩ := has_at hh
    refine (badOut_neg _ _ h m (Nat.zero_le _) (by omega)).2 k ?_
    simpa [List.getD, hm] using hk

/-- How late a kind stands. -/
def rank (t : ByteArray) : Nat := match kindOf t with | none => 0 | some (m, k) => 10 * m + k + 1
def holdsF (ks : Ks) (inn : ByteArray) : Nat → ByteArray → Bool
  | 0, _ => false
  | n + 1, t => decide (t = inn) || (match kindOf t with | none => false | some (m, k) => (recAt ks m k).fields.any (holdsF ks inn n))

theorem rank_field {ks : Ks} {m k : Nat} {f : ByteArray} (hk : k ≤ 9) (h : fieldB ks m k f = true) : rank f < 10 * m + k + 1 := by
  unfold fieldB at h
  unfold rank
  split at h
  · rename_i hf
    rw [hf]; simp
  · rename_i am ak hf
    rw [hf]
    have := kindOf_le hf
    simp only [Bool.and_eq_true, Bool.or_eq_true, decide_eq_true_eq] at h
    show 10 * am + ak + 1 < _
    omega
end Go.Proofs.Ytgfpncpphpkahaa

namespace Go.Proofs.Ytgfpncpphpkahaa
open Go.RowKit

theorem any_stop {α : Type} {p : α → Bool} {xs : List α} {k : Nat} {R : Bool} (hk : k < xs.length) (h : (xs.drop k).any p = R) (hn : p xs[k] = true) : true = R := by
  rw [drop_cons hk, List.any_cons, hn, Bool.true_or] at h; exact h
theorem any_step {α : Type} {p : α → Bool} {xs : List α} {k : Nat} {R : Bool} (hk : k < xs.length) (h : (xs.drop k).any p = R) (hn : p xs[k] = false) : (xs.drop (k + 1)).any p = R := by
  rw [drop_cons hk, List.any_cons, hn, Bool.false_or] at h; exact h
theorem any_end {α : Type} {p : α → Bool} {xs : List α} {k : Nat} {R : Bool} (hk : k = xs.length) (h : (xs.drop k).any p = R) : false = R := by
  rw [hk, List.drop_length] at h; exact h

theorem ok_field {ks : Ks} (h : kindsOk ks = true) {m k : Nat} (hh : hasB ks m k = true) {f : ByteArray} (hf : f ∈ (recAt ks m k).fields) : fieldB ks m k f = true := by
  have hr := ok_rec h hh
  unfold recB at hr
  simp only [Bool.and_eq_true, List.all_eq_true] at hr
  exact (hr.2 f hf).1

def typeHolds (ks : Ks) (t inn : ByteArray) : Bool := typeOkB ks t && typeOkB ks inn && (kindOf inn).isSome && !refB t && holdsF ks inn 40 t

theorem rank_ok {ks : Ks} {t : ByteArray} (h : Known ks t) (h3 : ks.length ≤ 3) : rank t < 40 := by
  unfold rank
  split
  · omega
  · rename_i m k hk
    obtain ⟨hm, _⟩ := has_at (h m k hk)
    have := kindOf_le hk
    omega
theorem ok_len {ks : Ks} (h : kindsOk ks = true) : ks.length ≤ 3 := by
  unfold kindsOk kindsBad at h
  have h := of_decide_eq_true h
  split at h
  · simp at h
  · omega

end Go.Proofs.Ytgfpncpphpkahaa
