/- The model of types, the end: kinds, types, abilities, what holds what. -/
import Derived.Test.YthhheipinogcoaaSpb
namespace Go.Proofs.Ythhheipinogcoaa
open Go.RowKit

def kindsOk (ks : Ks) : Bool := decide ((kindsBad ks).1 < 0)
def typeOkB (ks : Ks) (t : ByteArray) : Bool := kindsOk ks && plainB ks (ofT t)
def typeAble (ks : Ks) (t : ByteArray) : Int := if typeOkB ks t then ableT ks t else -1

/-- The plain type of a type. -/
def plainT (ks : Ks) (t : ByteArray) : ByteArray := if typeOkB ks t then ofT t else ByteArray.empty

theorem size_ofT (t : ByteArray) : (ofT t).size ≤ t.size := by
  unfold ofT; split
  · simp
  · exact Nat.le_refl _

theorem known_of_ok {ks : Ks} {t : ByteArray} (h : typeOkB ks t = true) : Known ks t := by
  intro m k hk
  unfold typeOkB at h
  simp only [Bool.and_eq_true] at h
  have hr := refB_kind hk
  have ho : ofT t = t := by unfold ofT; rw [hr]; rfl
  rw [ho] at h
  have hb : baseB t = false := by
    cases hb : baseB t with
    | false => rfl
    | true => rw [kindOf_base hb] at hk; cases hk
  have hp := h.2
  unfold plainB at hp
  rw [hb, hk, Bool.false_or] at hp
  exact hp

/-- In good kinds each record is one. -/
theorem badIn_none {ks : Ks} {m : Nat} : ∀ (n k : Nat), badIn ks m n k = none → ∀ j, k ≤ j → j < k + n → recB ks m j = true
  | 0, k, _, j, h1, h2 => by omega
  | n + 1, k, h, j, h1, h2 => by
    unfold badIn at h
    split at h
    · rename_i hr
      by_cases he : j = k
      · subst he; exact hr
      · exact badIn_none n (k + 1) h j (by omega) (by omega)
    · cases h
theorem badOut_neg {ks : Ks} : ∀ (n m : Nat), (badOut ks n m).1 < 0 → ∀ j, m ≤ j → j < m + n → (ks.getD j []).length ≤ 3 ∧ ∀ k, k < (ks.getD j []).length → recB ks j k = true
  | 0, m, _, j, h1, h2 => by omega
  | n + 1, m, h, j, h1, h2 => by
    unfold badOut at h
    split at h
    · simp at h; omega
    · rename_i h3
      split at h
      · simp at h; omega
      · rename_i hb
        by_cases he : j = m
        · subst he
          exact ⟨by omega, fun k hk => badIn_none _ _ hb k (Nat.zero_le _) (by omega)⟩
        · exact badOut_neg n (m + 1) h j (by omega) (by omega)
theorem ok_rec {ks : Ks} (h : kindsOk ks = true) {m k : Nat} (hh : hasB ks m k = true) : recB ks m k = true := by
  unfold kindsOk kindsBad at h
  have h := of_decide_eq_true h
  split at h
  · simp at h
  · obtain ⟨hm, hk, _⟩ := has_at hh
    refine (badOut_neg _ _ h m (Nat.zero_le _) (by omega)).2 k ?_
    simpa [List.getD, hm] using hk

/-- How late a kind stands. -/
def rank (t : ByteArray) : Nat := match kindOf t with | none => 0 | some (m, k) => 10 * m + k + 1
def holdsF (ks : Ks) (inn : ByteArray) : Nat → ByteArray → Bool
  | 0, _ => false
  | n + 1, t => decide (t = inn) || (match kindOf t with | none => false | some (m, k) => (recAt ks m k).fields.any (holdsF ks inn n))

theorem rank_field {ks : Ks} {m k : Nat} {f : ByteArray} (hk : k ≤ 9) (h : fieldB ks m k f = true) : rank f < 10 * m + k + 1 := by
  unfold fieldB at h
  unfold rank
  split at h
  · rename_i hf
    rw [hf]; simp
  · rename_i am ak hf
    rw [hf]
    have := kindOf_le hf
    simp only [Bool.and_eq_true, Bool.or_eq_true, decide_eq_true_eq] at h
    show 10 * am + ak + 1 < _
    omega
end Go.Proofs.Ythhheipinogcoaa
