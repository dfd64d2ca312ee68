/- The model of types, the last: what holds what. -/
import Derived.Test.YthhheipinogcoaaSpc
namespace Go.Proofs.Ythhheipinogcoaa
open Go.RowKit

theorem any_stop {α : Type} {p : α → Bool} {xs : List α} {k : Nat} {R : Bool} (hk : k < xs.length) (h : (xs.drop k).any p = R) (hn : p xs[k] = true) : true = R := by
  rw [drop_cons hk, List.any_cons, hn, Bool.true_or] at h; exact h
theorem any_step {α : Type} {p : α → Bool} {xs : List α} {k : Nat} {R : Bool} (hk : k < xs.length) (h : (xs.drop k).any p = R) (hn : p xs[k] = false) : (xs.drop (k + 1)).any p = R := by
  rw [drop_cons hk, List.any_cons, hn, Bool.false_or] at h; exact h
theorem any_end {α : Type} {p : α → Bool} {xs : List α} {k : Nat} {R : Bool} (hk : k = xs.length) (h : (xs.drop k).any p = R) : false = R := by
  rw [hk, List.drop_length] at h; exact h

theorem ok_field {ks : Ks} (h : kindsOk ks = true) {m k : Nat} (hh : hasB ks m k = true) {f : ByteArray} (hf : f ∈ (recAt ks m k).fields) : fieldB ks m k f = true := by
  have hr := ok_rec h hh
  unfold recB at hr
  simp only [Bool.and_eq_true, List.all_eq_true] at hr
  exact (hr.2 f hf).1

def typeHolds (ks : Ks) (t inn : ByteArray) : Bool := typeOkB ks t && typeOkB ks inn && (kindOf inn).isSome && !refB t && holdsF ks inn 40 t

theorem rank_ok {ks : Ks} {t : ByteArray} (h : Known ks t) (h3 : ks.length ≤ 3) : rank t < 40 := by
  unfold rank
  split
  · omega
  · rename_i m k hk
    obtain ⟨hm, _⟩ := has_at (h m k hk)
    have := kindOf_le hk
    omega
theorem ok_len {ks : Ks} (h : kindsOk ks = true) : ks.length ≤ 3 := by
  unfold kindsOk kindsBad at h
  have h := of_decide_eq_true h
  split at h
  · simp at h
  · omega

end Go.Proofs.Ythhheipinogcoaa
