/- Types: kinds without the last module are ones; what holds something that cannot be copied or dropped cannot be that either. -/
import Derived.Test.YthkdkefkgmmoiaaDoorSpb
namespace Go.Proofs.YthkdkefkgmmoiaaDoor
open Go.RowKit

theorem badIn_ok {ks : Ks} {m : Nat} : ∀ (n k : Nat), (∀ j, k ≤ j → j < k + n → recB ks m j = true) → badIn ks m n k = none
  | 0, _, _ => rfl
  | n + 1, k, h => by
    unfold badIn
    rw [if_pos (h k (Nat.le_refl _) (by omega))]
    exact badIn_ok n (k + 1) fun j h1 h2 => h j (by omega) (by omega)
theorem badOut_ok {ks : Ks} : ∀ (n m : Nat), (∀ j, m ≤ j → j < m + n → (ks.getD j []).length ≤ 3 ∧ ∀ k, k < (ks.getD j []).length → recB ks j k = true) → badOut ks n m = (-1, -1)
  | 0, _, _ => rfl
  | n + 1, m, h => by
    unfold badOut
    obtain ⟨h1, h2⟩ := h m (Nat.le_refl _) (by omega)
    rw [if_neg (by omega), badIn_ok _ _ fun j _ hj => h2 j (by omega)]
    exact badOut_ok n (m + 1) fun j g1 g2 => h j (by omega) (by omega)
theorem kindsOk_of {ks : Ks} (h3 : ks.length ≤ 3) (h : ∀ j, j < ks.length → (ks.getD j []).length ≤ 3 ∧ ∀ k, k < (ks.getD j []).length → recB ks j k = true) : kindsOk ks = true := by
  unfold kindsOk kindsBad
  rw [if_neg (by omega), badOut_ok _ _ fun j _ hj => h j (by omega)]
  rfl
theorem kindsOk_all {ks : Ks} (h : kindsOk ks = true) : ks.length ≤ 3 ∧ ∀ j, j < ks.length → (ks.getD j []).length ≤ 3 ∧ ∀ k, k < (ks.getD j []).length → recB ks j k = true := by
  have h3 := ok_len h
  refine ⟨h3, fun j hj => ?_⟩
  unfold kindsOk kindsBad at h
  have h := of_decide_eq_true h
  rw [if_neg (by omega)] at h
  exact badOut_neg _ _ h j (Nat.zero_le _) (by omega)

theorem take_get {ks : Ks} {n m : Nat} (h : m < n) : (ks.take n)[m]? = ks[m]? := by rw [List.getElem?_take, if_pos h]
theorem take_has {ks : Ks} {n m k : Nat} (h : m < n) : hasB (ks.take n) m k = hasB ks m k := by unfold hasB; rw [take_get h]
theorem take_rec {ks : Ks} {n m k : Nat} (h : m < n) : recAt (ks.take n) m k = recAt ks m k := by
  have e : (ks.take n).getD m [] = ks.getD m [] := by rw [List.getD_eq_getElem?_getD, List.getD_eq_getElem?_getD, take_get h]
  unfold recAt; rw [e]
theorem take_field {ks : Ks} {n m k : Nat} (h : m < n) (f : ByteArray) : fieldB (ks.take n) m k f = fieldB ks m k f := by
  unfold fieldB
  split
  · rfl
  · rename_i am ak hk
    by_cases ha : am < n
    · rw [take_has ha]
    · have h1 : decide (am < m) = false := decide_eq_false (by omega)
      have h2 : decide (am = m) = false := decide_eq_false (by omega)
      rw [h1, h2]; simp
theorem take_able {ks : Ks} {n m k : Nat} (h : m < n) {f : ByteArray} (hf : fieldB ks m k f = true) : ableT (ks.take n) f = ableT ks f := by
  unfold ableT
  unfold fieldB at hf
  split at hf
  · rename_i hk; rw [hk]
  · rename_i am ak hk
    rw [hk]
    simp only [Bool.and_eq_true, Bool.or_eq_true, decide_eq_true_eq] at hf
    have e := take_rec (ks := ks) (n := n) (m := am) (k := ak) (by omega)
    simp only [e]
theorem take_recB {ks : Ks} {n m k : Nat} (h : m < n) (hr : recB ks m k = true) : recB (ks.take n) m k = true := by
  unfold recB at hr ⊢
  rw [take_rec h]
  simp only [Bool.and_eq_true, List.all_eq_true] at hr ⊢
  refine ⟨hr.1, fun f hf => ?_⟩
  obtain ⟨h1, h2⟩ := hr.2 f hf
  rw [take_field h, take_able h h1]
  exact ⟨h1, h2⟩
/-- Kinds without the last modules are ones. -/
theorem kindsOk_take {ks : Ks} (n : Nat) (h : kindsOk ks = true) : kindsOk (ks.take n) = true := by
  obtain ⟨h3, ha⟩ := kindsOk_all h
  refine kindsOk_of (by rw [List.length_take]; omega) fun j hj => ?_
  rw [List.length_take] at hj
  have hg : (ks.take n).getD j [] = ks.getD j [] := by rw [List.getD_eq_getElem?_getD, List.getD_eq_getElem?_getD, take_get (by omega)]
  rw [hg]
  obtain ⟨g1, g2⟩ := ha j (by omega)
  exact ⟨g1, fun k hk => take_recB (by omega) (g2 k hk)⟩

theorem cond_can {a b : Int} (h : condA a b = true) : (canB a 1 = true → canB b 1 = true) ∧ (canB a 2 = true → canB b 2 = true) := by
  unfold condA at h
  generalize canB a 1 = x at h ⊢
  generalize canB b 1 = y at h ⊢
  generalize canB a 2 = z at h ⊢
  generalize canB b 2 = u at h ⊢
  cases x <;> cases y <;> cases z <;> cases u <;> simp at h ⊢
theorem holds_can {ks : Ks} (hok : kindsOk ks = true) (inn : ByteArray) : ∀ (n : Nat) (t : ByteArray), Known ks t → refB t = false → holdsF ks inn n t = true → (canB (ableT ks t) 1 = true → canB (ableT ks inn) 1 = true) ∧ (canB (ableT ks t) 2 = true → canB (ableT ks inn) 2 = true)
  | 0, _, _, _, h => by unfold holdsF at h; cases h
  | n + 1, t, hkn, hr, h => by
    unfold holdsF at h
    simp only [Bool.or_eq_true, decide_eq_true_eq] at h
    rcases h with rfl | h
    · exact ⟨id, id⟩
    · cases hk : kindOf t with
      | none => rw [hk] at h; cases h
      | some mk =>
        obtain ⟨m, k⟩ := mk
        rw [hk] at h
        simp only [List.any_eq_true] at h
        obtain ⟨f, hf, hh⟩ := h
        have hhas := hkn m k hk
        have hrec := ok_rec hok hhas
        unfold recB at hrec
        simp only [Bool.and_eq_true, List.all_eq_true] at hrec
        obtain ⟨hf1, hf2⟩ := hrec.2 f hf
        obtain ⟨hkf, hrf⟩ := field_known hf1
        obtain ⟨i1, i2⟩ := holds_can hok inn n f hkf hrf hh
        obtain ⟨c1, c2⟩ := cond_can hf2
        have hamp : ¬ amp t = true := fun h' => by rw [amp_ref h'] at hr; cases hr
        have ha : ableT ks t = (recAt ks m k).able := by unfold ableT; rw [if_neg hamp, hr, hk]; rfl
        rw [ha]
        exact ⟨fun h => i1 (c1 h), fun h => i2 (c2 h)⟩

/-- As the law asks it. -/
def hlCanB (able one : Int) : Bool := decide (0 ≤ able) && canB able one
theorem typeHolds_can {ks : Ks} {t inn : ByteArray} (h : typeHolds ks t inn = true) : (hlCanB (typeAble ks inn) 1 = true ∨ hlCanB (typeAble ks t) 1 = false) ∧ (hlCanB (typeAble ks inn) 2 = true ∨ hlCanB (typeAble ks t) 2 = false) := by
  unfold typeHolds at h
  simp only [Bool.and_eq_true, Bool.not_eq_true'] at h
  obtain ⟨⟨⟨⟨h1, h2⟩, h3⟩, h4⟩, h5⟩ := h
  have hok : kindsOk ks = true := by unfold typeOkB at h1; simp only [Bool.and_eq_true] at h1; exact h1.1
  obtain ⟨g1, g2⟩ := holds_can hok inn 40 t (known_of_ok h1) h4 h5
  have hi : 0 ≤ ableT ks inn := by
    cases hk : kindOf inn with
    | none => rw [hk] at h3; cases h3
    | some mk =>
      obtain ⟨m, k⟩ := mk
      have hr := refB_kind hk
      have hamp : ¬ amp inn = true := fun h' => by rw [amp_ref h'] at hr; cases hr
      have ha : ableT ks inn = (recAt ks m k).able := by unfold ableT; rw [if_neg hamp, hr, hk]; rfl
      have hrec := ok_rec hok (known_of_ok h2 m k hk)
      unfold recB at hrec
      simp only [Bool.and_eq_true, decide_eq_true_eq] at hrec
      omega
  unfold typeAble hlCanB
  rw [h1, h2, decide_eq_true (show 0 ≤ if true = true then ableT ks inn else -1 from hi)]
  simp only [if_true, Bool.true_and]
  constructor
  · cases hc : canB (ableT ks t) 1 with
    | false => right; simp
    | true => left; exact g1 hc
  · cases hc : canB (ableT ks t) 2 with
    | false => right; simp
    | true => left; exact g2 hc
theorem able_range (ks : Ks) (t : ByteArray) : -1 ≤ typeAble ks t ∧ typeAble ks t ≤ 15 := by
  unfold typeAble
  cases ht : typeOkB ks t with
  | false => simp
  | true =>
    simp only [if_true]
    have hok : kindsOk ks = true := by unfold typeOkB at ht; simp only [Bool.and_eq_true] at ht; exact ht.1
    have hkn := known_of_ok ht
    unfold ableT
    split
    · decide
    · split
      · decide
      · split
        · rename_i m k hk
          have hrec := ok_rec hok (hkn m k hk)
          unfold recB at hrec
          simp only [Bool.and_eq_true, decide_eq_true_eq] at hrec
          omega
        · decide
end Go.Proofs.YthkdkefkgmmoiaaDoor
