/- The program's types: which kinds hold a kind. -/
import Derived.Test.YtmomdflfjcboiaaImc
namespace Go.Proofs.Ytmomdflfjcboiaa
open Go.RowKit

/-- Texts that are marked. -/
def IsTrue (v : Value) (_ : Unit) : Prop := v = .bool true
abbrev Marks := List (ByteArray × Unit)
def marked (l : Marks) (s : ByteArray) : Bool := (look l s).isSome

theorem zero_bool (w : World) : (zeroValue 4).run Try.prog w = .ok (.bool false) w := by kernel_rfl

def idx {α : Type} (p : α → Bool) : List α → Nat → Int
  | [], _ => -1
  | x :: r, k => if p x then (k : Int) else idx p r (k + 1)
theorem idx_any {α : Type} (p : α → Bool) : ∀ (xs : List α) (k : Nat), decide (0 ≤ idx p xs k) = xs.any p
  | [], _ => rfl
  | x :: r, k => by
    unfold idx
    rw [List.any_cons]
    cases hp : p x with
    | true => simp
    | false => simpa using idx_any p r (k + 1)

theorem holdsF_more {ks : Ks} {inn : ByteArray} (hok : kindsOk ks = true) : ∀ (n : Nat) (t : ByteArray), Known ks t → rank t < n → holdsF ks inn (n + 1) t = holdsF ks inn n t
  | 0, t, _, h => by omega
  | n + 1, t, hkn, h => by
    rw [holdsF, holdsF]
    cases hk : kindOf t with
    | none => rfl
    | some mk =>
      obtain ⟨m, k⟩ := mk
      have hh := hkn m k hk
      simp only
      congr 1
      rw [Bool.eq_iff_iff, List.any_eq_true, List.any_eq_true]
      have e : ∀ f ∈ (recAt ks m k).fields, holdsF ks inn (n + 1) f = holdsF ks inn n f := fun f hf => by
        have hfb := ok_field hok hh hf
        have hr := rank_field (kindOf_le hk).2 hfb
        refine holdsF_more hok n f (field_known hfb).1 ?_
        unfold rank at h
        rw [hk] at h
        simp only at h
        omega
      constructor
      · rintro ⟨f, hf, h⟩; exact ⟨f, hf, by rw [← e f hf]; exact h⟩
      · rintro ⟨f, hf, h⟩; exact ⟨f, hf, by rw [e f hf]; exact h⟩

def markTab (ks : Ks) (inn : ByteArray) (m k : Nat) (s : ByteArray) : Bool :=
  decide (s = inn) || (match kindOf s with | some (a, b) => decide (hasB ks a b = true ∧ (a < m ∨ a = m ∧ b < k)) && holdsF ks inn 40 s | none => false)
def MTab (ks : Ks) (inn : ByteArray) (m k : Nat) (l : Marks) : Prop := ∀ s, marked l s = markTab ks inn m k s

theorem MTab.start (ks : Ks) (inn : ByteArray) : MTab ks inn 0 0 (putA [] inn ()) := by
  intro s
  unfold marked markTab
  rw [look_putA]
  by_cases h : s = inn
  · rw [if_pos h, decide_eq_true h]; rfl
  · rw [if_neg h, decide_eq_false h, Bool.false_or]
    split
    · rw [decide_eq_false (by omega)]; rfl
    · rfl
theorem MTab.over {ks : Ks} {inn : ByteArray} {m k : Nat} {l : Marks} (h : MTab ks inn m k l) (hk : (ks.getD m []).length ≤ k) : MTab ks inn (m + 1) 0 l := by
  intro s
  rw [h s]
  unfold markTab
  congr 1
  split
  · rename_i a b hab
    congr 1
    rw [decide_eq_decide]
    constructor
    · rintro ⟨g1, g2⟩; exact ⟨g1, by omega⟩
    · rintro ⟨g1, g2⟩
      refine ⟨g1, ?_⟩
      obtain ⟨ha, hb, _⟩ := has_at g1
      by_cases he : a = m
      · subst he
        have e : ks.getD a [] = ks[a] := by simp [List.getD, ha]
        rw [e] at hk
        omega
      · omega
  · rfl
theorem MTab.fields {ks : Ks} {inn : ByteArray} {m k : Nat} {l : Marks} (h : MTab ks inn m k l) (hok : kindsOk ks = true) (hh : hasB ks m k = true) (hm : m ≤ 2) (hk : k ≤ 2) : (recAt ks m k).fields.any (marked l) = (recAt ks m k).fields.any (holdsF ks inn 39) := by
  rw [Bool.eq_iff_iff, List.any_eq_true, List.any_eq_true]
  have e : ∀ f ∈ (recAt ks m k).fields, marked l f = holdsF ks inn 39 f := fun f hf => by
    have hfb := ok_field hok hh hf
    have hkn := (field_known hfb).1
    have hr := rank_field (ks := ks) (m := m) (k := k) (f := f) (by omega) hfb
    rw [h f]
    unfold markTab
    cases hkf : kindOf f with
    | none => simp only [holdsF, hkf]
    | some ab =>
      obtain ⟨a, b⟩ := ab
      have hc : hasB ks a b = true ∧ (a < m ∨ a = m ∧ b < k) := by
        unfold fieldB at hfb
        rw [hkf] at hfb
        simpa using hfb
      simp only
      rw [decide_eq_true hc, Bool.true_and, holdsF_more hok 39 f hkn (by omega)]
      by_cases he : f = inn
      · rw [decide_eq_true he, Bool.true_or, holdsF, decide_eq_true he, Bool.true_or]
      · rw [decide_eq_false he, Bool.false_or]
  constructor
  · rintro ⟨f, hf, h⟩; exact ⟨f, hf, by rw [← e f hf]; exact h⟩
  · rintro ⟨f, hf, h⟩; exact ⟨f, hf, by rw [e f hf]; exact h⟩
theorem MTab.step {ks : Ks} {inn : ByteArray} {m k : Nat} {l l' : Marks} (h : MTab ks inn m k l) (hok : kindsOk ks = true) (hh : hasB ks m k = true) (hm : m ≤ 2) (hk : k ≤ 2)
    (hl : l' = if (recAt ks m k).fields.any (marked l) then putA l (nameB m k) () else l) : MTab ks inn m (k + 1) l' := by
  have hf := h.fields hok hh hm hk
  intro s
  by_cases hs : s = nameB m k
  · subst hs
    have hkd := kindOf_name (m := m) (k := k) (by omega) (by omega)
    have hR : markTab ks inn m (k + 1) (nameB m k) = (decide (nameB m k = inn) || (recAt ks m k).fields.any (holdsF ks inn 39)) := by
      unfold markTab
      rw [hkd]
      show (decide (nameB m k = inn) || (decide (hasB ks m k = true ∧ (m < m ∨ m = m ∧ k < k + 1)) && holdsF ks inn 40 (nameB m k))) = _
      rw [decide_eq_true (show hasB ks m k = true ∧ (m < m ∨ m = m ∧ k < k + 1) from ⟨hh, .inr ⟨rfl, Nat.lt_succ_self k⟩⟩), Bool.true_and, holdsF, hkd]
      simp only
      cases decide (nameB m k = inn) <;> rfl
    have hO : marked l (nameB m k) = decide (nameB m k = inn) := by
      rw [h]
      unfold markTab
      rw [hkd]
      show (decide (nameB m k = inn) || (decide (hasB ks m k = true ∧ (m < m ∨ m = m ∧ k < k)) && holdsF ks inn 40 (nameB m k))) = _
      rw [decide_eq_false (p := hasB ks m k = true ∧ (m < m ∨ m = m ∧ k < k)) (by omega), Bool.false_and, Bool.or_false]
    rw [hR, hl, ← hf]
    cases ha : (recAt ks m k).fields.any (marked l) with
    | true => simp only [if_true, Bool.or_true]; unfold marked; rw [look_putA, if_pos rfl]; rfl
    | false => simp only [Bool.false_eq_true, if_false, Bool.or_false]; exact hO
  · have hM : marked l' s = marked l s := by
      rw [hl]
      split
      · unfold marked; rw [look_putA, if_neg hs]
      · rfl
    rw [hM, h s]
    unfold markTab
    congr 1
    split
    · rename_i a b hab
      congr 1
      rw [decide_eq_decide]
      have hn : ¬ (a = m ∧ b = k) := fun ⟨h1, h2⟩ => hs (by rw [name_of_kind hab, h1, h2])
      constructor <;> rintro ⟨g1, g2⟩ <;> exact ⟨g1, by omega⟩
    · rfl

theorem ok_lens {ks : Ks} (h : kindsOk ks = true) {m : Nat} (hm : m < ks.length) : ks[m].length ≤ 3 := by
  unfold kindsOk kindsBad at h
  have h := of_decide_eq_true h
  split at h
  · simp at h
  · have := (badOut_neg _ _ h m (Nat.zero_le _) (by omega)).1
    simpa [List.getD, hm] using this

theorem holds_mark {ks : Ks} {t inn : ByteArray} (hok : kindsOk ks = true) {c d : Nat} (hi : kindOf inn = some (c, d)) (hh : hasB ks c d = true) : typeHolds ks t inn = markTab ks inn ks.length 0 t := by
  have hb : baseB inn = false := by
    cases hb : baseB inn with
    | false => rfl
    | true => rw [kindOf_base hb] at hi; cases hi
  have hoi : typeOkB ks inn = true := by
    have hr := refB_kind hi
    have ho : ofT inn = inn := by unfold ofT; rw [hr]; rfl
    unfold typeOkB plainB
    rw [hok, ho, hi]; simp [hh]
  have hn3 := ok_len hok
  unfold typeHolds markTab
  rw [hoi, hi, Option.isSome_some, Bool.and_true, Bool.and_true]
  cases hk : kindOf t with
  | none =>
    have he : decide (t = inn) = false := decide_eq_false fun e => by rw [e, hi] at hk; cases hk
    rw [holdsF, hk, he]
    simp
  | some ab =>
    obtain ⟨a, b⟩ := ab
    have hr := refB_kind hk
    have ho : ofT t = t := by unfold ofT; rw [hr]; rfl
    have hbt : baseB t = false := by
      cases hb : baseB t with
      | false => rfl
      | true => rw [kindOf_base hb] at hk; cases hk
    have hto : typeOkB ks t = hasB ks a b := by
      unfold typeOkB plainB
      rw [hok, ho, hk, hbt]; simp
    rw [hto, hr]
    simp only [Bool.not_false, Bool.and_true]
    by_cases he : t = inn
    · rw [he] at hk
      rw [hi] at hk
      simp only [Option.some.injEq, Prod.mk.injEq] at hk
      obtain ⟨rfl, rfl⟩ := hk
      rw [hh, decide_eq_true he, Bool.true_or, holdsF, decide_eq_true he]; rfl
    · rw [decide_eq_false he, Bool.false_or]
      cases hab : hasB ks a b with
      | false => simp
      | true =>
        obtain ⟨hlt, _⟩ := has_at hab
        have hc : decide (true = true ∧ (a < ks.length ∨ a = ks.length ∧ b < 0)) = true := decide_eq_true ⟨rfl, .inl hlt⟩
        rw [hc]

/-- What holdersOf hands back. -/
def HoldersOf (ks : Ks) (inn : ByteArray) (W : World) (e : Ending) (w' : World) : Prop :=
  Below W.heap.size W w' ∧ ∃ b l, e = .returned (.map (some b)) ∧ MapIs IsTrue w' b l ∧ MTab ks inn ks.length 0 l

end Go.Proofs.Ytmomdflfjcboiaa
