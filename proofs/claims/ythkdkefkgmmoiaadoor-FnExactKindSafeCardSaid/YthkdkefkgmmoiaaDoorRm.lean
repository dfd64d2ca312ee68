/- Texts of values read back: of one type, a text has one value. No walk. -/
import Derived.Test.YthkdkefkgmmoiaaDoorVtb
namespace Go.Proofs.YthkdkefkgmmoiaaDoor
open Go.RowKit

def isD (c : UInt8) : Prop := 48 ≤ c.toNat ∧ c.toNat ≤ 57
instance (c : UInt8) : Decidable (isD c) := by unfold isD; exact inferInstance
/-- No digit comes. -/
def Ends (l : List UInt8) : Prop := ∀ c r, l = c :: r → ¬ isD c
theorem Ends.nil : Ends [] := fun _ _ h => by cases h
theorem Ends.cons {c : UInt8} {r : List UInt8} (h : ¬ isD c) : Ends (c :: r) := fun _ _ e => by cases e; exact h

/-- The number of digits. -/
def numL (l : List UInt8) : Nat := l.foldl (fun a c => a * 10 + (c.toNat - 48)) 0
theorem numL_snoc (l : List UInt8) (c : UInt8) : numL (l ++ [c]) = numL l * 10 + (c.toNat - 48) := by unfold numL; rw [List.foldl_append]; rfl
theorem dig_toNat {n : Nat} (h : n < 10) : (UInt8.ofNat (48 + n)).toNat = 48 + n := by rw [UInt8.toNat_ofNat']; omega
theorem dec_digits : ∀ n, (∀ c ∈ Lib.decDigits n, isD c) ∧ numL (Lib.decDigits n) = n ∧ Lib.decDigits n ≠ [] := by
  intro n
  induction n using Nat.strongRecOn with
  | _ n ih =>
    by_cases h : n < 10
    · rw [Lib.decDigits_one h]
      refine ⟨fun c hc => ?_, ?_, by simp⟩
      · obtain rfl := List.mem_singleton.1 hc; unfold isD; rw [dig_toNat h]; omega
      · show 0 * 10 + ((UInt8.ofNat (48 + n)).toNat - 48) = n
        rw [dig_toNat h]; omega
    · obtain ⟨i1, i2, i3⟩ := ih (n / 10) (by omega)
      rw [Lib.decDigits, dif_neg h]
      refine ⟨fun c hc => ?_, ?_, by simp⟩
      · rcases List.mem_append.1 hc with hc | hc
        · exact i1 c hc
        · obtain rfl := List.mem_singleton.1 hc; unfold isD; rw [dig_toNat (Nat.mod_lt n (by decide))]; have := Nat.mod_lt n (show 0 < 10 by decide); omega
      · rw [numL_snoc, i2, dig_toNat (by omega)]; omega
/-- Digits without a zero ahead are those of their number. -/
theorem dec_numL : ∀ (k : Nat) (l : List UInt8), l.length = k + 1 → (∀ c ∈ l, isD c) → (l.length = 1 ∨ l.head? ≠ some 48) → Lib.decDigits (numL l) = l ∧ (1 < l.length → 10 ≤ numL l) ∧ (l.head? ≠ some 48 → 0 < numL l) := by
  intro k
  induction k with
  | zero =>
    intro l hl hd _
    match l, hl with
    | [c], _ =>
      have hc := hd c (by simp)
      unfold isD at hc
      have e : numL [c] = c.toNat - 48 := by show 0 * 10 + (c.toNat - 48) = _; omega
      refine ⟨?_, by simp, fun h => ?_⟩
      · rw [e, Lib.decDigits_one (by omega)]
        congr 1
        apply UInt8.toNat_inj.1
        rw [dig_toNat (by omega)]; omega
      · rw [e]
        have : c ≠ 48 := fun hh => h (by rw [hh]; rfl)
        have : c.toNat ≠ 48 := fun hh => this (UInt8.toNat_inj.1 hh)
        omega
  | succ k ih =>
    intro l hl hd hh
    have hne : l ≠ [] := by intro h; rw [h] at hl; cases hl
    obtain ⟨init, c, rfl⟩ : ∃ init c, l = init ++ [c] := ⟨l.dropLast, l.getLast hne, (List.dropLast_concat_getLast hne).symm⟩
    have hil : init.length = k + 1 := by simp at hl; omega
    have hhd : init.head? = (init ++ [c]).head? := by
      match init, hil with
      | x :: r, _ => rfl
    have hz : (init ++ [c]).head? ≠ some 48 := by
      rcases hh with hh | hh
      · simp at hh; subst hh; cases hil
      · exact hh
    obtain ⟨j1, j2, j3⟩ := ih init hil (fun x hx => hd x (List.mem_append_left _ hx)) (.inr (by rw [hhd]; exact hz))
    have hc := hd c (by simp)
    unfold isD at hc
    have hp := j3 (by rw [hhd]; exact hz)
    rw [numL_snoc]
    refine ⟨?_, fun _ => by omega, fun _ => by omega⟩
    rw [Lib.decDigits, dif_neg (by omega), show (numL init * 10 + (c.toNat - 48)) / 10 = numL init by omega, j1, show (numL init * 10 + (c.toNat - 48)) % 10 = c.toNat - 48 by omega]
    congr 2
    apply UInt8.toNat_inj.1
    rw [dig_toNat (by omega)]; omega
theorem span_inj : ∀ (l1 l2 r1 r2 : List UInt8), (∀ c ∈ l1, isD c) → (∀ c ∈ l2, isD c) → Ends r1 → Ends r2 → l1 ++ r1 = l2 ++ r2 → l1 = l2 ∧ r1 = r2
  | [], [], _, _, _, _, _, _, h => ⟨rfl, h⟩
  | [], c :: l, r1, r2, _, h2, e1, _, h => absurd (h2 c (by simp)) (e1 c (l ++ r2) h)
  | c :: l, [], r1, r2, h1, _, _, e2, h => absurd (h1 c (by simp)) (e2 c (l ++ r1) h.symm)
  | c :: l, d :: m, r1, r2, h1, h2, e1, e2, h => by
    simp only [List.cons_append, List.cons.injEq] at h
    obtain ⟨rfl, h⟩ := h
    obtain ⟨a, b⟩ := span_inj l m r1 r2 (fun x hx => h1 x (by simp [hx])) (fun x hx => h2 x (by simp [hx])) e1 e2 h
    exact ⟨by rw [a], b⟩
theorem decBy_L (n : Nat) : (decBy n).data.toList = Lib.decDigits n := by unfold decBy; rfl
theorem dec_inj {a b : Nat} {r1 r2 : List UInt8} (e1 : Ends r1) (e2 : Ends r2) (h : (decBy a).data.toList ++ r1 = (decBy b).data.toList ++ r2) : a = b ∧ r1 = r2 := by
  rw [decBy_L, decBy_L] at h
  obtain ⟨h1, h2⟩ := span_inj _ _ _ _ (dec_digits a).1 (dec_digits b).1 e1 e2 h
  refine ⟨?_, h2⟩
  rw [← (dec_digits a).2.1, h1, (dec_digits b).2.1]

/-- Texts with blanks between them. -/
def joinL (f : Val → List UInt8) : Bool → List Val → List UInt8
  | _, [] => []
  | true, x :: r => f x ++ joinL f false r
  | false, x :: r => 32 :: (f x ++ joinL f false r)
def lOf (f : Val → ByteArray) (v : Val) : List UInt8 := (f v).data.toList
theorem joinT_L (f : Val → ByteArray) : ∀ (xs : List Val) (b : Bool) (acc : ByteArray), (joinT f b xs acc).data.toList = acc.data.toList ++ joinL (lOf f) b xs
  | [], b, acc => by cases b <;> simp [joinT, joinL]
  | x :: r, true, acc => by
    show (joinT f false r (acc ++ f x)).data.toList = _
    rw [joinT_L f r false (acc ++ f x), ByteArray.data_append, Array.toList_append, List.append_assoc]
    rfl
  | x :: r, false, acc => by
    show (joinT f false r ((acc ++ ⟨#[32]⟩) ++ f x)).data.toList = _
    rw [joinT_L f r false _, ByteArray.data_append, ByteArray.data_append, Array.toList_append, Array.toList_append]
    simp [joinL, lOf]
/-- The text of a value. -/
theorem textOf_L (f : Val → ByteArray) (v : Val) : lOf (textOf f) v =
    if (v.ty.toList == [110]) = true then (decBy v.n.toNat).data.toList
    else if (v.ty.toList == [98]) = true then (if v.n = 0 then [45] else [43])
    else if (v.ty.toList == [111]) = true then 64 :: (decBy v.n.toNat).data.toList
    else v.ty.data.toList ++ 40 :: (joinL (lOf f) true v.parts ++ [41]) := by
  unfold lOf textOf
  split
  · rfl
  · split
    · split <;> rfl
    · split
      · rw [ByteArray.data_append, Array.toList_append]; rfl
      · rw [ByteArray.data_append, Array.toList_append, joinT_L, ByteArray.data_append, Array.toList_append]
        show (_ ++ [40] ++ _) ++ [41] = _
        simp
        rfl

/-- Behind a number no digit comes. -/
def EndsFor (v : Val) (r : List UInt8) : Prop := (v.ty.toList == [110]) = true ∨ (v.ty.toList == [111]) = true → Ends r
theorem Ends.for_ {v : Val} {r : List UInt8} (h : Ends r) : EndsFor v r := fun _ => h

def InjT (g : Val → Bool) (f : Val → ByteArray) : Prop := ∀ (u v : Val) (r1 r2 : List UInt8), g u = true → g v = true → u.ty = v.ty → lOf f u ++ r1 = lOf f v ++ r2 → EndsFor u r1 → EndsFor v r2 → u = v ∧ r1 = r2

theorem joinL_ends {f : Val → List UInt8} (xs : List Val) (r : List UInt8) : Ends (joinL f false xs ++ 41 :: r) := by
  cases xs with
  | nil => exact Ends.cons (by decide)
  | cons x s => exact Ends.cons (by decide)
theorem parts_inj {g : Val → Bool} {f : Val → ByteArray} (h : InjT g f) : ∀ (us vs : List Val) (b : Bool) (r1 r2 : List UInt8), us.length = vs.length → (∀ j (hu : j < us.length) (hv : j < vs.length), us[j].ty = vs[j].ty) → (∀ x ∈ us, g x = true) → (∀ x ∈ vs, g x = true) →
    joinL (lOf f) b us ++ 41 :: r1 = joinL (lOf f) b vs ++ 41 :: r2 → us = vs ∧ r1 = r2
  | [], [], b, r1, r2, _, _, _, _, he => by
    cases b <;> exact ⟨rfl, by simpa [joinL] using he⟩
  | [], _ :: _, _, _, _, hl, _, _, _, _ => by cases hl
  | _ :: _, [], _, _, _, hl, _, _, _, _ => by cases hl
  | x :: us, y :: vs, b, r1, r2, hl, ht, hu, hv, he => by
    have he' : lOf f x ++ (joinL (lOf f) false us ++ 41 :: r1) = lOf f y ++ (joinL (lOf f) false vs ++ 41 :: r2) := by
      cases b
      · have : (32 : UInt8) :: (lOf f x ++ joinL (lOf f) false us) ++ 41 :: r1 = 32 :: (lOf f y ++ joinL (lOf f) false vs) ++ 41 :: r2 := he
        simpa [List.append_assoc] using this
      · have : (lOf f x ++ joinL (lOf f) false us) ++ 41 :: r1 = (lOf f y ++ joinL (lOf f) false vs) ++ 41 :: r2 := he
        simpa [List.append_assoc] using this
    obtain ⟨rfl, h2⟩ := h x y _ _ (hu x (by simp)) (hv y (by simp)) (ht 0 (by simp) (by simp)) he' (joinL_ends us r1).for_ (joinL_ends vs r2).for_
    obtain ⟨rfl, h3⟩ := parts_inj h us vs false r1 r2 (by simpa using hl) (fun j a b => ht (j + 1) (by simpa using a) (by simpa using b)) (fun z hz => hu z (by simp [hz])) (fun z hz => hv z (by simp [hz])) h2
    exact ⟨rfl, h3⟩

theorem okOf_plain {ks : Ks} {g : Val → Bool} {v : Val} (h : okOf ks g v = true) (c : (v.ty.toList == [110]) = true ∨ (v.ty.toList == [98]) = true ∨ (v.ty.toList == [111]) = true) : v.parts = [] ∧ v.path = [] := by
  have hp : plainV v = true := by
    unfold okOf at h
    split at h
    · simp only [Bool.and_eq_true] at h; exact h.1
    · split at h
      · simp only [Bool.and_eq_true] at h; exact h.1
      · split at h
        · simp only [Bool.and_eq_true] at h; exact h.1
        · rename_i h1 h2 h3
          rcases c with c | c | c
          · exact absurd c h1
          · exact absurd c h2
          · exact absurd c h3
  unfold plainV at hp
  simp only [Bool.and_eq_true, decide_eq_true_eq] at hp
  exact ⟨List.eq_nil_of_length_eq_zero hp.1, List.eq_nil_of_length_eq_zero hp.2⟩
theorem val_ext {u v : Val} (h1 : u.ty = v.ty) (h2 : u.n = v.n) (h3 : u.parts = v.parts) (h4 : u.path = v.path) : u = v := by
  cases u; cases v
  simp only [Val.ty, Val.n, Val.parts, Val.path] at h1 h2 h3 h4
  subst h1 h2 h3 h4
  rfl

theorem inj_of {ks : Ks} {g : Val → Bool} {f : Val → ByteArray} (h : InjT g f) : InjT (okOf ks g) (textOf f) := by
  intro u v r1 r2 hu hv ht he e1 e2
  rw [textOf_L, textOf_L] at he
  unfold EndsFor at e1 e2
  rw [← ht] at he e2
  by_cases c1 : (u.ty.toList == [110]) = true
  · rw [if_pos c1, if_pos c1] at he
    have c1' : (v.ty.toList == [110]) = true := by rw [← ht]; exact c1
    obtain ⟨a1, a2⟩ := okOf_num hu c1
    obtain ⟨b1, b2⟩ := okOf_num hv c1'
    obtain ⟨p1, p2⟩ := okOf_plain hu (.inl c1)
    obtain ⟨q1, q2⟩ := okOf_plain hv (.inl c1')
    obtain ⟨hn, hr⟩ := dec_inj (e1 (.inl c1)) (e2 (.inl c1)) he
    exact ⟨val_ext ht (by omega) (by rw [p1, q1]) (by rw [p2, q2]), hr⟩
  · rw [if_neg c1, if_neg c1] at he
    have c1f : (u.ty.toList == [110]) = false := by simpa using c1
    have c1f' : (v.ty.toList == [110]) = false := by rw [← ht]; exact c1f
    by_cases c2 : (u.ty.toList == [98]) = true
    · rw [if_pos c2, if_pos c2] at he
      have c2' : (v.ty.toList == [98]) = true := by rw [← ht]; exact c2
      obtain ⟨a1, a2⟩ := okOf_tru hu c1f c2
      obtain ⟨b1, b2⟩ := okOf_tru hv c1f' c2'
      obtain ⟨p1, p2⟩ := okOf_plain hu (.inr (.inl c2))
      obtain ⟨q1, q2⟩ := okOf_plain hv (.inr (.inl c2'))
      by_cases n1 : u.n = 0 <;> by_cases n2 : v.n = 0
      · rw [if_pos n1, if_pos n2] at he
        exact ⟨val_ext ht (by omega) (by rw [p1, q1]) (by rw [p2, q2]), by simpa using he⟩
      · rw [if_pos n1, if_neg n2] at he; simp at he
      · rw [if_neg n1, if_pos n2] at he; simp at he
      · rw [if_neg n1, if_neg n2] at he
        exact ⟨val_ext ht (by omega) (by rw [p1, q1]) (by rw [p2, q2]), by simpa using he⟩
    · rw [if_neg c2, if_neg c2] at he
      have c2f : (u.ty.toList == [98]) = false := by simpa using c2
      have c2f' : (v.ty.toList == [98]) = false := by rw [← ht]; exact c2f
      by_cases c3 : (u.ty.toList == [111]) = true
      · rw [if_pos c3, if_pos c3] at he
        have c3' : (v.ty.toList == [111]) = true := by rw [← ht]; exact c3
        obtain ⟨a1, a2⟩ := okOf_own hu c1f c2f c3
        obtain ⟨b1, b2⟩ := okOf_own hv c1f' c2f' c3'
        obtain ⟨p1, p2⟩ := okOf_plain hu (.inr (.inr c3))
        obtain ⟨q1, q2⟩ := okOf_plain hv (.inr (.inr c3'))
        simp only [List.cons_append, List.cons.injEq, true_and] at he
        obtain ⟨hn, hr⟩ := dec_inj (e1 (.inr c3)) (e2 (.inr c3)) he
        exact ⟨val_ext ht (by omega) (by rw [p1, q1]) (by rw [p2, q2]), hr⟩
      · rw [if_neg c3, if_neg c3] at he
        have c3f : (u.ty.toList == [111]) = false := by simpa using c3
        have c3f' : (v.ty.toList == [111]) = false := by rw [← ht]; exact c3f
        obtain ⟨m, k, hk, _, a3, a4, a5, _, a6, a7⟩ := okOf_parts hu c1f c2f c3f
        obtain ⟨m', k', hk', _, b3, b4, b5, _, b6, b7⟩ := okOf_parts hv c1f' c2f' c3f'
        rw [← ht, hk] at hk'
        simp only [Option.some.injEq, Prod.mk.injEq] at hk'
        obtain ⟨rfl, rfl⟩ := hk'
        have he2 : joinL (lOf f) true u.parts ++ 41 :: r1 = joinL (lOf f) true v.parts ++ 41 :: r2 := by
          simpa [List.append_assoc] using he
        obtain ⟨hp, hr⟩ := parts_inj h u.parts v.parts true r1 r2 (by omega) (fun j p q => ext_toList ((a6 j p (by omega)).1.trans (b6 j q (by omega)).1.symm)) a7 b7 he2
        exact ⟨val_ext ht (by omega) hp (by rw [List.eq_nil_of_length_eq_zero a4, List.eq_nil_of_length_eq_zero b4]), hr⟩
theorem text_inj (ks : Ks) : ∀ d, InjT (okV ks d) (textV d)
  | 0 => fun _ _ _ _ h => by cases h
  | d + 1 => inj_of (text_inj ks d)
end Go.Proofs.YthkdkefkgmmoiaaDoor
