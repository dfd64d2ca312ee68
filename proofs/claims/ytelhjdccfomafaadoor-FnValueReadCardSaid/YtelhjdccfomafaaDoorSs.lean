/- The model's reader: what is read is the value, if one is there. No walk. The model's reader: a record read part by part. No walk. -/
import Derived.Test.YtelhjdccfomafaaDoorSr
import Derived.Test.YtelhjdccfomafaaDoorRow
namespace Go.Proofs.YtelhjdccfomafaaDoor
open Go.RowKit

/-- If the text of a good value is here, that value was read, and nothing is bad. -/
def GoodM (ks : Ks) (s : ByteArray) (i i' : Nat) (bad : Bool) (v : Val) : Prop :=
  kindsOk ks = true → ∀ (D : Nat) (u : Val) (r : List UInt8), okV ks (D + 1) u = true → tl s i = lOf (textV (D + 1)) u ++ r → EndsFor u r → bad = false ∧ v = u ∧ tl s i' = r

theorem tl_take {s : ByteArray} {i : Nat} {a b : List UInt8} (h : tl s i = a ++ b) : tl s (i + a.length) = b ∧ i + a.length ≤ max i s.size := by
  constructor
  · show s.data.toList.drop (i + a.length) = b
    rw [← List.drop_drop]
    show (tl s i).drop a.length = b
    rw [h, List.drop_left]
  · have h1 : (tl s i).length = s.size - i := by simp [tl]
    rw [h, List.length_append] at h1
    omega

/-- What the first byte of a good value's text is. -/
theorem first_byte {ks : Ks} {D : Nat} {u : Val} (h : okV ks (D + 1) u = true) : ∃ c l, lOf (textV (D + 1)) u = c :: l ∧
    (((u.ty.toList == [110]) = true ∧ 48 ≤ c.toNat ∧ c.toNat ≤ 57 ∧ c :: l = Lib.decDigits u.n.toNat) ∨
     ((u.ty.toList == [98]) = true ∧ l = [] ∧ ((u.n = 0 ∧ c = 45) ∨ (u.n = 1 ∧ c = 43))) ∨
     ((u.ty.toList == [111]) = true ∧ c = 64 ∧ l = Lib.decDigits u.n.toNat) ∨
     ((u.ty.toList == [110]) = false ∧ (u.ty.toList == [98]) = false ∧ (u.ty.toList == [111]) = false ∧ c.toNat = 83)) := by
  have hu : okOf ks (okV ks D) u = true := h
  rw [show textV (D + 1) = textOf (textV D) from rfl, textOf_L]
  cases c1 : (u.ty.toList == [110])
  · cases c2 : (u.ty.toList == [98])
    · cases c3 : (u.ty.toList == [111])
      · obtain ⟨m, k, hk, hh, _⟩ := okOf_parts hu c1 c2 c3
        have h3 := kindOf_three hk
        have hb : (u.ty[0]'(by omega)).toNat = 83 := by
          unfold kindOf at hk
          rw [dif_pos h3] at hk
          split at hk
          · rename_i hc; exact hc.1
          · cases hk
        have he : u.ty.data.toList = u.ty[0]'(by omega) :: u.ty.data.toList.drop 1 := by
          have := tl_cons (s := u.ty) (i := 0) (by omega)
          simpa [tl] using this
        rw [if_neg Bool.false_ne_true, if_neg Bool.false_ne_true, if_neg Bool.false_ne_true, he, List.cons_append]
        exact ⟨_, _, rfl, .inr (.inr (.inr ⟨rfl, rfl, rfl, hb⟩))⟩
      · rw [if_neg Bool.false_ne_true, if_neg Bool.false_ne_true, if_pos rfl, decBy_L]
        exact ⟨_, _, rfl, .inr (.inr (.inl ⟨rfl, rfl, rfl⟩))⟩
    · rw [if_neg Bool.false_ne_true, if_pos rfl]
      obtain ⟨a1, a2⟩ := okOf_tru hu c1 c2
      by_cases h0 : u.n = 0
      · rw [if_pos h0]
        exact ⟨_, _, rfl, .inr (.inl ⟨rfl, rfl, .inl ⟨h0, rfl⟩⟩)⟩
      · rw [if_neg h0]
        exact ⟨_, _, rfl, .inr (.inl ⟨rfl, rfl, .inr ⟨by omega, rfl⟩⟩)⟩
  · rw [if_pos rfl, decBy_L]
    obtain ⟨c, l, e, h1, h2⟩ := dec_first u.n.toNat
    rw [e]
    exact ⟨_, _, rfl, .inl ⟨rfl, h1, h2, rfl⟩⟩
theorem atB_head {s : ByteArray} {i : Nat} {c : UInt8} {r : List UInt8} (h : tl s i = c :: r) : atB s i = c.toNat := by
  have hs : i < s.size := by
    rcases Nat.lt_or_ge i s.size with h0 | h0
    · exact h0
    · rw [tl_end h0] at h; cases h
  rw [tl_cons hs] at h
  simp only [List.cons.injEq] at h
  unfold atB
  rw [dif_pos hs, h.1]

theorem val_eq {u v : Val} (h1 : u.ty = v.ty) (h2 : u.n = v.n) (h3 : u.parts = v.parts) (h4 : u.path = v.path) : u = v := by
  cases u; cases v; simp only [Val.ty, Val.n, Val.parts, Val.path] at h1 h2 h3 h4; subst h1 h2 h3 h4; rfl
theorem nil_of {α : Type} {l : List α} (h : l.length = 0) : l = [] := List.eq_nil_of_length_eq_zero h

/-- What of a good value that is no record is empty. -/
theorem base_plain {ks : Ks} {g : Val → Bool} {u : Val} (h : okOf ks g u = true) (c : (u.ty.toList == [110]) = true ∨ (u.ty.toList == [98]) = true ∨ (u.ty.toList == [111]) = true) : u.parts = [] ∧ u.path = [] := by
  unfold okOf at h
  have hp : plainV u = true → u.parts = [] ∧ u.path = [] := fun hp => by
    unfold plainV at hp
    simp only [Bool.and_eq_true, decide_eq_true_eq] at hp
    exact ⟨nil_of hp.1, nil_of hp.2⟩
  split at h
  · simp only [Bool.and_eq_true] at h; exact hp h.1
  · split at h
    · simp only [Bool.and_eq_true] at h; exact hp h.1
    · split at h
      · simp only [Bool.and_eq_true] at h; exact hp h.1
      · rename_i k1 k2 k3
        rcases c with c | c | c
        · exact absurd c k1
        · exact absurd c k2
        · exact absurd c k3

/-- A truth read. -/
theorem good_truth {ks : Ks} {s : ByteArray} {i b : Nat} {n : Int} (hb : (b = 45 ∧ n = 0) ∨ (b = 43 ∧ n = 1)) (h : atB s i = b) : GoodM ks s i (i + 1) false (truV n) := by
  intro _ D u r hu ht _
  obtain ⟨c, l, e, hc⟩ := first_byte hu
  have hu' : okOf ks (okV ks D) u = true := hu
  have ht' := ht
  rw [e, List.cons_append] at ht
  have ha := atB_head ht
  rcases hc with ⟨_, h1, h2, _⟩ | ⟨hty, hl, h1⟩ | ⟨_, h1, _⟩ | ⟨_, _, _, h1⟩
  · rcases hb with ⟨rfl, _⟩ | ⟨rfl, _⟩ <;> omega
  · obtain ⟨p1, p2⟩ := base_plain hu' (.inr (.inl hty))
    have hn : n = u.n := by
      rcases h1 with ⟨h1, rfl⟩ | ⟨h1, rfl⟩ <;> rcases hb with ⟨rfl, h2⟩ | ⟨rfl, h2⟩ <;> first | omega | (rw [h] at ha; cases ha)
    refine ⟨rfl, val_eq (ext_toList (by rw [beq_iff_eq] at hty; rw [hty]; exact bT_list)) hn p1.symm p2.symm, ?_⟩
    have := (tl_take ht').1
    rw [e, hl] at this
    exact this
  · subst h1; rcases hb with ⟨rfl, _⟩ | ⟨rfl, _⟩ <;> (rw [h] at ha; cases ha)
  · rcases hb with ⟨rfl, _⟩ | ⟨rfl, _⟩ <;> omega

theorem dec_len_pow : ∀ (k n : Nat), n < 10 ^ (k + 1) → (Lib.decDigits n).length ≤ k + 1
  | 0, n, h => by rw [Lib.decDigits_one (by simpa using h)]; simp
  | k + 1, n, h => by
    by_cases h1 : n < 10
    · rw [Lib.decDigits_one h1]; simp
    · rw [Lib.decDigits, dif_neg h1, List.length_append]
      have := dec_len_pow k (n / 10) (by rw [Nat.pow_succ] at h; omega)
      simp
      omega
theorem dec_len_seven {m : Nat} (h : m ≤ 1000000) : (Lib.decDigits m).length ≤ 7 := dec_len_pow 6 m (by omega)
/-- The digits that are read are the whole numeral. -/
theorem digits_all {s : ByteArray} {i p m : Nat} {r : List UInt8} (hp : i ≤ p) (hps : p ≤ s.size) (hd : DigAt s i (p - i)) (he : p = i + 8 ∨ ¬ digP s p) (ht : tl s i = Lib.decDigits m ++ r) (hr : Ends r) (hm : m ≤ 1000000) :
    tl s p = r ∧ numAt s i p = m ∧ (decide (p = i) || (decide (1 < p - i) && decide (atB s i = 48))) = false := by
  obtain ⟨d1, d2, d3⟩ := dec_digits m
  have hl7 : (Lib.decDigits m).length ≤ 7 := dec_len_seven hm
  have hl0 : 0 < (Lib.decDigits m).length := List.length_pos_iff.2 d3
  have hat : ∀ j, j < (Lib.decDigits m).length → digP s (i + j) := fun j hj => by
    have h1 : tl s (i + j) = (Lib.decDigits m)[j] :: ((Lib.decDigits m).drop (j + 1) ++ r) := by
      show s.data.toList.drop (i + j) = _
      rw [← List.drop_drop]
      show (tl s i).drop j = _
      rw [ht, List.drop_append_of_le_length (by omega), drop_cons hj, List.cons_append]
    have h2 := atB_head h1
    have h3 := d1 _ (List.getElem_mem hj)
    unfold digP
    rw [h2]
    exact h3
  have hend : ¬ digP s (i + (Lib.decDigits m).length) := fun h => by
    have h1 := (tl_take ht).1
    have h2 := digP_lt h
    rw [tl_cons h2] at h1
    exact hr _ _ h1.symm (digit_dig h2 h)
  have hk : p - i = (Lib.decDigits m).length := by
    rcases Nat.lt_trichotomy (p - i) (Lib.decDigits m).length with h | h | h
    · exfalso
      rcases he with h8 | hn
      · omega
      · exact hn (by have := hat (p - i) h; rwa [show i + (p - i) = p by omega] at this)
    · exact h
    · exact absurd (hd _ h) hend
  have hpp : p = i + (Lib.decDigits m).length := by omega
  have htk : (tl s i).take (p - i) = Lib.decDigits m := by rw [hk, ht, List.take_left]
  refine ⟨by rw [hpp]; exact (tl_take ht).1, by unfold numAt; rw [htk, d2], ?_⟩
  rw [decide_eq_false (show ¬ p = i by omega), Bool.false_or]
  by_cases h1 : 1 < p - i
  · rw [decide_eq_true h1, Bool.true_and, decide_eq_false_iff_not]
    intro h48
    cases hD : Lib.decDigits m with
    | nil => exact d3 hD
    | cons c l =>
      rw [hD, List.cons_append] at ht
      have hc := atB_head ht
      have h0 : m = 0 := dec_head m (by rw [hD]; show some c = some 48; congr 1; apply UInt8.toNat_inj.1; rw [← hc, h48]; rfl)
      subst h0
      rw [Lib.decDigits_one (by decide)] at hk
      simp at hk
      omega
  · rw [decide_eq_false h1, Bool.false_and]
/-- A number read. -/
theorem good_number {ks : Ks} {s : ByteArray} {i p : Nat} (hp : i ≤ p) (hps : p ≤ s.size) (hd : DigAt s i (p - i)) (he : p = i + 8 ∨ ¬ digP s p) (h45 : atB s i ≠ 45) (h43 : atB s i ≠ 43) (h64 : atB s i ≠ 64) (h83 : atB s i ≠ 83) :
    GoodM ks s i p (decide (p = i) || (decide (1 < p - i) && decide (atB s i = 48))) (numV ⟨#[110]⟩ (numAt s i p)) := by
  intro _ D u r hu ht hE
  obtain ⟨c, l, e, hc⟩ := first_byte hu
  have hu' : okOf ks (okV ks D) u = true := hu
  have ht' := ht
  rw [e, List.cons_append] at ht
  have ha := atB_head ht
  rcases hc with ⟨hty, h1, h2, h3⟩ | ⟨hty, hl, h1⟩ | ⟨_, h1, _⟩ | ⟨_, _, _, h1⟩
  · obtain ⟨p1, p2⟩ := base_plain hu' (.inl hty)
    obtain ⟨n0, n1⟩ := okOf_num hu' hty
    rw [e, h3] at ht'
    obtain ⟨q1, q2, q3⟩ := digits_all hp hps hd he ht' (hE (.inl hty)) (by omega)
    refine ⟨q3, val_eq (ext_toList (by rw [beq_iff_eq] at hty; rw [hty, toList_data]; rfl)) (by rw [q2]; show ((u.n.toNat : Nat) : Int) = u.n; omega) p1.symm p2.symm, q1⟩
  · rcases h1 with ⟨_, rfl⟩ | ⟨_, rfl⟩ <;> (rw [ha] at h45 h43; first | exact absurd rfl h45 | exact absurd rfl h43)
  · subst h1; rw [ha] at h64; exact absurd rfl h64
  · omega
/-- An owner read. -/
theorem good_owner {ks : Ks} {s : ByteArray} {i p : Nat} (h64 : atB s i = 64) (hp : i + 1 ≤ p) (hps : p ≤ s.size) (hd : DigAt s (i + 1) (p - (i + 1))) (he : p = i + 1 + 8 ∨ ¬ digP s p) :
    GoodM ks s i p (decide (p = i + 1) || (decide (1 < p - (i + 1)) && decide (atB s (i + 1) = 48))) (numV ⟨#[111]⟩ (numAt s (i + 1) p)) := by
  intro _ D u r hu ht hE
  obtain ⟨c, l, e, hc⟩ := first_byte hu
  have hu' : okOf ks (okV ks D) u = true := hu
  have ht' := ht
  rw [e, List.cons_append] at ht
  have ha := atB_head ht
  rcases hc with ⟨hty, h1, h2, h3⟩ | ⟨hty, hl, h1⟩ | ⟨hty, h1, h3⟩ | ⟨_, _, _, h1⟩
  · omega
  · rcases h1 with ⟨_, rfl⟩ | ⟨_, rfl⟩ <;> (rw [h64] at ha; cases ha)
  · obtain ⟨p1, p2⟩ := base_plain hu' (.inr (.inr hty))
    have c1 : (u.ty.toList == [110]) = false := by rw [beq_iff_eq] at hty; rw [hty]; rfl
    have c2 : (u.ty.toList == [98]) = false := by rw [beq_iff_eq] at hty; rw [hty]; rfl
    obtain ⟨n0, n1⟩ := okOf_own hu' c1 c2 hty
    have ht2 : tl s (i + 1) = Lib.decDigits u.n.toNat ++ r := by
      have := (tl_take (a := [c]) (b := l ++ r) (s := s) (i := i) (by rw [ht]; rfl)).1
      rw [h3] at this
      exact this
    obtain ⟨q1, q2, q3⟩ := digits_all hp hps hd he ht2 (hE (.inr hty)) (by omega)
    refine ⟨q3, val_eq (ext_toList (by rw [beq_iff_eq] at hty; rw [hty, toList_data]; rfl)) (by rw [q2]; show ((u.n.toNat : Nat) : Int) = u.n; omega) p1.symm p2.symm, q1⟩
  · omega
end Go.Proofs.YtelhjdccfomafaaDoor

namespace Go.Proofs.YtelhjdccfomafaaDoor
open Go.RowKit

/-- What is known when some parts have been read. -/
def RowM (ks : Ks) (s : ByteArray) (i ij : Nat) (bad : Bool) (ty : ByteArray) (done : List Val) : Prop :=
  kindsOk ks = true → ∀ (D : Nat) (u : Val) (r : List UInt8), okV ks (D + 1) u = true → tl s i = lOf (textV (D + 1)) u ++ r → bad = false ∧ u.ty = ty ∧ u.n = 0 ∧ u.path = [] ∧ u.parts.length ≤ 3 ∧ (∀ x ∈ u.parts, okV ks D x = true) ∧ u.parts.take done.length = done ∧
    tl s ij = joinL (lOf (textV D)) (decide (done = [])) (u.parts.drop done.length) ++ 41 :: r

section
variable {ks : Ks} {s ty : ByteArray} {i ij i1 i2 : Nat} {bad : Bool} {done : List Val} {v : Val}
/-- The text of a record that begins here. -/
theorem row_text (h83 : atB s i = 83) (hok : kindsOk ks = true) {D : Nat} {u : Val} {r : List UInt8} (hu : okV ks (D + 1) u = true) (ht : tl s i = lOf (textV (D + 1)) u ++ r) :
    u.ty = s.extract i (i + 3) ∧ tl s (i + 3) = 40 :: (joinL (lOf (textV D)) true u.parts ++ 41 :: r) ∧ u.n = 0 ∧ u.path = [] ∧ u.parts.length ≤ 3 ∧ ∀ x ∈ u.parts, okV ks D x = true := by
  obtain ⟨c, l, e, hc⟩ := first_byte hu
  have hu' : okOf ks (okV ks D) u = true := hu
  have ht' := ht
  rw [e, List.cons_append] at ht
  have ha := atB_head ht
  rcases hc with ⟨_, h1, h2, _⟩ | ⟨_, _, h1⟩ | ⟨_, h1, _⟩ | ⟨c1, c2, c3, _⟩
  · omega
  · rcases h1 with ⟨_, rfl⟩ | ⟨_, rfl⟩ <;> (rw [h83] at ha; cases ha)
  · subst h1; rw [h83] at ha; cases ha
  · obtain ⟨m, k, hk, hh, a3, a4, a5, _, _, a7⟩ := okOf_parts hu' c1 c2 c3
    have h3 := kindOf_three hk
    have hl3 : u.ty.data.toList.length = 3 := by simpa using h3
    have e2 : lOf (textV (D + 1)) u = u.ty.data.toList ++ 40 :: (joinL (lOf (textV D)) true u.parts ++ [41]) := rec_text hk (f := textV D) rfl
    rw [e2, List.append_assoc] at ht'
    have hr := (tl_take ht').1
    rw [hl3] at hr
    refine ⟨?_, by rw [hr]; simp, a3, nil_of a4, by rw [a5]; exact rec_few hok hh, a7⟩
    apply ext_toList
    rw [toList_data, toList_data]
    have : (tl s i).take 3 = u.ty.data.toList := by rw [ht', List.take_append_of_le_length (by omega), List.take_of_length_le (by omega)]
    rw [← this]
    simp [tl, ByteArray.data_extract, Array.toList_extract, List.extract_eq_take_drop]
theorem row_start (h83 : atB s i = 83) : RowM ks s i (i + 4) false (s.extract i (i + 3)) [] := by
  intro hok D u r hu ht
  obtain ⟨a1, a2, a3, a4, a5, a6⟩ := row_text h83 hok hu ht
  refine ⟨rfl, a1, a3, a4, a5, a6, rfl, ?_⟩
  have := (tl_take (a := [40]) (b := joinL (lOf (textV D)) true u.parts ++ 41 :: r) (s := s) (i := i + 3) (by rw [a2]; rfl)).1
  exact this
theorem row_none (h83 : atB s i = 83) (h40 : atB s (i + 3) ≠ 40) : RowM ks s i ij true ty done := by
  intro hok D u r hu ht
  obtain ⟨_, a2, _⟩ := row_text h83 hok hu ht
  exact absurd (atB_head a2) h40
theorem row_close (h : RowM ks s i ij false ty done) (h41 : atB s ij = 41) : GoodM ks s i (ij + 1) false (.mk ty 0 done []) := by
  intro hok D u r hu ht _
  obtain ⟨_, a1, a2, a3, a4, a5, a6, a7⟩ := h hok D u r hu ht
  cases hd : u.parts.drop done.length with
  | nil =>
    have hp : u.parts = done := by
      rw [← List.take_append_drop done.length u.parts, hd, List.append_nil, a6]
    refine ⟨rfl, val_eq a1.symm a2.symm hp.symm a3.symm, ?_⟩
    rw [hd] at a7
    have e : tl s ij = [41] ++ r := by rw [a7]; cases (decide (done = [])) <;> rfl
    exact (tl_take e).1
  | cons x rest =>
    exfalso
    have hx : okV ks D x = true := a5 x (List.mem_of_mem_drop (by rw [hd]; simp))
    cases D with
    | zero => cases hx
    | succ D =>
      obtain ⟨c, l, e, hc⟩ := first_byte hx
      rw [hd] at a7
      cases hdn : decide (done = []) with
      | true =>
        rw [hdn] at a7
        have a8 : tl s ij = c :: (l ++ joinL (lOf (textV (D + 1))) false rest ++ 41 :: r) := by rw [a7]; simp [joinL, e]
        have := atB_head a8
        rcases hc with ⟨_, h1, h2, _⟩ | ⟨_, _, h1⟩ | ⟨_, h1, _⟩ | ⟨_, _, _, h1⟩
        · omega
        · rcases h1 with ⟨_, rfl⟩ | ⟨_, rfl⟩ <;> (rw [h41] at this; cases this)
        · subst h1; rw [h41] at this; cases this
        · omega
      | false =>
        rw [hdn] at a7
        have := atB_head a7
        rw [h41] at this
        cases this
theorem row_lost (h : RowM ks s i ij true ty done) : GoodM ks s i i1 true v := fun hok D u r hu ht _ => by
  obtain ⟨a, _⟩ := h hok D u r hu ht
  cases a
/-- There is one more part. -/
theorem row_more (h : RowM ks s i ij false ty done) (h41 : atB s ij ≠ 41) (hok : kindsOk ks = true) {D : Nat} {u : Val} {r : List UInt8} (hu : okV ks (D + 1) u = true) (ht : tl s i = lOf (textV (D + 1)) u ++ r) :
    ∃ x rest, u.parts = done ++ x :: rest ∧ u.ty = ty ∧ u.n = 0 ∧ u.path = [] ∧ u.parts.length ≤ 3 ∧ (∀ y ∈ u.parts, okV ks D y = true) ∧ tl s ij = (if done = [] then [] else [32]) ++ (lOf (textV D) x ++ (joinL (lOf (textV D)) false rest ++ 41 :: r)) := by
  obtain ⟨_, a1, a2, a3, a4, a5, a6, a7⟩ := h hok D u r hu ht
  cases hd : u.parts.drop done.length with
  | nil =>
    exfalso
    rw [hd] at a7
    have e : tl s ij = 41 :: r := by rw [a7]; cases (decide (done = [])) <;> rfl
    exact h41 (atB_head e)
  | cons x rest =>
    refine ⟨x, rest, (List.take_append_drop done.length u.parts).symm.trans (by rw [hd, a6]), a1, a2, a3, a4, a5, ?_⟩
    rw [a7, hd]
    by_cases h0 : done = []
    · rw [if_pos h0, decide_eq_true h0]; simp [joinL]
    · rw [if_neg h0, decide_eq_false h0]; simp [joinL]
theorem row_blank (h : RowM ks s i ij false ty done) (h41 : atB s ij ≠ 41) (h0 : done ≠ []) (h32 : atB s ij ≠ 32) : RowM ks s i i1 true ty done := by
  intro hok D u r hu ht
  obtain ⟨x, rest, _, _, _, _, _, _, e⟩ := row_more h h41 hok hu ht
  rw [if_neg h0] at e
  exact absurd (atB_head e) h32
theorem row_many (h : RowM ks s i ij false ty done) (h41 : atB s ij ≠ 41) (h3 : 3 < done.length) : RowM ks s i i1 true ty done := by
  intro hok D u r hu ht
  obtain ⟨x, rest, e1, _, _, _, e2, _, _⟩ := row_more h h41 hok hu ht
  rw [e1] at e2
  simp at e2
  omega
theorem row_step (h : RowM ks s i ij false ty done) (h41 : atB s ij ≠ 41) (h1 : (done = [] ∧ i1 = ij) ∨ (done ≠ [] ∧ atB s ij = 32 ∧ i1 = ij + 1)) (hg : GoodM ks s i1 i2 bad v) : RowM ks s i i2 bad ty (done ++ [v]) := by
  intro hok D u r hu ht
  obtain ⟨x, rest, e1, b1, b2, b3, b4, b5, e⟩ := row_more h h41 hok hu ht
  have hx : okV ks D x = true := b5 x (by rw [e1]; simp)
  cases D with
  | zero => cases hx
  | succ D =>
    have e2 : tl s i1 = lOf (textV (D + 1)) x ++ (joinL (lOf (textV (D + 1))) false rest ++ 41 :: r) := by
      rcases h1 with ⟨h0, rfl⟩ | ⟨h0, _, rfl⟩
      · rw [if_pos h0] at e; exact e
      · rw [if_neg h0] at e; exact (tl_take e).1
    obtain ⟨g1, g2, g3⟩ := hg hok D x _ hx e2 (joinL_ends _ _).for_
    subst g2
    refine ⟨g1, b1, b2, b3, b4, b5, ?_, ?_⟩
    · rw [e1, show done ++ v :: rest = (done ++ [v]) ++ rest by simp, List.take_left]
    · rw [g3, e1, decide_eq_false (by simp)]
      simp
end
end Go.Proofs.YtelhjdccfomafaaDoor
