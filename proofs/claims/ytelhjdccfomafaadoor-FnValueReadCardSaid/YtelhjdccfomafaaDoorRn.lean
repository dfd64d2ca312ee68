/- A record's text, read part by part. No walk. Numbers as answers of the reader; a good value at a greater depth. No walk. The program's reader of values: a value, its records given. -/
import Derived.Test.YtelhjdccfomafaaDoorRi
import Derived.Test.YtelhjdccfomafaaDoorRk
namespace Go.Proofs.YtelhjdccfomafaaDoor
open Go.RowKit

theorem joinL_snoc (f : Val → List UInt8) : ∀ (xs : List Val) (b : Bool) (x : Val), joinL f b (xs ++ [x]) = joinL f b xs ++ ((if xs = [] ∧ b = true then [] else [32]) ++ f x)
  | [], true, x => by simp [joinL]
  | [], false, x => by simp [joinL]
  | y :: r, true, x => by
    show f y ++ joinL f false (r ++ [x]) = _
    rw [joinL_snoc f r false x]
    simp [joinL]
  | y :: r, false, x => by
    show 32 :: (f y ++ joinL f false (r ++ [x])) = _
    rw [joinL_snoc f r false x]
    simp [joinL]

/-- What is known when j parts have been read. -/
structure RecAt (ks : Ks) (d : Nat) (s : ByteArray) (i : Nat) (t : ByteArray) (fields : List ByteArray) (j : Nat) (done : List Val) (ij : Nat) : Prop where
  len : done.length = j
  ok : ∀ x ∈ done, okV ks d x = true
  ty : ∀ k (hk : k < done.length) (hf : k < fields.length), done[k].ty = fields[k]
  text : tl s i = t.data.toList ++ 40 :: (joinL (lOf (textV d)) true done ++ tl s ij)
  cand : ∀ u r, okV ks (d + 1) u = true → u.ty = t → tl s i = lOf (textV (d + 1)) u ++ r → u.parts.take j = done ∧ tl s ij = joinL (lOf (textV d)) (decide (j = 0)) (u.parts.drop j) ++ 41 :: r

section
variable {ks : Ks} {d i j ij m k : Nat} {s t : ByteArray} {done : List Val}
theorem rec_types (hk : kindOf t = some (m, k)) : (t.toList == [110]) = false ∧ (t.toList == [98]) = false ∧ (t.toList == [111]) = false := by
  have hb : baseB t = false := by
    cases hb : baseB t with
    | false => rfl
    | true => rw [kindOf_base hb] at hk; cases hk
  unfold baseB at hb
  simp only [Bool.or_eq_false_iff] at hb
  exact ⟨hb.1.1, hb.1.2, hb.2⟩
theorem rec_text (hk : kindOf t = some (m, k)) {f : Val → ByteArray} {u : Val} (ht : u.ty = t) : lOf (textOf f) u = t.data.toList ++ 40 :: (joinL (lOf f) true u.parts ++ [41]) := by
  obtain ⟨c1, c2, c3⟩ := rec_types hk
  rw [textOf_L, ht, c1, c2, c3]
  rfl
theorem rec_parts (hk : kindOf t = some (m, k)) {g : Val → Bool} {u : Val} (hu : okOf ks g u = true) (ht : u.ty = t) : u.n = 0 ∧ u.path = [] ∧ u.parts.length = (recAt ks m k).fields.length ∧ (∀ x ∈ u.parts, g x = true) ∧ ∀ j (hj : j < u.parts.length) (hf : j < (recAt ks m k).fields.length), u.parts[j].ty = (recAt ks m k).fields[j] := by
  obtain ⟨c1, c2, c3⟩ := rec_types hk
  rw [← ht] at c1 c2 c3
  obtain ⟨m', k', hk', _, a3, a4, a5, _, a6, a7⟩ := okOf_parts hu c1 c2 c3
  rw [ht, hk] at hk'
  simp only [Option.some.injEq, Prod.mk.injEq] at hk'
  obtain ⟨rfl, rfl⟩ := hk'
  exact ⟨a3, List.eq_nil_of_length_eq_zero a4, a5, a7, fun j hj hf => ext_toList (a6 j hj hf).1⟩
theorem RecAt.start {i1 : Nat} (hk : kindOf t = some (m, k)) (h : tl s i = t.data.toList ++ 40 :: tl s i1) : RecAt ks d s i t (recAt ks m k).fields 0 [] i1 := by
  refine ⟨rfl, fun _ h => by simp at h, fun _ h => by simp at h, by simpa [joinL] using h, fun u r hu ht he => ⟨rfl, ?_⟩⟩
  have e := rec_text hk (f := textV d) ht
  have e2 : lOf (textV (d + 1)) u = t.data.toList ++ 40 :: (joinL (lOf (textV d)) true u.parts ++ [41]) := e
  rw [e2, h] at he
  have h3 : t.data.toList ++ 40 :: tl s i1 = t.data.toList ++ (40 :: (joinL (lOf (textV d)) true u.parts ++ 41 :: r)) := by rw [he]; simp
  have h4 := List.append_cancel_left h3
  simpa using h4
theorem RecAt.part (h : RecAt ks d s i t (recAt ks m k).fields j done ij) (hk : kindOf t = some (m, k)) (hj : j < (recAt ks m k).fields.length) {u : Val} {r : List UInt8} (hu : okV ks (d + 1) u = true) (ht : u.ty = t) (he : tl s i = lOf (textV (d + 1)) u ++ r) :
    ∃ hju : j < u.parts.length, okV ks d u.parts[j] = true ∧ u.parts[j].ty = (recAt ks m k).fields[j] ∧ u.parts.take j = done ∧ tl s ij = (if j = 0 then [] else [32]) ++ (lOf (textV d) u.parts[j] ++ (joinL (lOf (textV d)) false (u.parts.drop (j + 1)) ++ 41 :: r)) := by
  obtain ⟨_, _, p1, p2, p3⟩ := rec_parts hk (show okOf ks (okV ks d) u = true from hu) ht
  have hju : j < u.parts.length := by omega
  obtain ⟨c1, c2⟩ := h.cand u r hu ht he
  refine ⟨hju, p2 _ (List.getElem_mem hju), p3 j hju hj, c1, ?_⟩
  rw [c2, drop_cons hju]
  by_cases h0 : j = 0
  · rw [if_pos h0, decide_eq_true h0]; simp [joinL]
  · rw [if_neg h0, decide_eq_false h0]; simp [joinL]
/-- No blank where one must be. -/
theorem RecAt.blank_miss (h : RecAt ks d s i t (recAt ks m k).fields j done ij) (hk : kindOf t = some (m, k)) (hj : j < (recAt ks m k).fields.length) (h0 : j ≠ 0) (hm : atB s ij ≠ 32) : ¬ Cand ks d t (tl s i) := by
  rintro ⟨u, r, hu, ht, he, _⟩
  obtain ⟨_, _, _, _, e⟩ := h.part hk hj hu ht he
  rw [if_neg h0] at e
  exact atB_miss (by decide) hm _ e
/-- No part where one must be. -/
theorem RecAt.val_miss {i1 : Nat} {d : Nat} (h : RecAt ks (d + 1) s i t (recAt ks m k).fields j done ij) (hk : kindOf t = some (m, k)) (hj : j < (recAt ks m k).fields.length) (h1 : tl s ij = (if j = 0 then [] else [32]) ++ tl s i1) (hm : ¬ Cand ks d (recAt ks m k).fields[j] (tl s i1)) : ¬ Cand ks (d + 1) t (tl s i) := by
  rintro ⟨u, r, hu, ht, he, _⟩
  obtain ⟨hju, a1, a2, _, e⟩ := h.part hk hj hu ht he
  rw [h1] at e
  have e2 := List.append_cancel_left e
  exact hm ⟨u.parts[j], _, a1, a2, e2, (joinL_ends _ _).for_⟩
/-- A part read. -/
theorem RecAt.step {i1 i2 : Nat} {x : Val} (h : RecAt ks d s i t (recAt ks m k).fields j done ij) (hk : kindOf t = some (m, k)) (hj : j < (recAt ks m k).fields.length) (h1 : tl s ij = (if j = 0 then [] else [32]) ++ tl s i1)
    (hx : okV ks d x = true) (hxt : x.ty = (recAt ks m k).fields[j]) (h2 : tl s i1 = lOf (textV d) x ++ tl s i2) (hE : EndsFor x (tl s i2)) : RecAt ks d s i t (recAt ks m k).fields (j + 1) (done ++ [x]) i2 := by
  have hl := h.len
  refine ⟨by simp [hl], fun y hy => ?_, fun k' hk' hf => ?_, ?_, fun u r hu ht he => ?_⟩
  · rcases List.mem_append.1 hy with hy | hy
    · exact h.ok y hy
    · obtain rfl := List.mem_singleton.1 hy; exact hx
  · by_cases hkj : k' < done.length
    · rw [List.getElem_append_left hkj]; exact h.ty k' hkj hf
    · have : k' = j := by simp at hk'; omega
      subst this
      rw [List.getElem_append_right (by omega)]
      simp [hl, hxt]
  · rw [h.text, h1, h2, joinL_snoc]
    have e : (if done = [] ∧ true = true then ([] : List UInt8) else [32]) = if j = 0 then [] else [32] := by
      have : done = [] ↔ j = 0 := by rw [← hl]; exact List.length_eq_zero_iff.symm
      simp [this]
    rw [e]
    simp
  · obtain ⟨hju, a1, a2, a3, e⟩ := h.part hk hj hu ht he
    rw [h1, h2] at e
    have e2 := List.append_cancel_left e
    obtain ⟨rfl, e3⟩ := text_inj ks d x u.parts[j] _ _ hx a1 (hxt.trans a2.symm) e2 hE (joinL_ends _ _).for_
    refine ⟨?_, by rw [e3, decide_eq_false (by omega)]⟩
    rw [List.take_add_one, List.getElem?_eq_getElem hju, a3]
    rfl
/-- All parts read, and closed. -/
theorem RecAt.close {i2 : Nat} (h : RecAt ks d s i t (recAt ks m k).fields j done ij) (hk : kindOf t = some (m, k)) (hh : hasB ks m k = true) (hj : j = (recAt ks m k).fields.length) (h1 : tl s ij = 41 :: tl s i2) :
    okV ks (d + 1) (.mk t 0 done []) = true ∧ tl s i = lOf (textV (d + 1)) (.mk t 0 done []) ++ tl s i2 := by
  constructor
  · show okOf ks (okV ks d) (.mk t 0 done []) = true
    obtain ⟨c1, c2, c3⟩ := rec_types hk
    unfold okOf
    rw [show (Val.mk t 0 done []).ty = t from rfl, c1, c2, c3, hk]
    simp only [Bool.false_eq_true, if_false, Bool.and_eq_true, decide_eq_true_eq, List.all_eq_true]
    refine ⟨⟨⟨⟨hh, rfl⟩, rfl⟩, ?_⟩, fun x hx => ?_⟩
    · show done.length = _
      rw [h.len, hj]
    · obtain ⟨k', hk', rfl⟩ := List.mem_iff_getElem.1 hx
      have hk2 : k' < (done.zip (recAt ks m k).fields).length := hk'
      rw [List.length_zip] at hk2
      have e : ((Val.mk t 0 done []).parts.zip (recAt ks m k).fields)[k']'hk' = (done[k']'(by omega), (recAt ks m k).fields[k']'(by omega)) := List.getElem_zip
      rw [e]
      exact ⟨by rw [h.ty k' (by omega) (by omega)]; exact beq_self_eq_true _, h.ok _ (List.getElem_mem _)⟩
  · have e : lOf (textV (d + 1)) (.mk t 0 done []) = t.data.toList ++ 40 :: (joinL (lOf (textV d)) true done ++ [41]) := rec_text hk (f := textV d) rfl
    rw [e, h.text, h1]
    simp
theorem RecAt.close_miss (h : RecAt ks d s i t (recAt ks m k).fields j done ij) (hk : kindOf t = some (m, k)) (hj : j = (recAt ks m k).fields.length) (hm : atB s ij ≠ 41) : ¬ Cand ks d t (tl s i) := by
  rintro ⟨u, r, hu, ht, he, _⟩
  obtain ⟨_, _, p1, _, _⟩ := rec_parts hk (show okOf ks (okV ks d) u = true from hu) ht
  obtain ⟨_, c2⟩ := h.cand u r hu ht he
  rw [hj, ← p1, List.drop_length] at c2
  have : tl s ij = 41 :: r := by rw [c2]; cases (decide (u.parts.length = 0)) <;> rfl
  exact atB_miss (by decide) hm _ this
end
end Go.Proofs.YtelhjdccfomafaaDoor

namespace Go.Proofs.YtelhjdccfomafaaDoor
open Go.RowKit

/-- A number's value. -/
def numV (t : ByteArray) (n : Nat) : Val := .mk t (n : Int) [] []
theorem numV_ov (t : ByteArray) (ht : t.size ≤ 3) (n : Nat) (hn : n ≤ 1000000) (d lo hi : Nat) (h : lo ≤ hi) (w : World) : OV (OCod.val 27 3 d) 27 3 lo hi w (.slice none 0 0) (.slice none 0 0) (numV t n) :=
  ⟨by show t.size ≤ maxLen; unfold maxLen; omega, by show I64 (n : Int); unfold I64; omega, lo, Nat.le_refl _, h, ⟨none, 0, rfl, Nat.le_refl _, Nat.zero_le _, fun h => absurd h (by simp [numV, Val.parts])⟩, ⟨none, 0, rfl, Nat.le_refl _, Nat.zero_le _, fun h => absurd h (by simp [numV, Val.path])⟩⟩
theorem dec_len_le (n : Nat) : (decBy n).data.toList = Lib.decDigits n := decBy_L n

/-- Type n: a number read is an answer. -/
theorem num_read {ks : Ks} {d rb tb i : Nat} {s t : ByteArray} {w w' : World} {e : Ending} (ht : (t.toList == [110]) = true) (hts : t.size ≤ 3) (h : NumD rb tb s i t 1000000 w e w') : ReadD ks d rb tb s i t w e w' := by
  obtain ⟨hW, i', hi', hR, hh⟩ := h
  refine ⟨hW, i', hi', hR, ?_⟩
  rcases hh with ⟨n, hn, he, htl, hE⟩ | ⟨he, hno⟩
  · refine .inl ⟨numV t n, none, 0, he, rfl, ?_, rfl, ?_, hE.for_, numV_ov t hts n hn d _ _ hW.size w'⟩
    · show okOf ks (okV ks d) (numV t n) = true
      unfold okOf
      rw [show (numV t n).ty = t from rfl, if_pos ht]
      show ((decide (([] : List Val).length = 0) && decide (([] : List Int).length = 0)) && (decide ((0 : Int) ≤ (n : Int)) && decide ((n : Int) ≤ 1000000))) = true
      rw [decide_eq_true (show (0 : Int) ≤ (n : Int) by omega), decide_eq_true (show (n : Int) ≤ 1000000 by omega)]
      rfl
    · have e2 : lOf (textV (d + 1)) (numV t n) = Lib.decDigits n := by
        show lOf (textOf (textV d)) (numV t n) = _
        rw [textOf_L, show (numV t n).ty = t from rfl, if_pos ht, decBy_L]
        rfl
      rw [e2]; exact htl
  · refine .inr ⟨he, fun ⟨v, r, h1, h2, h3, h4⟩ => ?_⟩
    have hv : okOf ks (okV ks d) v = true := h1
    have ht' : (v.ty.toList == [110]) = true := by rw [h2]; exact ht
    obtain ⟨a1, a2⟩ := okOf_num hv ht'
    rw [show textV (d + 1) = textOf (textV d) from rfl, textOf_L, if_pos ht', decBy_L] at h3
    exact hno v.n.toNat r (by omega) h3 (h4 (.inl ht'))
/-- Type o: a number read behind @ is an answer. -/
theorem own_read {ks : Ks} {d rb tb i : Nat} {s t : ByteArray} {w w1 w' : World} {e : Ending} (ht : t.toList = [111]) (hts : t.size ≤ 3) (h0 : tl s i = 64 :: tl s (i + 1)) (hW0 : Wrote rb (rb + 1) w w1) (h : NumD rb tb s (i + 1) t 3 w1 e w') : ReadD ks d rb tb s i t w e w' := by
  obtain ⟨hW, i', hi', hR, hh⟩ := h
  refine ⟨hW0.trans hW, i', hi', hR, ?_⟩
  have c3 : (t.toList == [111]) = true := by rw [ht]; rfl
  rcases hh with ⟨n, hn, he, htl, hE⟩ | ⟨he, hno⟩
  · refine .inl ⟨numV t n, none, 0, he, rfl, ?_, rfl, ?_, hE.for_, numV_ov t hts n (by omega) d _ _ (hW0.trans hW).size w'⟩
    · show okOf ks (okV ks d) (numV t n) = true
      unfold okOf
      rw [show (numV t n).ty = t from rfl, ht]
      show ((decide (([] : List Val).length = 0) && decide (([] : List Int).length = 0)) && (decide ((0 : Int) ≤ (n : Int)) && decide ((n : Int) ≤ 3))) = true
      rw [decide_eq_true (show (0 : Int) ≤ (n : Int) by omega), decide_eq_true (show (n : Int) ≤ 3 by omega)]
      rfl
    · have e2 : lOf (textV (d + 1)) (numV t n) = 64 :: Lib.decDigits n := by
        show lOf (textOf (textV d)) (numV t n) = _
        rw [textOf_L, show (numV t n).ty = t from rfl, ht, decBy_L]
        rfl
      rw [e2, h0, htl]; rfl
  · refine .inr ⟨he, fun ⟨v, r, h1, h2, h3, h4⟩ => ?_⟩
    have hv : okOf ks (okV ks d) v = true := h1
    have c1 : (v.ty.toList == [110]) = false := by rw [h2, ht]; rfl
    have c2 : (v.ty.toList == [98]) = false := by rw [h2, ht]; rfl
    have c3' : (v.ty.toList == [111]) = true := by rw [h2]; exact c3
    obtain ⟨a1, a2⟩ := okOf_own hv c1 c2 c3'
    rw [show textV (d + 1) = textOf (textV d) from rfl, textOf_L, c1, c2, c3', decBy_L] at h3
    simp only [Bool.false_eq_true, if_false, if_true] at h3
    rw [h0] at h3
    simp only [List.cons_append, List.cons.injEq, true_and] at h3
    exact hno v.n.toNat r (by omega) h3 (h4 (.inr c3'))
/-- No @, no answer of type o. -/
theorem own_miss {ks : Ks} {d i : Nat} {s t : ByteArray} (ht : t.toList = [111]) (h : atB s i ≠ 64) : ¬ Cand ks d t (tl s i) := by
  rintro ⟨v, r, h1, h2, h3, h4⟩
  have c1 : (v.ty.toList == [110]) = false := by rw [h2, ht]; rfl
  have c2 : (v.ty.toList == [98]) = false := by rw [h2, ht]; rfl
  have c3' : (v.ty.toList == [111]) = true := by rw [h2, ht]; rfl
  rw [show textV (d + 1) = textOf (textV d) from rfl, textOf_L, c1, c2, c3'] at h3
  simp only [Bool.false_eq_true, if_false, if_true] at h3
  exact atB_miss (by decide) h _ h3

theorem joinT_congr {f g : Val → ByteArray} : ∀ (xs : List Val) (b : Bool) (acc : ByteArray), (∀ x ∈ xs, f x = g x) → joinT f b xs acc = joinT g b xs acc
  | [], b, acc, _ => by cases b <;> rfl
  | x :: r, true, acc, h => by
    show joinT f false r (acc ++ f x) = joinT g false r (acc ++ g x)
    rw [h x (by simp)]
    exact joinT_congr r false _ fun y hy => h y (by simp [hy])
  | x :: r, false, acc, h => by
    show joinT f false r ((acc ++ ⟨#[32]⟩) ++ f x) = joinT g false r ((acc ++ ⟨#[32]⟩) ++ g x)
    rw [h x (by simp)]
    exact joinT_congr r false _ fun y hy => h y (by simp [hy])
/-- A good value of a depth is one of the next, with the same text. -/
theorem okV_next (ks : Ks) : ∀ (d : Nat) (v : Val), okV ks d v = true → okV ks (d + 1) v = true ∧ textV (d + 1) v = textV d v
  | 0, _, h => by cases h
  | d + 1, v, h => by
    have hv : okOf ks (okV ks d) v = true := h
    cases c1 : (v.ty.toList == [110])
    · cases c2 : (v.ty.toList == [98])
      · cases c3 : (v.ty.toList == [111])
        · obtain ⟨m, k, hk, hh, a3, a4, a5, _, a6, a7⟩ := okOf_parts hv c1 c2 c3
          constructor
          · show okOf ks (okV ks (d + 1)) v = true
            unfold okOf at hv ⊢
            rw [c1, c2, c3, hk] at hv ⊢
            simp only [Bool.false_eq_true, if_false, Bool.and_eq_true, decide_eq_true_eq, List.all_eq_true] at hv ⊢
            exact ⟨hv.1, fun x hx => ⟨(hv.2 x hx).1, (okV_next ks d _ (hv.2 x hx).2).1⟩⟩
          · show textOf (textV (d + 1)) v = textOf (textV d) v
            unfold textOf
            rw [c1, c2, c3]
            simp only [Bool.false_eq_true, if_false]
            rw [joinT_congr v.parts true _ fun x hx => (okV_next ks d x (a7 x hx)).2]
        · constructor
          · show okOf ks (okV ks (d + 1)) v = true
            unfold okOf at hv ⊢
            rw [c1, c2, c3] at hv ⊢
            exact hv
          · show textOf (textV (d + 1)) v = textOf (textV d) v
            unfold textOf
            rw [c1, c2, c3]
            rfl
      · constructor
        · show okOf ks (okV ks (d + 1)) v = true
          unfold okOf at hv ⊢
          rw [c1, c2] at hv ⊢
          exact hv
        · show textOf (textV (d + 1)) v = textOf (textV d) v
          unfold textOf
          rw [c1, c2]
          rfl
    · constructor
      · show okOf ks (okV ks (d + 1)) v = true
        unfold okOf at hv ⊢
        rw [c1] at hv ⊢
        exact hv
      · show textOf (textV (d + 1)) v = textOf (textV d) v
        unfold textOf
        rw [c1]
        rfl
end Go.Proofs.YtelhjdccfomafaaDoor

namespace Go.Proofs.YtelhjdccfomafaaDoor
open Go.RowKit

/-- The answer's variable stored: the answer stays one. -/
theorem ReadD.up {ks : Ks} {d rb tb i : Nat} {s t : ByteArray} {w w1 wF : World} {o : Obj} {e : Ending} (h : ReadD ks d rb tb s i t (w.alloc o) e w1) (hr : rb < w.heap.size) (hk : ∀ b', b' ≠ w.heap.size → wF.heap[b']? = w1.heap[b']?) (hW : Wrote rb (rb + 1) w wF) (hs : wF.heap.size = w1.heap.size) : ReadD ks d rb tb s i t w e wF := by
  obtain ⟨_, i', hi', hR, hh⟩ := h
  refine ⟨hW, i', hi', (hk rb (by omega)).trans hR, ?_⟩
  rcases hh with ⟨v, A, cA, he, h1, h2, h3, h4, h5, h6⟩ | hh
  · refine .inl ⟨v, A, cA, he, h1, h2, h3, h4, h5, ?_⟩
    have e1 : (w.alloc o).heap.size = w.heap.size + 1 := by simp
    rw [e1] at h6
    exact (h6.keep fun b g1 g2 => hk b (by omega)).mono (by omega) (by omega)
  · exact .inr hh

set_option maxRecDepth 100000 in
set_option maxHeartbeats 2000000 in
theorem value_of {ks : Ks} (d rb tb i : Nat) (s t : ByteArray) (w : World) (h : RdB rb tb s i w) (hi : i ≤ s.size) (hs : s.size ≤ 2000000) (hts : t.size ≤ 3)
    (hrec : (t.toList == [110]) = false → (t.toList == [98]) = false → (t.toList == [111]) = false → Calls Tryd.prog 48 #[.pointer (some ⟨rb, 0, none⟩), .string t] (w.alloc (.cells #[.string ⟨#[]⟩, .int .i64 0, .slice none 0 0, .slice none 0 0] 27)) (ReadD ks d rb tb s i t (w.alloc (.cells #[.string ⟨#[]⟩, .int .i64 0, .slice none 0 0, .slice none 0 0] 27)))) :
    Calls Tryd.prog 27 #[.pointer (some ⟨rb, 0, none⟩), .string t] w (ReadD ks d rb tb s i t w) := by
  have hr := h.lt
  have HR0 := Lib.hid (h.alloc (.cells #[.string ⟨#[]⟩, .int .i64 0, .slice none 0 0, .slice none 0 0] 27))
  have HB0 := Lib.hid (Blk.new w 27 #[.string ⟨#[]⟩, .int .i64 0, .slice none 0 0, .slice none 0 0])
  have HW0 := Lib.hid (show Wrote rb (rb + 1) w (w.alloc (.cells #[.string ⟨#[]⟩, .int .i64 0, .slice none 0 0, .slice none 0 0] 27)) from Wrote.of_below ((Below.refl _ _).alloc (Nat.le_refl _) _))
  clear h
  cases c1 : (t.toList == [110])
  · cases c2 : (t.toList == [98])
    · cases c3 : (t.toList == [111])
      · have HC := Lib.hid (hrec c1 c2 c3)
        clear hrec
        go_enter Tryd.func27, Tryd.ntmps27
        go_wp2_with fail
        refine HC.out.mono ?_
        rintro e w1 hD
        clear HC
        have hD' := hD
        obtain ⟨hW, i', hi', hR, hh⟩ := hD
        have hB1 : Blk w1 w.heap.size 27 #[.string ⟨#[]⟩, .int .i64 0, .slice none 0 0, .slice none 0 0] := (hW.block _ (by simp) (by omega)).trans HB0.out
        have HB1 := Lib.hid hB1
        have HD := Lib.hid hD'
        have HW1 := Lib.hid (HW0.out.trans hW)
        obtain ⟨y0, y1, y2, y3⟩ := hB1.c2
        obtain ⟨f0, f1, f2, f3⟩ := hB1.f4
        clear hW hB1 hD'
        rcases hh with ⟨v, A, cA, rfl, q1, q2, q3, q4, q5, q6⟩ | ⟨rfl, q1⟩
        · have hl6 := q6.rows
          obtain ⟨_, _, _, ho6, _⟩ := hl6
          obtain ⟨_, _, _, hl7, hl8⟩ := ho6.len_
          clear q1 q2 q3 q4 q5 q6 hl7 hl8 ho6
          obtain ⟨g1, g2, g3, g4, g5⟩ := four_done (w := w) HB1.out hR (by omega) HW1.out (Nat.le_refl _) (.string v.ty) (.int .i64 v.n) (.slice A v.parts.length cA) (.slice none 0 0)
          obtain ⟨z0, z1, z2, z3⟩ := g1.c2
          have HQ := Lib.hid (HD.out.up hr g5 g3 g4)
          obtain ⟨wF, hF⟩ : ∃ wF, wF = set4 w1 w.heap.size (.string v.ty) (.int .i64 v.n) (.slice A v.parts.length cA) (.slice none 0 0) := ⟨_, rfl⟩
          rw [← hF] at z0 z1 z2 z3 HQ
          unfold set4 at hF
          clear g1 g2 g3 g4 g5 hR
          go_wp2_with fail
          rw [← hF]
          exact bodyPost_ret (v := .tuple #[.agg #[.string v.ty, .int .i64 v.n, .slice A v.parts.length cA, .slice none 0 0], .bool true]) (by simp [results, Tryd.results27, go_sem, z0, z1, z2, z3]) rfl HQ.out
        · clear q1
          obtain ⟨g1, g2, g3, g4, g5⟩ := four_done (w := w) HB1.out hR (by omega) HW1.out (Nat.le_refl _) (.string ⟨#[]⟩) (.int .i64 0) (.slice none 0 0) (.slice none 0 0)
          obtain ⟨z0, z1, z2, z3⟩ := g1.c2
          have HQ := Lib.hid (HD.out.up hr g5 g3 g4)
          obtain ⟨wF, hF⟩ : ∃ wF, wF = set4 w1 w.heap.size (.string ⟨#[]⟩) (.int .i64 0) (.slice none 0 0) (.slice none 0 0) := ⟨_, rfl⟩
          rw [← hF] at z0 z1 z2 z3 HQ
          unfold set4 at hF
          clear g1 g2 g3 g4 g5 hR
          go_wp2_with fail
          rw [← hF]
          exact bodyPost_ret (v := .tuple #[.agg #[.string ⟨#[]⟩, .int .i64 0, .slice none 0 0, .slice none 0 0], .bool false]) (by simp [results, Tryd.results27, go_sem, z0, z1, z2, z3]) rfl HQ.out
      · have ht : t.toList = [111] := eq_of_beq c3
        have HP := Lib.hid (skip_any rb tb i 64 s _ HR0.out hi hs (by decide))
        have HT := Lib.hid ht
        clear hrec ht
        go_enter Tryd.func27, Tryd.ntmps27
        go_wp2_with fail
        refine HP.out.mono ?_
        rintro e w2 ⟨hW2, hh⟩
        rcases hh with ⟨hc, rfl, hR2⟩ | ⟨hc, rfl, hR2⟩
        · obtain ⟨hl, hb0, htl⟩ := atB_hit (by decide) hc
          have HN := Lib.hid (number_any rb tb (i + 1) s t 3 (topB_own c1 c2 c3) (by decide) hts w2 hR2 hl hs)
          have HW2 := Lib.hid hW2
          have HTL := Lib.hid htl
          clear hc hb0 htl hR2 hW2 HP hl
          go_wp2_with fail
          refine HN.out.mono ?_
          rintro e w1 hN
          have hD : ReadD ks d rb tb s i t (w.alloc (.cells #[.string ⟨#[]⟩, .int .i64 0, .slice none 0 0, .slice none 0 0] 27)) e w1 := own_read HT.out hts HTL.out HW2.out hN
          clear hN HN
          have hD' := hD
          obtain ⟨hW, i', hi', hR, hh⟩ := hD
          have hB1 : Blk w1 w.heap.size 27 #[.string ⟨#[]⟩, .int .i64 0, .slice none 0 0, .slice none 0 0] := (hW.block _ (by simp) (by omega)).trans HB0.out
          have HB1 := Lib.hid hB1
          have HD := Lib.hid hD'
          have HW1 := Lib.hid (HW0.out.trans hW)
          obtain ⟨y0, y1, y2, y3⟩ := hB1.c2
          obtain ⟨f0, f1, f2, f3⟩ := hB1.f4
          clear hW hB1 hD'
          rcases hh with ⟨v, A, cA, rfl, q1, q2, q3, q4, q5, q6⟩ | ⟨rfl, q1⟩
          · have hl6 := q6.rows
            obtain ⟨_, _, _, ho6, _⟩ := hl6
            obtain ⟨_, _, _, hl7, hl8⟩ := ho6.len_
            clear q1 q2 q3 q4 q5 q6 hl7 hl8 ho6
            obtain ⟨g1, g2, g3, g4, g5⟩ := four_done (w := w) HB1.out hR (by omega) HW1.out (Nat.le_refl _) (.string v.ty) (.int .i64 v.n) (.slice A v.parts.length cA) (.slice none 0 0)
            obtain ⟨z0, z1, z2, z3⟩ := g1.c2
            have HQ := Lib.hid (HD.out.up hr g5 g3 g4)
            obtain ⟨wF, hF⟩ : ∃ wF, wF = set4 w1 w.heap.size (.string v.ty) (.int .i64 v.n) (.slice A v.parts.length cA) (.slice none 0 0) := ⟨_, rfl⟩
            rw [← hF] at z0 z1 z2 z3 HQ
            unfold set4 at hF
            clear g1 g2 g3 g4 g5 hR
            go_wp2_with fail
            rw [← hF]
            exact bodyPost_ret (v := .tuple #[.agg #[.string v.ty, .int .i64 v.n, .slice A v.parts.length cA, .slice none 0 0], .bool true]) (by simp [results, Tryd.results27, go_sem, z0, z1, z2, z3]) rfl HQ.out
          · clear q1
            obtain ⟨g1, g2, g3, g4, g5⟩ := four_done (w := w) HB1.out hR (by omega) HW1.out (Nat.le_refl _) (.string ⟨#[]⟩) (.int .i64 0) (.slice none 0 0) (.slice none 0 0)
            obtain ⟨z0, z1, z2, z3⟩ := g1.c2
            have HQ := Lib.hid (HD.out.up hr g5 g3 g4)
            obtain ⟨wF, hF⟩ : ∃ wF, wF = set4 w1 w.heap.size (.string ⟨#[]⟩) (.int .i64 0) (.slice none 0 0) (.slice none 0 0) := ⟨_, rfl⟩
            rw [← hF] at z0 z1 z2 z3 HQ
            unfold set4 at hF
            clear g1 g2 g3 g4 g5 hR
            go_wp2_with fail
            rw [← hF]
            exact bodyPost_ret (v := .tuple #[.agg #[.string ⟨#[]⟩, .int .i64 0, .slice none 0 0, .slice none 0 0], .bool false]) (by simp [results, Tryd.results27, go_sem, z0, z1, z2, z3]) rfl HQ.out
        · have hB1 : Blk w2 w.heap.size 27 #[.string ⟨#[]⟩, .int .i64 0, .slice none 0 0, .slice none 0 0] := (hW2.block _ (by simp) (by omega)).trans HB0.out
          have HB1 := Lib.hid hB1
          have HW1 := Lib.hid (HW0.out.trans hW2)
          have hR := hR2
          have HD := Lib.hid (show ReadD ks d rb tb s i t (w.alloc (.cells #[.string ⟨#[]⟩, .int .i64 0, .slice none 0 0, .slice none 0 0] 27)) (.returned (.tuple #[.agg #[.string ⟨#[]⟩, .int .i64 0, .slice none 0 0, .slice none 0 0], .bool false])) w2 from ⟨hW2, i, hi, hR2, .inr ⟨rfl, own_miss HT.out hc⟩⟩)
          obtain ⟨y0, y1, y2, y3⟩ := hB1.c2
          obtain ⟨f0, f1, f2, f3⟩ := hB1.f4
          clear hW2 hB1 hc hR2 HP
          obtain ⟨g1, g2, g3, g4, g5⟩ := four_done (w := w) HB1.out hR (by omega) HW1.out (Nat.le_refl _) (.string ⟨#[]⟩) (.int .i64 0) (.slice none 0 0) (.slice none 0 0)
          obtain ⟨z0, z1, z2, z3⟩ := g1.c2
          have HQ := Lib.hid (HD.out.up hr g5 g3 g4)
          obtain ⟨wF, hF⟩ : ∃ wF, wF = set4 w2 w.heap.size (.string ⟨#[]⟩) (.int .i64 0) (.slice none 0 0) (.slice none 0 0) := ⟨_, rfl⟩
          rw [← hF] at z0 z1 z2 z3 HQ
          unfold set4 at hF
          clear g1 g2 g3 g4 g5 hR
          go_wp2_with fail
          rw [← hF]
          exact bodyPost_ret (v := .tuple #[.agg #[.string ⟨#[]⟩, .int .i64 0, .slice none 0 0, .slice none 0 0], .bool false]) (by simp [results, Tryd.results27, go_sem, z0, z1, z2, z3]) rfl HQ.out
    · have ht : t = bT := ext_toList ((eq_of_beq c2).trans bT_list.symm)
      subst ht
      have HC := Lib.hid (truth_any ks d rb tb i s _ HR0.out hi hs)
      clear hrec
      go_enter Tryd.func27, Tryd.ntmps27
      go_wp2_with fail
      refine HC.out.mono ?_
      rintro e w1 hD
      clear HC
      have hD' := hD
      obtain ⟨hW, i', hi', hR, hh⟩ := hD
      have hB1 : Blk w1 w.heap.size 27 #[.string ⟨#[]⟩, .int .i64 0, .slice none 0 0, .slice none 0 0] := (hW.block _ (by simp) (by omega)).trans HB0.out
      have HB1 := Lib.hid hB1
      have HD := Lib.hid hD'
      have HW1 := Lib.hid (HW0.out.trans hW)
      obtain ⟨y0, y1, y2, y3⟩ := hB1.c2
      obtain ⟨f0, f1, f2, f3⟩ := hB1.f4
      clear hW hB1 hD'
      rcases hh with ⟨v, A, cA, rfl, q1, q2, q3, q4, q5, q6⟩ | ⟨rfl, q1⟩
      · have hl6 := q6.rows
        obtain ⟨_, _, _, ho6, _⟩ := hl6
        obtain ⟨_, _, _, hl7, hl8⟩ := ho6.len_
        clear q1 q2 q3 q4 q5 q6 hl7 hl8 ho6
        obtain ⟨g1, g2, g3, g4, g5⟩ := four_done (w := w) HB1.out hR (by omega) HW1.out (Nat.le_refl _) (.string v.ty) (.int .i64 v.n) (.slice A v.parts.length cA) (.slice none 0 0)
        obtain ⟨z0, z1, z2, z3⟩ := g1.c2
        have HQ := Lib.hid (HD.out.up hr g5 g3 g4)
        obtain ⟨wF, hF⟩ : ∃ wF, wF = set4 w1 w.heap.size (.string v.ty) (.int .i64 v.n) (.slice A v.parts.length cA) (.slice none 0 0) := ⟨_, rfl⟩
        rw [← hF] at z0 z1 z2 z3 HQ
        unfold set4 at hF
        clear g1 g2 g3 g4 g5 hR
        go_wp2_with fail
        rw [← hF]
        exact bodyPost_ret (v := .tuple #[.agg #[.string v.ty, .int .i64 v.n, .slice A v.parts.length cA, .slice none 0 0], .bool true]) (by simp [results, Tryd.results27, go_sem, z0, z1, z2, z3]) rfl HQ.out
      · clear q1
        obtain ⟨g1, g2, g3, g4, g5⟩ := four_done (w := w) HB1.out hR (by omega) HW1.out (Nat.le_refl _) (.string ⟨#[]⟩) (.int .i64 0) (.slice none 0 0) (.slice none 0 0)
        obtain ⟨z0, z1, z2, z3⟩ := g1.c2
        have HQ := Lib.hid (HD.out.up hr g5 g3 g4)
        obtain ⟨wF, hF⟩ : ∃ wF, wF = set4 w1 w.heap.size (.string ⟨#[]⟩) (.int .i64 0) (.slice none 0 0) (.slice none 0 0) := ⟨_, rfl⟩
        rw [← hF] at z0 z1 z2 z3 HQ
        unfold set4 at hF
        clear g1 g2 g3 g4 g5 hR
        go_wp2_with fail
        rw [← hF]
        exact bodyPost_ret (v := .tuple #[.agg #[.string ⟨#[]⟩, .int .i64 0, .slice none 0 0, .slice none 0 0], .bool false]) (by simp [results, Tryd.results27, go_sem, z0, z1, z2, z3]) rfl HQ.out
  · have HC := Lib.hid ((number_any rb tb i s t 1000000 (topB_num c1) (Nat.le_refl _) hts _ HR0.out hi hs).mono fun e w' h => num_read (ks := ks) (d := d) c1 hts h)
    clear hrec
    go_enter Tryd.func27, Tryd.ntmps27
    go_wp2_with fail
    refine HC.out.mono ?_
    rintro e w1 hD
    clear HC
    have hD' := hD
    obtain ⟨hW, i', hi', hR, hh⟩ := hD
    have hB1 : Blk w1 w.heap.size 27 #[.string ⟨#[]⟩, .int .i64 0, .slice none 0 0, .slice none 0 0] := (hW.block _ (by simp) (by omega)).trans HB0.out
    have HB1 := Lib.hid hB1
    have HD := Lib.hid hD'
    have HW1 := Lib.hid (HW0.out.trans hW)
    obtain ⟨y0, y1, y2, y3⟩ := hB1.c2
    obtain ⟨f0, f1, f2, f3⟩ := hB1.f4
    clear hW hB1 hD'
    rcases hh with ⟨v, A, cA, rfl, q1, q2, q3, q4, q5, q6⟩ | ⟨rfl, q1⟩
    · have hl6 := q6.rows
      obtain ⟨_, _, _, ho6, _⟩ := hl6
      obtain ⟨_, _, _, hl7, hl8⟩ := ho6.len_
      clear q1 q2 q3 q4 q5 q6 hl7 hl8 ho6
      obtain ⟨g1, g2, g3, g4, g5⟩ := four_done (w := w) HB1.out hR (by omega) HW1.out (Nat.le_refl _) (.string v.ty) (.int .i64 v.n) (.slice A v.parts.length cA) (.slice none 0 0)
      obtain ⟨z0, z1, z2, z3⟩ := g1.c2
      have HQ := Lib.hid (HD.out.up hr g5 g3 g4)
      obtain ⟨wF, hF⟩ : ∃ wF, wF = set4 w1 w.heap.size (.string v.ty) (.int .i64 v.n) (.slice A v.parts.length cA) (.slice none 0 0) := ⟨_, rfl⟩
      rw [← hF] at z0 z1 z2 z3 HQ
      unfold set4 at hF
      clear g1 g2 g3 g4 g5 hR
      go_wp2_with fail
      rw [← hF]
      exact bodyPost_ret (v := .tuple #[.agg #[.string v.ty, .int .i64 v.n, .slice A v.parts.length cA, .slice none 0 0], .bool true]) (by simp [results, Tryd.results27, go_sem, z0, z1, z2, z3]) rfl HQ.out
    · clear q1
      obtain ⟨g1, g2, g3, g4, g5⟩ := four_done (w := w) HB1.out hR (by omega) HW1.out (Nat.le_refl _) (.string ⟨#[]⟩) (.int .i64 0) (.slice none 0 0) (.slice none 0 0)
      obtain ⟨z0, z1, z2, z3⟩ := g1.c2
      have HQ := Lib.hid (HD.out.up hr g5 g3 g4)
      obtain ⟨wF, hF⟩ : ∃ wF, wF = set4 w1 w.heap.size (.string ⟨#[]⟩) (.int .i64 0) (.slice none 0 0) (.slice none 0 0) := ⟨_, rfl⟩
      rw [← hF] at z0 z1 z2 z3 HQ
      unfold set4 at hF
      clear g1 g2 g3 g4 g5 hR
      go_wp2_with fail
      rw [← hF]
      exact bodyPost_ret (v := .tuple #[.agg #[.string ⟨#[]⟩, .int .i64 0, .slice none 0 0, .slice none 0 0], .bool false]) (by simp [results, Tryd.results27, go_sem, z0, z1, z2, z3]) rfl HQ.out
end Go.Proofs.YtelhjdccfomafaaDoor
