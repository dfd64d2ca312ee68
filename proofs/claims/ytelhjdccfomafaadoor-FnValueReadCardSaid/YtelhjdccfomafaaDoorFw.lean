/- Good values have few parts, and short texts; what is written is read back. -/
import Derived.Test.YtelhjdccfomafaaDoorFv
import Derived.Test.YtelhjdccfomafaaDoorSx
namespace Go.Proofs.YtelhjdccfomafaaDoor
open Go.RowKit

def s3 : Nat → Nat
  | 0 => 1
  | n + 1 => 3 * s3 n + 1
theorem s3_mono {a b : Nat} (h : a ≤ b) : s3 a ≤ s3 b := by
  induction h with
  | refl => exact Nat.le_refl _
  | step _ ih => show _ ≤ 3 * s3 _ + 1; omega
theorem s3_pos (n : Nat) : 1 ≤ s3 n := by cases n <;> simp [s3]
theorem size_idx3 {ks : Ks} (hok : kindsOk ks = true) : ∀ (d : Nat) (v : Val), okV ks d v = true → sizeV d v ≤ (s3 (idx v.ty) : Nat)
  | 0, _, h => by cases h
  | d + 1, v, h => by
    have hu : okOf ks (okV ks d) v = true := h
    show (1 : Int) + sumL (sizeV d) v.parts ≤ _
    have hpos := s3_pos (idx v.ty)
    by_cases hb : (v.ty.toList == [110]) = true ∨ (v.ty.toList == [98]) = true ∨ (v.ty.toList == [111]) = true
    · obtain ⟨p1, _⟩ := base_plain hu hb
      rw [p1]
      show (1 : Int) + 0 ≤ _
      omega
    · have c1 : (v.ty.toList == [110]) = false := by cases h1 : (v.ty.toList == [110]) with | false => rfl | true => exact absurd (.inl h1) hb
      have c2 : (v.ty.toList == [98]) = false := by cases h1 : (v.ty.toList == [98]) with | false => rfl | true => exact absurd (.inr (.inl h1)) hb
      have c3 : (v.ty.toList == [111]) = false := by cases h1 : (v.ty.toList == [111]) with | false => rfl | true => exact absurd (.inr (.inr h1)) hb
      obtain ⟨m, k, hk, hh, _, _, a5, _, a6, a7⟩ := okOf_parts hu c1 c2 c3
      have hi : idx v.ty = 3 * m + k + 1 := by unfold idx; rw [hk]
      have hl := rec_few hok hh
      rw [hi]
      have := sumL_bound (f := sizeV d) (b := (s3 (3 * m + k) : Nat)) (by omega) v.parts (fun x hx => by
        obtain ⟨j, hj, rfl⟩ := List.mem_iff_getElem.1 hx
        have h1 := size_idx3 hok d _ (a7 _ hx)
        have h2 := ext_toList (a6 j hj (by omega)).1
        have h3 := idx_field hok hh (List.getElem_mem (show j < (recAt ks m k).fields.length by omega))
        rw [h2] at h1
        have h4 := s3_mono (show idx (recAt ks m k).fields[j] ≤ 3 * m + k by omega)
        omega) (by omega)
      show _ ≤ ((3 * s3 (3 * m + k) + 1 : Nat) : Int)
      omega
theorem size_good3 {ks : Ks} (hok : kindsOk ks = true) {d : Nat} {v : Val} (h : okV ks (d + 1) v = true) : sizeV (d + 1) v ≤ 29524 := by
  have h1 := size_idx3 hok (d + 1) v h
  have h2 := s3_mono (idx_le hok (known_ok h))
  have h3 : s3 9 = 29524 := by decide +kernel
  omega
theorem valOk_iff {ks : Ks} {d : Nat} {v : Val} : valOk ks d v = true ↔ kindsOk ks = true ∧ okV ks (d + 1) v = true := by
  unfold valOk; simp only [Bool.and_eq_true]
/-- The text of a value. -/
theorem textVal_ok {ks : Ks} {d : Nat} {v : Val} (h : valOk ks d v = true) : textVal ks d v = textV (d + 1) v := by unfold textVal; rw [if_pos h]; rfl
theorem textVal_no {ks : Ks} {d : Nat} {v : Val} (h : valOk ks d v = false) : textVal ks d v = ⟨#[]⟩ := by unfold textVal; rw [h]; rfl
theorem textVal_small (ks : Ks) (d : Nat) (v : Val) : (textVal ks d v).size ≤ 500000 := by
  cases h : valOk ks d v with
  | false => rw [textVal_no h]; show (0 : Nat) ≤ _; omega
  | true =>
    rw [textVal_ok h]
    obtain ⟨h1, h2⟩ := valOk_iff.1 h
    have h3 := textV_le (d + 1) v h2
    have h4 := size_good3 h1 h2
    omega
theorem textVal_some {ks : Ks} {d : Nat} {v : Val} (h : valOk ks d v = true) : textVal ks d v ≠ ⟨#[]⟩ := fun e => by
  rw [textVal_ok h] at e
  obtain ⟨c, l, hc, _⟩ := first_byte (valOk_iff.1 h).2
  unfold lOf at hc
  rw [e] at hc
  cases hc
theorem empty_list0 : (⟨#[]⟩ : ByteArray).toList = [] := List.eq_nil_of_length_eq_zero (by rw [length_toList]; rfl)
theorem textVal_empty {ks : Ks} {d : Nat} {v : Val} : (textVal ks d v).toList.isEmpty = !valOk ks d v := by
  cases h : valOk ks d v with
  | false => rw [textVal_no h, show (⟨#[]⟩ : ByteArray).toList = [] from empty_list0]; rfl
  | true =>
    cases he : (textVal ks d v).toList with
    | nil => exact absurd (ext_toList (he.trans empty_list0.symm)) (textVal_some h)
    | cons _ _ => rfl
/-- What is read of a text that was written. -/
theorem read_text {ks : Ks} {D d : Nat} {v u : Val} {b : Bool} (h : AnsD ks (textVal ks d v) D b u) : b = valOk ks d v ∧ (b = true → u = v) := by
  cases hv : valOk ks d v with
  | false =>
    rcases h with ⟨rfl, h1, h2, h3⟩ | ⟨rfl, h1, h2⟩
    · rw [textVal_no hv] at h3
      obtain ⟨c, l, hc, _⟩ := first_byte h2
      rw [hc] at h3
      cases h3
    · exact ⟨rfl, fun e => by cases e⟩
  | true =>
    obtain ⟨k1, k2⟩ := valOk_iff.1 hv
    have hk : AnsD ks (textVal ks d v) d true v := .inl ⟨rfl, k1, k2, by rw [textVal_ok hv]; rfl⟩
    obtain ⟨e1, e2⟩ := h.same hk
    exact ⟨e1, fun _ => e2⟩
/-- What was read has the text. -/
theorem text_read {ks : Ks} {D d : Nat} {s : ByteArray} {u : Val} (h : AnsD ks s D true u) (hd : okV ks (d + 1) u = true) : valOk ks d u = true ∧ textVal ks d u = s := by
  rcases h with ⟨_, h1, h2, h3⟩ | ⟨h1, _⟩
  · have hv : valOk ks d u = true := valOk_iff.2 ⟨h1, hd⟩
    refine ⟨hv, ?_⟩
    rw [textVal_ok hv, text_depth hd h2]
    unfold lOf at h3
    exact ByteArray.ext (Array.ext' h3)
  · cases h1
end Go.Proofs.YtelhjdccfomafaaDoor
