/- What is drawn for the laws of types: kinds and a text; signs ahead of plain types. -/
import Derived.Test.YtmomdflfjcboiaaFa
import Derived.Test.YtmomdflfjcboiaaImf
namespace Go.Proofs.Ytmomdflfjcboiaa
open Go.ChangeShapes Go.WideShapes Go.ChangeAt Go.RowKit Go.Deep

/-- Drawn kinds and a text. -/
def DrawnKt (W : World) (e : Ending) (w' : World) : Prop :=
  ∃ (ad cap : Nat) (ks : Ks) (t : ByteArray), e = .returned (.tuple #[.slice (some ⟨ad, 0, none⟩) ks.length cap, .string t]) ∧ t.size ≤ 50 ∧ Made Cod.recs W w' (.slice (some ⟨ad, 0, none⟩) ks.length cap) ks

theorem append_toList (a b : ByteArray) : (a ++ b).toList = a.toList ++ b.toList := by
  rw [toList_data, toList_data, toList_data]; simp
theorem sign_of (c : UInt8) (hc : c = 38 ∨ c = 33) (p : ByteArray) : refB (⟨#[c]⟩ ++ p) = true ∧ ofT (⟨#[c]⟩ ++ p) = p ∧ amp (⟨#[c]⟩ ++ p) = decide (c = 38) := by
  have hs : (⟨#[c]⟩ ++ p : ByteArray).size = 1 + p.size := by rw [ByteArray.size_append]; rfl
  have h0 : (⟨#[c]⟩ ++ p : ByteArray)[0]'(by omega) = c := by
    have := get_toList (⟨#[c]⟩ ++ p) 0 (by omega)
    rw [append_toList, toList_data] at this
    simpa using this.symm
  have hr : refB (⟨#[c]⟩ ++ p) = true := by
    unfold refB
    rw [dif_pos (by omega), h0]
    rcases hc with rfl | rfl <;> rfl
  refine ⟨hr, ?_, ?_⟩
  · unfold ofT
    rw [if_pos hr]
    apply ext_toList
    rw [toList_data, ByteArray.data_extract, toList_data]
    simp [hs]
    exact List.take_of_length_le (by simp)
  · unfold amp
    rw [dif_pos (by omega), h0]
    rcases hc with rfl | rfl <;> rfl
theorem plain_sign {ks : Ks} {p : ByteArray} (h : plainB ks p = true) : refB p = false := by
  unfold plainB at h
  simp only [Bool.or_eq_true] at h
  rcases h with h | h
  · exact refB_base h
  · cases hk : kindOf p with
    | none => rw [hk] at h; cases h
    | some mk => exact refB_kind hk
/-- Of a type, its plain one and its references. -/
theorem ok_plain {ks : Ks} {t : ByteArray} (h : typeOkB ks t = true) : plainT ks t = ofT t ∧ typeOkB ks (ofT t) = true ∧ plainT ks (ofT t) = ofT t ∧
    (∀ c : UInt8, (c = 38 ∨ c = 33) → typeOkB ks (⟨#[c]⟩ ++ ofT t) = true ∧ typeAble ks (⟨#[c]⟩ ++ ofT t) = if c = 38 then 3 else 2) := by
  have hh := h
  unfold typeOkB at hh
  simp only [Bool.and_eq_true] at hh
  have ho : ofT (ofT t) = ofT t := by
    have hr := plain_sign hh.2
    show (if refB (ofT t) then _ else ofT t) = _
    rw [hr]; rfl
  have h2 : typeOkB ks (ofT t) = true := by unfold typeOkB; rw [ho, hh.1, hh.2]; rfl
  refine ⟨by unfold plainT; rw [h]; rfl, h2, by unfold plainT; rw [h2, ho]; rfl, fun c hc => ?_⟩
  obtain ⟨s1, s2, s3⟩ := sign_of c hc (ofT t)
  have h3 : typeOkB ks (⟨#[c]⟩ ++ ofT t) = true := by unfold typeOkB; rw [s2, hh.1, hh.2]; rfl
  refine ⟨h3, ?_⟩
  unfold typeAble
  rw [h3]
  unfold ableT
  rw [s1, s3]
  rcases hc with rfl | rfl <;> rfl
theorem able_sign {ks : Ks} {t : ByteArray} : (typeOkB ks t = true → 0 ≤ typeAble ks t) ∧ (typeOkB ks t = false → typeAble ks t = -1) := by
  constructor
  · intro h
    have h1 := able_range ks t
    have h2 : (typeAble ks t != -1) = true := by rw [typeAble_iff]; exact h
    rw [bne_iff_ne] at h2
    omega
  · intro h
    have h2 : (typeAble ks t != -1) = false := by rw [typeAble_iff]; exact h
    simpa using h2
end Go.Proofs.Ytmomdflfjcboiaa
