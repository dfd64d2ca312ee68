/- What is drawn for the laws of types: kinds and a text; signs ahead of plain types. -/
import Derived.Test.YtjmdhjnfekpklaaFa
import Derived.Test.YtjmdhjnfekpklaaImf
namespace Go.Proofs.Ytjmdhjnfekpklaa
open Go.ChangeShapes Go.WideShapes Go.ChangeAt Go.RowKit Go.Deep

/-- Drawn kinds and a text. -/
def DrawnKt (W : World) (e : Ending) (w' : World) : Prop :=
  ∃ (ad cap : Nat) (ks : Ks) (t : ByteArray), e = .returned (.tuple #[.slice (some ⟨ad, 0, none⟩) ks.length cap, .string t]) ∧ t.size ≤ 50 ∧ Made Cod.recs W w' (.slice (some ⟨ad, 0, none⟩) ks.length cap) ks

set_option maxRecDepth 100000 in
set_option maxHeartbeats 1000000 in
theorem drawTypeOk_any (F : Nat → Prop) (v : Value) (xs : List Nat) (w : World) (hv : Cod.u8.Sl F w v xs) (hF : ∀ b, F b → b < w.heap.size) :
    Calls Try.prog 13 #[v] w (DrawnKt w) := by
  go_enter Try.func13, Try.ntmps13
  go_wp2_with fail
  refine (open_any F v xs w hv hF).mono ?_
  rintro e w1 ⟨g, rfl, hg, hr, hb⟩
  have HR := Lib.hid hr
  have HB := Lib.hid hb
  have hgl := hr.lt
  clear hr hb
  go_wp2_with fail
  refine (kinds_any g 0 w1 HR.out (by omega)).mono ?_
  rintro e w2 ⟨ad, cap, ks, rfl, h3, h4, hs, hst⟩
  obtain ⟨⟨q, hq, hrq⟩, _⟩ := id hst
  have HO := Lib.hid (hst.old HB.out hg)
  have HS := Lib.hid hs
  have HF2 := Lib.hid (show ∀ b, Fresh w1 w2 b → b < w2.heap.size ∧ b ≠ g from fun b hb => ⟨hb.2, by have := hb.1; omega⟩)
  have H4 := Lib.hid (show ∀ r ∈ ks, r.length ≤ 10 from fun r hr => by have := h4 r hr; omega)
  have HS2 := Lib.hid (show Step g q 0 w2 w2 from Step.start hrq)
  have HQ := Lib.hid (show ∀ (t : ByteArray) (N : Nat) (w' : World), t.size ≤ 50 → Step g q N w2 w' → DrawnKt w (.returned (.tuple #[.slice (some ⟨ad, 0, none⟩) ks.length cap, .string t])) w' from fun t N w' ht hst' =>
    ⟨ad, cap, ks, t, rfl, ht, (HS.out.keep (fun b hb => hst'.grown.block b hb.2 (by have := hb.1; simp; omega))).mono fun b hb => ⟨Nat.le_trans HB.out.size hb.1, Nat.lt_of_lt_of_le hb.2 hst'.grown.size⟩, hst'.old HO.out hg⟩)
  clear hs hst h4 hrq
  go_wp2_with fail
  refine (type_step HS2.out (by omega) HS.out HF2.out (by omega) H4.out).mono ?_
  rintro e w3 ⟨t, ht, rfl, hS3, hg3⟩
  have HS3 := Lib.hid hS3
  clear hS3 hg3
  go_wp2_with fail
  refine (pick_at HS3.out (by omega) (by omega)).mono ?_
  rintro e w4 ⟨k, rfl, hk, hS4, hg4⟩
  have HS4 := Lib.hid hS4
  clear hS4 hg4 hk
  by_cases hk0 : (k : Int) = 0
  · have hb0 : ((k : Int) == 0) = true := by simpa using hk0
    clear hk0
    go_wp2_with fail
    refine (of_step (w := w4) (xs := [⟨#[]⟩, ⟨#[38]⟩, ⟨#[38, 38, 110]⟩, ⟨#[83]⟩, ⟨#[83, 51, 51]⟩, ⟨#[120]⟩, ⟨#[33]⟩]) HS4.out (by omega) (by simp) rfl (by simp) (by simp) (by intro x hx; simp at hx; rcases hx with rfl | rfl | rfl | rfl | rfl | rfl | rfl <;> decide)).mono ?_
    rintro e w5 ⟨s, hs, rfl, hS5, hg5⟩
    have HE := HQ.out s _ _ (by simp at hs; rcases hs with rfl | rfl | rfl | rfl | rfl | rfl | rfl <;> decide) hS5
    have HEH := Lib.hid HE
    clear hs hS5 hg5 HE
    go_wp2
    go_ret2
    exact HEH.out
  · have hb0 : ((k : Int) == 0) = false := by simpa using hk0
    clear hk0
    have HEH := Lib.hid (HQ.out t _ _ ht HS4.out)
    go_wp2
    go_ret2
    exact HEH.out

set_option maxRecDepth 100000 in
set_option maxHeartbeats 1000000 in
theorem drawTypePlain_any (F : Nat → Prop) (v : Value) (xs : List Nat) (w : World) (hv : Cod.u8.Sl F w v xs) (hF : ∀ b, F b → b < w.heap.size) :
    Calls Try.prog 17 #[v] w (DrawnKt w) := by
  go_enter Try.func17, Try.ntmps17
  go_wp2_with fail
  refine (open_any F v xs w hv hF).mono ?_
  rintro e w1 ⟨g, rfl, hg, hr, hb⟩
  have HR := Lib.hid hr
  have HB := Lib.hid hb
  have hgl := hr.lt
  clear hr hb
  go_wp2_with fail
  refine (kinds_any g 0 w1 HR.out (by omega)).mono ?_
  rintro e w2 ⟨ad, cap, ks, rfl, h3, h4, hs, hst⟩
  obtain ⟨⟨q, hq, hrq⟩, _⟩ := id hst
  have HO := Lib.hid (hst.old HB.out hg)
  have HS := Lib.hid hs
  have HF2 := Lib.hid (show ∀ b, Fresh w1 w2 b → b < w2.heap.size ∧ b ≠ g from fun b hb => ⟨hb.2, by have := hb.1; omega⟩)
  have H4 := Lib.hid (show ∀ r ∈ ks, r.length ≤ 10 from fun r hr => by have := h4 r hr; omega)
  have HS2 := Lib.hid (show Step g q 0 w2 w2 from Step.start hrq)
  have HQ := Lib.hid (show ∀ (t : ByteArray) (N : Nat) (w' : World), t.size ≤ 50 → Step g q N w2 w' → DrawnKt w (.returned (.tuple #[.slice (some ⟨ad, 0, none⟩) ks.length cap, .string t])) w' from fun t N w' ht hst' =>
    ⟨ad, cap, ks, t, rfl, ht, (HS.out.keep (fun b hb => hst'.grown.block b hb.2 (by have := hb.1; simp; omega))).mono fun b hb => ⟨Nat.le_trans HB.out.size hb.1, Nat.lt_of_lt_of_le hb.2 hst'.grown.size⟩, hst'.old HO.out hg⟩)
  clear hs hst h4 hrq
  go_wp2_with fail
  refine (type_step HS2.out (by omega) HS.out HF2.out (by omega) H4.out).mono ?_
  rintro e w3 ⟨t, ht, rfl, hS3, hg3⟩
  have HS3 := Lib.hid hS3
  clear hS3 hg3
  go_wp2_with fail
  refine (pick_at HS3.out (by omega) (by omega)).mono ?_
  rintro e w4 ⟨k, rfl, hk, hS4, hg4⟩
  have HS4 := Lib.hid hS4
  clear hS4 hg4 hk
  by_cases hk0 : (k : Int) = 0
  · have hb0 : ((k : Int) == 0) = true := by simpa using hk0
    clear hk0
    go_wp2_with fail
    refine (of_step (w := w4) (xs := [⟨#[]⟩, ⟨#[38]⟩, ⟨#[33, 33, 110]⟩, ⟨#[83, 53]⟩]) HS4.out (by omega) (by simp) rfl (by simp) (by simp) (by intro x hx; simp at hx; rcases hx with rfl | rfl | rfl | rfl <;> decide)).mono ?_
    rintro e w5 ⟨s, hs, rfl, hS5, hg5⟩
    have HE := HQ.out s _ _ (by simp at hs; rcases hs with rfl | rfl | rfl | rfl <;> decide) hS5
    have HEH := Lib.hid HE
    clear hs hS5 hg5 HE
    go_wp2
    go_ret2
    exact HEH.out
  · have hb0 : ((k : Int) == 0) = false := by simpa using hk0
    clear hk0
    have HEH := Lib.hid (HQ.out t _ _ ht HS4.out)
    go_wp2
    go_ret2
    exact HEH.out

set_option maxRecDepth 100000 in
set_option maxHeartbeats 1000000 in
theorem drawTypeAble_any (F : Nat → Prop) (v : Value) (xs : List Nat) (w : World) (hv : Cod.u8.Sl F w v xs) (hF : ∀ b, F b → b < w.heap.size) :
    Calls Try.prog 20 #[v] w (DrawnKt w) := by
  go_enter Try.func20, Try.ntmps20
  go_wp2_with fail
  refine (open_any F v xs w hv hF).mono ?_
  rintro e w1 ⟨g, rfl, hg, hr, hb⟩
  have HR := Lib.hid hr
  have HB := Lib.hid hb
  have hgl := hr.lt
  clear hr hb
  go_wp2_with fail
  refine (kinds_any g 0 w1 HR.out (by omega)).mono ?_
  rintro e w2 ⟨ad, cap, ks, rfl, h3, h4, hs, hst⟩
  obtain ⟨⟨q, hq, hrq⟩, _⟩ := id hst
  have HO := Lib.hid (hst.old HB.out hg)
  have HS := Lib.hid hs
  have HF2 := Lib.hid (show ∀ b, Fresh w1 w2 b → b < w2.heap.size ∧ b ≠ g from fun b hb => ⟨hb.2, by have := hb.1; omega⟩)
  have H4 := Lib.hid (show ∀ r ∈ ks, r.length ≤ 10 from fun r hr => by have := h4 r hr; omega)
  have HS2 := Lib.hid (show Step g q 0 w2 w2 from Step.start hrq)
  have HQ := Lib.hid (show ∀ (t : ByteArray) (N : Nat) (w' : World), t.size ≤ 50 → Step g q N w2 w' → DrawnKt w (.returned (.tuple #[.slice (some ⟨ad, 0, none⟩) ks.length cap, .string t])) w' from fun t N w' ht hst' =>
    ⟨ad, cap, ks, t, rfl, ht, (HS.out.keep (fun b hb => hst'.grown.block b hb.2 (by have := hb.1; simp; omega))).mono fun b hb => ⟨Nat.le_trans HB.out.size hb.1, Nat.lt_of_lt_of_le hb.2 hst'.grown.size⟩, hst'.old HO.out hg⟩)
  clear hs hst h4 hrq
  go_wp2_with fail
  refine (type_step HS2.out (by omega) HS.out HF2.out (by omega) H4.out).mono ?_
  rintro e w3 ⟨t, ht, rfl, hS3, hg3⟩
  have HS3 := Lib.hid hS3
  clear hS3 hg3
  go_wp2_with fail
  refine (pick_at HS3.out (by omega) (by omega)).mono ?_
  rintro e w4 ⟨k, rfl, hk, hS4, hg4⟩
  have HS4 := Lib.hid hS4
  clear hS4 hg4 hk
  by_cases hk0 : (k : Int) = 0
  · have hb0 : ((k : Int) == 0) = true := by simpa using hk0
    clear hk0
    go_wp2_with fail
    refine (of_step (w := w4) (xs := [⟨#[]⟩, ⟨#[83, 50, 50]⟩, ⟨#[38, 83]⟩]) HS4.out (by omega) (by simp) rfl (by simp) (by simp) (by intro x hx; simp at hx; rcases hx with rfl | rfl | rfl <;> decide)).mono ?_
    rintro e w5 ⟨s, hs, rfl, hS5, hg5⟩
    have HE := HQ.out s _ _ (by simp at hs; rcases hs with rfl | rfl | rfl <;> decide) hS5
    have HEH := Lib.hid HE
    clear hs hS5 hg5 HE
    go_wp2
    go_ret2
    exact HEH.out
  · have hb0 : ((k : Int) == 0) = false := by simpa using hk0
    clear hk0
    have HEH := Lib.hid (HQ.out t _ _ ht HS4.out)
    go_wp2
    go_ret2
    exact HEH.out

theorem append_toList (a b : ByteArray) : (a ++ b).toList = a.toList ++ b.toList := by
  rw [toList_data, toList_data, toList_data]; simp
theorem sign_of (c : UInt8) (hc : c = 38 ∨ c = 33) (p : ByteArray) : refB (⟨#[c]⟩ ++ p) = true ∧ ofT (⟨#[c]⟩ ++ p) = p ∧ amp (⟨#[c]⟩ ++ p) = decide (c = 38) := by
  have hs : (⟨#[c]⟩ ++ p : ByteArray).size = 1 + p.size := by rw [ByteArray.size_append]; rfl
  have h0 : (⟨#[c]⟩ ++ p : ByteArray)[0]'(by omega) = c := by
    have := get_toList (⟨#[c]⟩ ++ p) 0 (by omega)
    rw [append_toList, toList_data] at this
    simpa using this.symm
  have hr : refB (⟨#[c]⟩ ++ p) = true := by
    unfold refB
    rw [dif_pos (by omega), h0]
    rcases hc with rfl | rfl <;> rfl
  refine ⟨hr, ?_, ?_⟩
  · unfold ofT
    rw [if_pos hr]
    apply ext_toList
    rw [toList_data, ByteArray.data_extract, toList_data]
    simp [hs]
    exact List.take_of_length_le (by simp)
  · unfold amp
    rw [dif_pos (by omega), h0]
    rcases hc with rfl | rfl <;> rfl
theorem plain_sign {ks : Ks} {p : ByteArray} (h : plainB ks p = true) : refB p = false := by
  unfold plainB at h
  simp only [Bool.or_eq_true] at h
  rcases h with h | h
  · exact refB_base h
  · cases hk : kindOf p with
    | none => rw [hk] at h; cases h
    | some mk => exact refB_kind hk
/-- Of a type, its plain one and its references. -/
theorem ok_plain {ks : Ks} {t : ByteArray} (h : typeOkB ks t = true) : plainT ks t = ofT t ∧ typeOkB ks (ofT t) = true ∧ plainT ks (ofT t) = ofT t ∧
    (∀ c : UInt8, (c = 38 ∨ c = 33) → typeOkB ks (⟨#[c]⟩ ++ ofT t) = true ∧ typeAble ks (⟨#[c]⟩ ++ ofT t) = if c = 38 then 3 else 2) := by
  have hh := h
  unfold typeOkB at hh
  simp only [Bool.and_eq_true] at hh
  have ho : ofT (ofT t) = ofT t := by
    have hr := plain_sign hh.2
    show (if refB (ofT t) then _ else ofT t) = _
    rw [hr]; rfl
  have h2 : typeOkB ks (ofT t) = true := by unfold typeOkB; rw [ho, hh.1, hh.2]; rfl
  refine ⟨by unfold plainT; rw [h]; rfl, h2, by unfold plainT; rw [h2, ho]; rfl, fun c hc => ?_⟩
  obtain ⟨s1, s2, s3⟩ := sign_of c hc (ofT t)
  have h3 : typeOkB ks (⟨#[c]⟩ ++ ofT t) = true := by unfold typeOkB; rw [s2, hh.1, hh.2]; rfl
  refine ⟨h3, ?_⟩
  unfold typeAble
  rw [h3]
  unfold ableT
  rw [s1, s3]
  rcases hc with rfl | rfl <;> rfl
theorem able_sign {ks : Ks} {t : ByteArray} : (typeOkB ks t = true → 0 ≤ typeAble ks t) ∧ (typeOkB ks t = false → typeAble ks t = -1) := by
  constructor
  · intro h
    have h1 := able_range ks t
    have h2 : (typeAble ks t != -1) = true := by rw [typeAble_iff]; exact h
    rw [bne_iff_ne] at h2
    omega
  · intro h
    have h2 : (typeAble ks t != -1) = false := by rw [typeAble_iff]; exact h
    simpa using h2
end Go.Proofs.Ytjmdhjnfekpklaa
