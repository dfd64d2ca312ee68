/- Instructions read: the words of a text, the number of a word; what an instruction's text is read as, by the model and by the program. No walk. -/
import Derived.Test.YthkdkefkgmmoiaaDoorIta
import Derived.Test.YthkdkefkgmmoiaaDoorRm
import Derived.Lib.AtoiTie
import Derived.Lib.CutLaws
namespace Go.Proofs.YthkdkefkgmmoiaaDoor
open Go.RowKit

/-- The words of a text, one blank between them. -/
def wordsL : List UInt8 → List UInt8 → List (List UInt8)
  | cur, [] => [cur]
  | cur, c :: r => if c.toNat = 32 then cur :: wordsL [] r else wordsL (cur ++ [c]) r
theorem wordsL_whole : ∀ (l cur rest : List UInt8), (∀ c ∈ l, c.toNat ≠ 32) → wordsL cur (l ++ rest) = wordsL (cur ++ l) rest
  | [], cur, rest, _ => by simp
  | c :: l, cur, rest, h => by
    rw [List.cons_append, wordsL, if_neg (h c (by simp)), wordsL_whole l _ rest fun x hx => h x (by simp [hx]), List.append_assoc]
    rfl
theorem wordsL_end (l cur : List UInt8) (h : ∀ c ∈ l, c.toNat ≠ 32) : wordsL cur l = [cur ++ l] := by
  have := wordsL_whole l cur [] h
  rw [List.append_nil] at this
  rw [this]; rfl
theorem wordsL_blank (l cur rest : List UInt8) (h : ∀ c ∈ l, c.toNat ≠ 32) : wordsL cur (l ++ 32 :: rest) = (cur ++ l) :: wordsL [] rest := by
  rw [wordsL_whole l cur _ h, wordsL, if_pos (by decide)]
theorem isD_word {c : UInt8} (h : isD c) : c.toNat ≠ 32 := by unfold isD at h; omega

/-- The number of digits, behind a number; -1 if there is another byte. -/
def numGo : Nat → List UInt8 → Int
  | n, [] => n
  | n, c :: r => if isD c then numGo (n * 10 + (c.toNat - 48)) r else -1
/-- The number of a word, or -1. -/
def numW (l : List UInt8) : Int := if l.length = 0 ∨ 8 < l.length ∨ (1 < l.length ∧ l.head? = some 48) then -1 else numGo 0 l
theorem numGo_dig : ∀ (l : List UInt8) (n : Nat), (∀ c ∈ l, isD c) → numGo n l = ((l.foldl (fun a c => a * 10 + (c.toNat - 48)) n : Nat) : Int)
  | [], _, _ => rfl
  | c :: l, n, h => by
    rw [numGo, if_pos (h c (by simp)), numGo_dig l _ fun x hx => h x (by simp [hx])]
    rfl
theorem dec_head0 : ∀ m, (Lib.decDigits m).head? = some 48 → m = 0 := by
  intro m
  induction m using Nat.strongRecOn with
  | _ m ih =>
    intro h
    by_cases hm : m < 10
    · rw [Lib.decDigits_one hm] at h
      simp only [List.head?_cons, Option.some.injEq] at h
      have := congrArg UInt8.toNat h
      rw [dig_toNat hm] at this
      have e : (48 : UInt8).toNat = 48 := rfl
      omega
    · rw [Lib.decDigits, dif_neg hm] at h
      have hne := (dec_digits (m / 10)).2.2
      have e : (Lib.decDigits (m / 10)).head? = some 48 := by
        match hl : Lib.decDigits (m / 10), hne with
        | x :: r, _ => rw [hl] at h; exact h
      have := ih (m / 10) (by omega) e
      omega
theorem dec_len {n : Nat} (h : n ≤ 1000000) : (Lib.decDigits n).length ≤ 7 := by
  have := size_decBy 6 n (by omega)
  have e : (decBy n).size = (Lib.decDigits n).length := by
    rw [← decBy_L]; simp
  omega
theorem numW_dec {n : Nat} (h : n ≤ 1000000) : numW (Lib.decDigits n) = n := by
  obtain ⟨h1, h2, h3⟩ := dec_digits n
  have hl := dec_len h
  have hp : (Lib.decDigits n).length ≠ 0 := fun e => h3 (List.eq_nil_of_length_eq_zero e)
  unfold numW
  rw [if_neg, numGo_dig _ _ h1]
  · show ((numL (Lib.decDigits n) : Nat) : Int) = n
    rw [h2]
  · rintro (h | h | ⟨h, he⟩)
    · exact hp h
    · omega
    · have := dec_head0 n he
      subst this
      rw [Lib.decDigits_one (by decide)] at h
      simp at h

/-- What the model reads. -/
def candM (l : List UInt8) : ByteArray × Int × Int :=
  (⟨((wordsL [] l)[0]?.getD []).toArray⟩, match (wordsL [] l)[1]? with | some x => numW x | none => 0, match (wordsL [] l)[2]? with | some x => numW x | none => 0)
/-- The number that strconv.Atoi answers, with an error or without. -/
def atoiV (l : List UInt8) : Int := match Lib.atoiAll l with | .ok v => v | .«syntax» => 0 | .range => Lib.atoiSat l
/-- What the program reads. -/
def candI (l : List UInt8) : ByteArray × Int × Int :=
  (⟨(Lib.cut l [32]).1.toArray⟩, atoiV (Lib.cut (Lib.cut l [32]).2.1 [32]).1, atoiV (Lib.cut (Lib.cut l [32]).2.1 [32]).2.1)

theorem insT_L {op : ByteArray} {a b : Int} (hf : findR op tabRows = some (a, b)) (x y : Int) : (insT op x y).data.toList = op.data.toList ++ (if a = 0 then [] else 32 :: Lib.decDigits x.toNat) ++ (if b = 0 then [] else 32 :: Lib.decDigits y.toNat) := by
  have e : ∀ a x, (numT a x).data.toList = if a = 0 then [] else 32 :: Lib.decDigits x.toNat := fun a x => by
    unfold numT
    split
    · rfl
    · rw [ByteArray.data_append, Array.toList_append, decBy_L]; rfl
  unfold insT
  rw [hf]
  simp only [ByteArray.data_append, Array.toList_append, e]
theorem insOk_find {op : ByteArray} {x y : Int} (h : insOk op x y = true) : ∃ a b, findR op tabRows = some (a, b) ∧ 0 ≤ x ∧ x ≤ a ∧ 0 ≤ y ∧ y ≤ b := by
  unfold insOk at h
  cases hf : findR op tabRows with
  | none => rw [hf] at h; cases h
  | some ab =>
    rw [hf] at h
    simp only [withB, Bool.and_eq_true, decide_eq_true_eq] at h
    exact ⟨_, _, rfl, h.1.1, h.1.2, h.2.1, h.2.2⟩
theorem size_insT {op : ByteArray} {x y : Int} (h : insOk op x y = true) : (insT op x y).size ≤ 40 := by
  obtain ⟨a, b, hf, h0, h1, h2, h3⟩ := insOk_find h
  have ht := find_top hf
  have e : (insT op x y).size = (insT op x y).data.toList.length := by simp
  have l1 := dec_len (n := x.toNat) (by have := ht.a1; omega)
  have l2 := dec_len (n := y.toNat) (by have := ht.b1; omega)
  have l0 : op.data.toList.length = op.size := by simp
  have := ht.few
  rw [e, insT_L hf]
  by_cases ha : a = 0 <;> by_cases hb : b = 0 <;> simp only [ha, hb, if_true, if_false, List.length_append, List.length_nil, List.length_cons] <;> omega
theorem mk_L (op : ByteArray) : (⟨op.data.toList.toArray⟩ : ByteArray) = op := by cases op; simp
theorem candM_text {op : ByteArray} {x y : Int} (h : insOk op x y = true) : candM (insT op x y).data.toList = (op, x, y) := by
  obtain ⟨a, b, hf, h0, h1, h2, h3⟩ := insOk_find h
  have ht := find_top hf
  have hw : ∀ c ∈ op.data.toList, c.toNat ≠ 32 := fun c hc => ht.whole c (by rw [toList_data]; exact hc)
  have d1 : ∀ c ∈ Lib.decDigits x.toNat, c.toNat ≠ 32 := fun c hc => isD_word ((dec_digits _).1 c hc)
  have d2 : ∀ c ∈ Lib.decDigits y.toNat, c.toNat ≠ 32 := fun c hc => isD_word ((dec_digits _).1 c hc)
  have n1 := numW_dec (n := x.toNat) (by have := ht.a1; omega)
  have n2 := numW_dec (n := y.toNat) (by have := ht.b1; omega)
  have hab := ht.ab
  rw [insT_L hf]
  unfold candM
  by_cases ha : a = 0
  · have hb : b = 0 := by omega
    have hx : x = 0 := by omega
    have hy : y = 0 := by omega
    rw [if_pos ha, if_pos hb, List.append_nil, List.append_nil, wordsL_end _ _ hw]
    simp [hx, hy]
  · by_cases hb : b = 0
    · have hy : y = 0 := by omega
      rw [if_neg ha, if_pos hb, List.append_nil, wordsL_blank _ _ _ hw, wordsL_end _ _ d1]
      simp [hy, n1]; omega
    · rw [if_neg ha, if_neg hb, List.append_assoc, List.cons_append, wordsL_blank _ _ _ hw, wordsL_blank _ _ _ d1, wordsL_end _ _ d2]
      simp [n1, n2]; omega

theorem index_blank : ∀ (l r : List UInt8), (∀ c ∈ l, c.toNat ≠ 32) → Lib.index (l ++ 32 :: r) [32] = l.length
  | [], r, _ => by simp [Lib.index]
  | c :: l, r, h => by
    have hc : ¬ (32 : UInt8) = c := fun e => h c (by simp) (by rw [← e]; rfl)
    have ih := index_blank l r fun x hx => h x (by simp [hx])
    rw [List.cons_append, Lib.index, if_neg (by simpa using hc), ih, if_neg (by simp)]
    simp
theorem index_none : ∀ (l : List UInt8), (∀ c ∈ l, c.toNat ≠ 32) → Lib.index l [32] = -1
  | [], _ => by simp [Lib.index]
  | c :: l, h => by
    have hc : ¬ (32 : UInt8) = c := fun e => h c (by simp) (by rw [← e]; rfl)
    have ih := index_none l fun x hx => h x (by simp [hx])
    rw [Lib.index, if_neg (by simpa using hc), ih, if_pos (by simp)]
theorem cut_blank (l r : List UInt8) (h : ∀ c ∈ l, c.toNat ≠ 32) : Lib.cut (l ++ 32 :: r) [32] = (l, r, true) := by
  unfold Lib.cut
  rw [index_blank l r h, if_pos (by omega)]
  simp
theorem cut_none (l : List UInt8) (h : ∀ c ∈ l, c.toNat ≠ 32) : Lib.cut l [32] = (l, [], false) := by
  unfold Lib.cut
  rw [index_none l h, if_neg (by omega)]
theorem foldl_ge : ∀ (l : List UInt8) (n : Nat), n ≤ l.foldl (fun a c => a * 10 + (c.toNat - 48)) n
  | [], _ => Nat.le_refl _
  | c :: l, n => Nat.le_trans (by omega) (foldl_ge l (n * 10 + (c.toNat - 48)))
theorem parse_dig : ∀ (l : List UInt8) (n : Nat), (∀ c ∈ l, isD c) → l.foldl (fun a c => a * 10 + (c.toNat - 48)) n ≤ 1000000 → Lib.parseUint10 n l = .ok (l.foldl (fun a c => a * 10 + (c.toNat - 48)) n)
  | [], _, _, _ => rfl
  | c :: l, n, h, hb => by
    have hc := h c (by simp)
    have hg := foldl_ge l (n * 10 + (c.toNat - 48))
    have hb' : l.foldl (fun a c => a * 10 + (c.toNat - 48)) (n * 10 + (c.toNat - 48)) ≤ 1000000 := hb
    unfold isD at hc
    rw [Lib.parseUint10, if_pos hc, if_neg (by omega), if_neg (by omega), parse_dig l _ (fun x hx => h x (by simp [hx])) hb']
    rfl
theorem atoiV_nil : atoiV [] = 0 := rfl
theorem atoiV_dec {n : Nat} (h : n ≤ 1000000) : atoiV (Lib.decDigits n) = n := by
  obtain ⟨h1, h2, h3⟩ := dec_digits n
  have hp := parse_dig (Lib.decDigits n) 0 h1 (by show numL (Lib.decDigits n) ≤ _; omega)
  rw [show (Lib.decDigits n).foldl (fun a c => a * 10 + (c.toNat - 48)) 0 = n from h2] at hp
  have hm : Lib.parseMag (Lib.decDigits n) = .ok n := by unfold Lib.parseMag; rw [if_neg h3, hp]
  unfold atoiV
  match hl : Lib.decDigits n, h3 with
  | c :: r, _ =>
    have hc := h1 c (by rw [hl]; simp)
    unfold isD at hc
    rw [hl] at hm
    rw [Lib.atoiAll_plain c r (by omega) (by omega), hm]
    simp only [Lib.signless]
    rw [if_neg (by omega)]
theorem candI_text {op : ByteArray} {x y : Int} (h : insOk op x y = true) : candI (insT op x y).data.toList = (op, x, y) := by
  obtain ⟨a, b, hf, h0, h1, h2, h3⟩ := insOk_find h
  have ht := find_top hf
  have hw : ∀ c ∈ op.data.toList, c.toNat ≠ 32 := fun c hc => ht.whole c (by rw [toList_data]; exact hc)
  have d1 : ∀ c ∈ Lib.decDigits x.toNat, c.toNat ≠ 32 := fun c hc => isD_word ((dec_digits _).1 c hc)
  have d2 : ∀ c ∈ Lib.decDigits y.toNat, c.toNat ≠ 32 := fun c hc => isD_word ((dec_digits _).1 c hc)
  have n1 := atoiV_dec (n := x.toNat) (by have := ht.a1; omega)
  have n2 := atoiV_dec (n := y.toNat) (by have := ht.b1; omega)
  have hab := ht.ab
  have e0 : Lib.cut [] [32] = ([], [], false) := rfl
  rw [insT_L hf]
  unfold candI
  by_cases ha : a = 0
  · have hb : b = 0 := by omega
    have hx : x = 0 := by omega
    have hy : y = 0 := by omega
    rw [if_pos ha, if_pos hb, List.append_nil, List.append_nil, cut_none _ hw]
    simp only [e0, atoiV_nil, hx, hy, mk_L]
  · by_cases hb : b = 0
    · have hy : y = 0 := by omega
      rw [if_neg ha, if_pos hb, List.append_nil, cut_blank _ _ hw]
      simp only [cut_none _ d1, atoiV_nil, n1, hy, mk_L]
      congr 2; omega
    · rw [if_neg ha, if_neg hb, List.append_assoc, List.cons_append, cut_blank _ _ hw]
      simp only [cut_blank _ _ d1, n1, n2, mk_L]
      congr 2 <;> omega

/-- Whether what was read is an instruction with that text. -/
def isText (s : ByteArray) (c : ByteArray × Int × Int) : Prop := insOk c.1 c.2.1 c.2.2 = true ∧ insT c.1 c.2.1 c.2.2 = s
theorem cand_same {s : ByteArray} (h : isText s (candM s.data.toList)) : candI s.data.toList = candM s.data.toList := by
  obtain ⟨h1, h2⟩ := h
  have := candI_text h1
  rw [h2] at this
  exact this
theorem cand_same' {s : ByteArray} (h : isText s (candI s.data.toList)) : candM s.data.toList = candI s.data.toList := by
  obtain ⟨h1, h2⟩ := h
  have := candM_text h1
  rw [h2] at this
  exact this
theorem isText_iff (s : ByteArray) : isText s (candI s.data.toList) ↔ isText s (candM s.data.toList) :=
  ⟨fun h => by rw [cand_same' h]; exact h, fun h => by rw [cand_same h]; exact h⟩
theorem isText_size {s : ByteArray} (h : isText s (candM s.data.toList)) : s.size ≤ 40 := by
  rw [← h.2]; exact size_insT h.1
instance (s : ByteArray) (c : ByteArray × Int × Int) : Decidable (isText s c) := by unfold isText; exact inferInstance
/-- What is read. -/
def insRead (s : ByteArray) : (ByteArray × Int × Int) × Bool := if isText s (candM s.data.toList) then (candM s.data.toList, true) else ((⟨#[]⟩, 0, 0), false)
end Go.Proofs.YthkdkefkgmmoiaaDoor
