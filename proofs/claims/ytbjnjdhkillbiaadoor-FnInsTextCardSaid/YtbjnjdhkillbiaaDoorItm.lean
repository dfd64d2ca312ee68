/- Instructions read: the words of a text and the number of a word, of the model. Instructions read: the words of a text, by the model. -/
import Derived.Test.YtbjnjdhkillbiaaDoorIti
import Derived.Test.YtbjnjdhkillbiaaDoorItk
namespace Go.Proofs.YtbjnjdhkillbiaaDoor
open Go.RowKit

theorem numGo_bound : ∀ (l : List UInt8) (n : Nat), numGo n l = -1 ∨ (0 ≤ numGo n l ∧ numGo n l < (((n + 1) * 10 ^ l.length : Nat) : Int))
  | [], n => by right; simp [numGo]; omega
  | c :: l, n => by
    rw [numGo]
    split
    · rename_i h
      unfold isD at h
      rcases numGo_bound l (n * 10 + (c.toNat - 48)) with h1 | ⟨h1, h2⟩
      · exact .inl h1
      · refine .inr ⟨h1, Int.lt_of_lt_of_le h2 (Int.ofNat_le.2 ?_)⟩
        have : (n * 10 + (c.toNat - 48) + 1) * 10 ^ l.length ≤ ((n + 1) * 10) * 10 ^ l.length := Nat.mul_le_mul_right _ (by omega)
        rw [Nat.mul_assoc, ← Nat.pow_succ'] at this
        exact this
    · exact .inl rfl
theorem numW_bound (l : List UInt8) : -1 ≤ numW l ∧ numW l ≤ 100000000 := by
  unfold numW
  split
  · omega
  · rename_i h
    have hl : l.length ≤ 8 := by omega
    have hp : 10 ^ l.length ≤ 10 ^ 8 := Nat.pow_le_pow_right (by omega) hl
    have := numGo_bound l 0
    omega
theorem numW_I64 (l : List UInt8) : I64 (numW l) := by have := numW_bound l; unfold I64; omega

theorem numGo_step {s : ByteArray} {j m : Nat} {R : Int} (hj : j < s.size) (h : numGo m (s.data.toList.drop j) = R) : (isD s[j] → numGo (m * 10 + (s[j].toNat - 48)) (s.data.toList.drop (j + 1)) = R) ∧ (¬ isD s[j] → R = -1) := by
  have hl : j < s.data.toList.length := by simpa using hj
  rw [drop_cons hl] at h
  have e : s.data.toList[j] = s[j] := rfl
  rw [numGo, e] at h
  constructor
  · intro hd
    rw [if_pos hd] at h
    exact h
  · intro hd
    rw [if_neg hd] at h
    exact h.symm
theorem numGo_end {s : ByteArray} {j m : Nat} {R : Int} (hj : j = s.size) (h : numGo m (s.data.toList.drop j) = R) : (m : Int) = R := by
  rw [List.drop_of_length_le (by simp; omega)] at h
  exact h
theorem numW_no {s : ByteArray} (h : s.size = 0 ∨ 8 < s.size ∨ (1 < s.size ∧ ∃ h : 0 < s.size, s[0].toNat = 48)) : numW s.data.toList = -1 := by
  unfold numW
  rw [if_pos]
  have e : s.data.toList.length = s.size := by simp
  rw [e]
  rcases h with h | h | ⟨h, h0, hc⟩
  · exact .inl h
  · exact .inr (.inl h)
  · refine .inr (.inr ⟨h, ?_⟩)
    rw [List.head?_eq_getElem?, List.getElem?_eq_getElem (by omega)]
    have : s.data.toList[0]'(by omega) = s[0] := rfl
    rw [this]
    congr 1
    exact UInt8.toNat_inj.1 hc
theorem numW_yes {s : ByteArray} (h0 : 0 < s.size) (h8 : s.size ≤ 8) (h : ¬ (1 < s.size ∧ s[0].toNat = 48)) : numGo 0 s.data.toList = numW s.data.toList := by
  unfold numW
  have e : s.data.toList.length = s.size := by simp
  rw [e, if_neg]
  rintro (h1 | h1 | ⟨h1, h2⟩)
  · omega
  · omega
  · apply h
    refine ⟨h1, ?_⟩
    rw [List.head?_eq_getElem?, List.getElem?_eq_getElem (by omega)] at h2
    have e2 : s.data.toList[0]'(by omega) = s[0] := rfl
    rw [e2] at h2
    have := congrArg UInt8.toNat (Option.some.inj h2)
    exact this

set_option maxRecDepth 100000 in
set_option maxHeartbeats 2000000 in
theorem l3Number_any (s : ByteArray) (w : World) (hs : s.size ≤ 2000000) : Calls Tryd.prog 58 #[.string s] w fun e w' => e = .returned (.int .i64 (numW s.data.toList)) ∧ w' = w := by
  by_cases h0 : s.size = 0
  · have HR := Lib.hid (numW_no (.inl h0))
    have b0 : ((s.size : Int) == 0) = true := by rw [beq_iff_eq]; omega
    clear h0
    go_enter Tryd.func58, Tryd.ntmps58
    go_wp2
    go_ret
    exact ⟨ret_int HR.out.symm, rfl⟩
  · have b0 : ((s.size : Int) == 0) = false := by rw [beq_eq_false_iff_ne]; omega
    by_cases h8 : 8 < s.size
    · have HR := Lib.hid (numW_no (.inr (.inl h8)))
      have b8 : (8 : Int) < s.size := by omega
      clear h0 h8
      go_enter Tryd.func58, Tryd.ntmps58
      go_wp2
      go_ret
      exact ⟨ret_int HR.out.symm, rfl⟩
    · have b8 : ¬ (8 : Int) < s.size := by omega
      by_cases h1 : 1 < s.size ∧ (s[0]'(by omega)).toNat = 48
      · have HR := Lib.hid (numW_no (.inr (.inr ⟨h1.1, by omega, h1.2⟩)))
        have b1 : (1 : Int) < s.size := by omega
        have hp : 0 < s.size := by omega
        have b2 : (((s[0]'hp).toNat : Int) == 48) = true := by rw [beq_iff_eq]; omega
        clear h0 h8 h1
        go_enter Tryd.func58, Tryd.ntmps58
        go_wp2
        go_ret
        exact ⟨ret_int HR.out.symm, rfl⟩
      · have HR := Lib.hid (numW_yes (by omega) (by omega) h1)
        have hp : 0 < s.size := by omega
        have hs8 : s.size ≤ 8 := by omega
        have H1 : Hid (¬ (1 < s.size ∧ (s[0]'hp).toNat = 48)) := h1
        clear h0 h8 h1
        by_cases h1s : 1 < s.size
        · have b1 : (1 : Int) < s.size := by omega
          have b2 : (((s[0]'hp).toNat : Int) == 48) = false := by rw [beq_eq_false_iff_ne]; intro he; exact H1.out ⟨h1s, by omega⟩
          clear h1s
          go_enter Tryd.func58, Tryd.ntmps58
          go_wp2
          go_loopw [4, 3] (fun i n wr => ∃ (j m : Nat), j ≤ s.size ∧ i = .int .i64 j ∧ n = .int .i64 m ∧ Hid (m < 10 ^ j) ∧ Hid (numGo m (s.data.toList.drop j) = numW s.data.toList) ∧ wr = w) (fun i _ _ => s.size - (intOf i).toNat)
          case atStart => exact ⟨0, 0, by omega, rfl, rfl, (show 0 < 10 ^ 0 by decide), HR.out, rfl⟩
          case round =>
            obtain ⟨j, m, hj, rfl, rfl, hm, HN, hw⟩ := hrel
            subst hw
            by_cases hlt : j < s.size
            · obtain ⟨hst, hno⟩ := numGo_step hlt HN.out
              have hm7 : m < 10 ^ 7 := Nat.lt_of_lt_of_le hm.out (Nat.pow_le_pow_right (by omega) (by omega))
              have hm8 : m < 10000000 := hm7
              have i0 : (0 : Int) ≤ j := by omega
              have i1 : (j : Int) < s.size := by omega
              obtain ⟨c, hc⟩ : ∃ c : Nat, (s[j]).toNat = c := ⟨_, rfl⟩
              have hc256 : c < 256 := by rw [← hc]; exact UInt8.toNat_lt _
              clear hm7
              by_cases hd : 48 ≤ c ∧ c ≤ 57
              · have Hst := Lib.hid (hst (by unfold isD; rw [hc]; exact hd))
                have Hm2 := Lib.hid (show m * 10 + (c - 48) < 10 ^ (j + 1) by rw [Nat.pow_succ]; have := hm.out; omega)
                rw [hc] at Hst
                have d1 : ¬ (c : Int) < 48 := by omega
                have d2 : ¬ (57 : Int) < c := by omega
                have e1 : IntKind.u8.wrap ((c : Int) - 48) = (c : Int) - 48 := by rw [IntKind.wrap_u8]; omega
                have e2 : IntKind.i64.wrap ((m : Int) * 10) = (m : Int) * 10 := by rw [IntKind.wrap_i64]; omega
                have e3 : IntKind.i64.wrap ((c : Int) - 48) = (c : Int) - 48 := by rw [IntKind.wrap_i64]; omega
                have e4 : IntKind.i64.wrap ((m : Int) * 10 + ((c : Int) - 48)) = (m : Int) * 10 + ((c : Int) - 48) := by rw [IntKind.wrap_i64]; omega
                have Hd := Lib.hid hd
                clear hst hno hd
                go_wp2
                go_roundw
                case rel => exact ⟨j + 1, m * 10 + (c - 48), by omega, by go_num, by have := Hd.out; congr 1; omega, Hm2, Hst, by first | rfl | trivial⟩
                case measure => simp [intOf]; omega
              · have HNo := Lib.hid (hno (by unfold isD; rw [hc]; exact hd))
                rcases Nat.lt_or_ge c 48 with hl | hg
                · have d1 : (c : Int) < 48 := by omega
                  clear hst hno hd hl
                  go_wp2
                  go_ret
                  exact ⟨ret_int HNo.out.symm, rfl⟩
                · have d1 : ¬ (c : Int) < 48 := by omega
                  have d2 : (57 : Int) < c := by omega
                  clear hst hno hd hg
                  go_wp2
                  go_ret
                  exact ⟨ret_int HNo.out.symm, rfl⟩
            · have HE := Lib.hid (numGo_end (by omega) HN.out)
              go_wp2
              go_ret
              exact ⟨ret_int HE.out, rfl⟩
        · have b1 : ¬ (1 : Int) < s.size := by omega
          clear h1s
          go_enter Tryd.func58, Tryd.ntmps58
          go_wp2
          go_loopw [4, 3] (fun i n wr => ∃ (j m : Nat), j ≤ s.size ∧ i = .int .i64 j ∧ n = .int .i64 m ∧ Hid (m < 10 ^ j) ∧ Hid (numGo m (s.data.toList.drop j) = numW s.data.toList) ∧ wr = w) (fun i _ _ => s.size - (intOf i).toNat)
          case atStart => exact ⟨0, 0, by omega, rfl, rfl, (show 0 < 10 ^ 0 by decide), HR.out, rfl⟩
          case round =>
            obtain ⟨j, m, hj, rfl, rfl, hm, HN, hw⟩ := hrel
            subst hw
            by_cases hlt : j < s.size
            · obtain ⟨hst, hno⟩ := numGo_step hlt HN.out
              have hm7 : m < 10 ^ 7 := Nat.lt_of_lt_of_le hm.out (Nat.pow_le_pow_right (by omega) (by omega))
              have hm8 : m < 10000000 := hm7
              have i0 : (0 : Int) ≤ j := by omega
              have i1 : (j : Int) < s.size := by omega
              obtain ⟨c, hc⟩ : ∃ c : Nat, (s[j]).toNat = c := ⟨_, rfl⟩
              have hc256 : c < 256 := by rw [← hc]; exact UInt8.toNat_lt _
              clear hm7
              by_cases hd : 48 ≤ c ∧ c ≤ 57
              · have Hst := Lib.hid (hst (by unfold isD; rw [hc]; exact hd))
                have Hm2 := Lib.hid (show m * 10 + (c - 48) < 10 ^ (j + 1) by rw [Nat.pow_succ]; have := hm.out; omega)
                rw [hc] at Hst
                have d1 : ¬ (c : Int) < 48 := by omega
                have d2 : ¬ (57 : Int) < c := by omega
                have e1 : IntKind.u8.wrap ((c : Int) - 48) = (c : Int) - 48 := by rw [IntKind.wrap_u8]; omega
                have e2 : IntKind.i64.wrap ((m : Int) * 10) = (m : Int) * 10 := by rw [IntKind.wrap_i64]; omega
                have e3 : IntKind.i64.wrap ((c : Int) - 48) = (c : Int) - 48 := by rw [IntKind.wrap_i64]; omega
                have e4 : IntKind.i64.wrap ((m : Int) * 10 + ((c : Int) - 48)) = (m : Int) * 10 + ((c : Int) - 48) := by rw [IntKind.wrap_i64]; omega
                have Hd := Lib.hid hd
                clear hst hno hd
                go_wp2
                go_roundw
                case rel => exact ⟨j + 1, m * 10 + (c - 48), by omega, by go_num, by have := Hd.out; congr 1; omega, Hm2, Hst, by first | rfl | trivial⟩
                case measure => simp [intOf]; omega
              · have HNo := Lib.hid (hno (by unfold isD; rw [hc]; exact hd))
                rcases Nat.lt_or_ge c 48 with hl | hg
                · have d1 : (c : Int) < 48 := by omega
                  clear hst hno hd hl
                  go_wp2
                  go_ret
                  exact ⟨ret_int HNo.out.symm, rfl⟩
                · have d1 : ¬ (c : Int) < 48 := by omega
                  have d2 : (57 : Int) < c := by omega
                  clear hst hno hd hg
                  go_wp2
                  go_ret
                  exact ⟨ret_int HNo.out.symm, rfl⟩
            · have HE := Lib.hid (numGo_end (by omega) HN.out)
              go_wp2
              go_ret
              exact ⟨ret_int HE.out, rfl⟩

theorem one_byte {s : ByteArray} {j : Nat} (hj : j < s.size) : (s.extract j (j + 1)).data.toList = [s[j]] := by
  have hl : j < s.data.toList.length := by simpa using hj
  rw [Lib.extract_eq]
  show List.take (j + 1 - j) (List.drop j s.data.toList) = _
  rw [drop_cons hl, show j + 1 - j = 1 by omega]
  rfl
theorem size_one {s : ByteArray} {j : Nat} (hj : j < s.size) : (s.extract j (j + 1)).size = 1 := by
  simp
  omega

/-- The words of a text. -/
def wsB (s : ByteArray) : List ByteArray := (wordsL [] s.data.toList).map fun l => ⟨l.toArray⟩
/-- Half way. -/
def WordsAt (s : ByteArray) (acc : List ByteArray) (cur : ByteArray) (j : Nat) : Prop := acc.map (fun x => x.data.toList) ++ wordsL cur.data.toList (s.data.toList.drop j) = wordsL [] s.data.toList
theorem WordsAt.blank {s : ByteArray} {acc : List ByteArray} {cur : ByteArray} {j : Nat} (h : WordsAt s acc cur j) (hj : j < s.size) (hc : s[j].toNat = 32) : WordsAt s (acc ++ [cur]) ⟨#[]⟩ (j + 1) := by
  unfold WordsAt at h ⊢
  have hl : j < s.data.toList.length := by simpa using hj
  have e : s.data.toList[j] = s[j] := rfl
  rw [drop_cons hl, e, wordsL, if_pos hc] at h
  rw [List.map_append, List.append_assoc]
  exact h
theorem WordsAt.byte {s : ByteArray} {acc : List ByteArray} {cur : ByteArray} {j : Nat} (h : WordsAt s acc cur j) (hj : j < s.size) (hc : ¬ s[j].toNat = 32) : WordsAt s acc (cur ++ s.extract j (j + 1)) (j + 1) := by
  unfold WordsAt at h ⊢
  have hl : j < s.data.toList.length := by simpa using hj
  have e : s.data.toList[j] = s[j] := rfl
  rw [drop_cons hl, e, wordsL, if_neg hc] at h
  rw [ByteArray.data_append, Array.toList_append, one_byte hj]
  exact h
theorem WordsAt.end_ {s : ByteArray} {acc : List ByteArray} {cur : ByteArray} {j : Nat} (h : WordsAt s acc cur j) (hj : j = s.size) : acc ++ [cur] = wsB s := by
  unfold WordsAt at h
  rw [List.drop_of_length_le (by simp; omega)] at h
  unfold wsB
  rw [← h, List.map_append, List.map_map]
  have e : ((fun l : List UInt8 => (⟨l.toArray⟩ : ByteArray)) ∘ fun x : ByteArray => x.data.toList) = id := by
    funext x
    exact mk_L x
  rw [e, List.map_id]
  show _ = acc ++ [(⟨cur.data.toList.toArray⟩ : ByteArray)]
  rw [mk_L]

/-- A word of a row of the call's own, put anew. -/
theorem OwnS.set_ {B : Nat} {w : World} {v : Value} {acc : List ByteArray} {cur : ByteArray} (h : OwnS B w v (acc ++ [cur])) : ∃ g cap, v = .slice (some ⟨g, 0, none⟩) (acc.length + 1) cap ∧ acc.length + 1 ≤ cap ∧ cap ≤ maxLen ∧ B ≤ g ∧ w.cell? ⟨g, acc.length, none⟩ = some (.string cur) ∧ w.frozen? ⟨g, acc.length, none⟩ = false ∧
    ∀ y : ByteArray, OwnS B (w.setCell ⟨g, acc.length, none⟩ (.string y)) v (acc ++ [y]) := by
  have hlen : (acc ++ [cur]).length = acc.length + 1 := by simp
  rcases h.2 with ⟨_, h0⟩ | ⟨g, cap, cur', rfl, hg, hh, hn, hc, hcs, ht⟩
  · rw [hlen] at h0; omega
  · have hB : Blk w g 9 cur' := hh
    rw [hlen] at hn ht
    have hat : cur'[acc.length]? = some (.string cur) := by
      have h1 : (strVs (acc ++ [cur]))[acc.length]? = some (.string cur) := by unfold strVs; simp
      rw [← ht, List.getElem?_take] at h1
      split at h1
      · simpa using h1
      · cases h1
    have hlt : acc.length < cur'.size := (Array.getElem?_eq_some_iff.1 hat).1
    refine ⟨g, cap, by rw [hlen], hn, hc, hg, by rw [hB.cell]; exact hat, hB.frozen _, fun y => ?_⟩
    refine ⟨by unfold strVs; simp, .inr ⟨g, cap, cur'.setIfInBounds acc.length (.string y), by simp, hg, hB.set_ _ _, by simpa using hn, hc, by simpa using hcs, ?_⟩⟩
    have e1 : (acc ++ [y]).length * 1 = acc.length + 1 := by simp
    rw [Nat.mul_one] at ht
    rw [e1, Array.toList_setIfInBounds]
    apply List.ext_getElem?
    intro i
    have hi := congrArg (fun l => l[i]?) ht
    simp only [List.getElem?_take] at hi ⊢
    unfold strVs at hi ⊢
    by_cases hlt2 : i < acc.length + 1
    · rw [if_pos hlt2] at hi ⊢
      by_cases he : i = acc.length
      · subst he
        rw [List.getElem?_set_self (by simpa using hlt)]
        simp
      · rw [List.getElem?_set_ne (by omega), hi, List.map_append, List.map_append, List.getElem?_append_left (by simp; omega), List.getElem?_append_left (by simp; omega)]
    · rw [if_neg hlt2, List.getElem?_eq_none (by simp; omega)]
end Go.Proofs.YtbjnjdhkillbiaaDoor

namespace Go.Proofs.YtbjnjdhkillbiaaDoor
open Go.RowKit

set_option maxRecDepth 100000 in
set_option maxHeartbeats 4000000 in
theorem l3Words_any (s : ByteArray) (w : World) (hs : s.size ≤ 40) : Calls Tryd.prog 57 #[.string s] w fun e w' => ∃ A cap, e = .returned (.slice A (wsB s).length cap) ∧ Cod.str.Sl (Fresh w w') w' (.slice A (wsB s).length cap) (wsB s) ∧ Below w.heap.size w w' := by
  have HO : Hid (OwnS w.heap.size (w.alloc (.cells #[.string ⟨#[]⟩] 9)) (.slice (some ⟨w.heap.size, 0, none⟩) 1 1) ([] ++ [⟨#[]⟩])) := ⟨rfl, .inr ⟨w.heap.size, 1, #[.string ⟨#[]⟩], rfl, Nat.le_refl _, Blk.new w 9 #[.string ⟨#[]⟩], by simp, by simp [maxLen], by simp, rfl⟩⟩
  have HW0 := Lib.hid ((Below.refl w.heap.size w).alloc (Nat.le_refl _) (.cells #[.string ⟨#[]⟩] 9))
  go_enter Tryd.func57, Tryd.ntmps57
  go_wp2_with fail
  go_loopw [4, 3] (fun i v wr => ∃ (j n : Nat) (acc : List ByteArray) (cur : ByteArray), j ≤ s.size ∧ i = .int .i64 j ∧ n = acc.length ∧ n ≤ j ∧ Hid (cur.size ≤ j ∧ (∀ x ∈ acc, x.size ≤ 40)) ∧ Hid (WordsAt s acc cur j) ∧ Hid (OwnS w.heap.size wr v (acc ++ [cur])) ∧ Hid (Below w.heap.size w wr)) (fun i _ _ => s.size - (intOf i).toNat)
  case atStart => exact ⟨0, 0, [], ⟨#[]⟩, by omega, rfl, rfl, Nat.le_refl _, ⟨Nat.le_refl _, fun _ h => by simp at h⟩, rfl, HO, HW0⟩
  case round =>
    obtain ⟨j, n, acc, cur, hj, rfl, hn, hnj, hcz, HA, HOr, HBe⟩ := hrel
    have Hn := Lib.hid hn
    by_cases hlt : j < s.size
    · have i0 : (0 : Int) ≤ j := by omega
      have i1 : (j : Int) < s.size := by omega
      obtain ⟨c, hc⟩ : ∃ c : Nat, (s[j]).toNat = c := ⟨_, rfl⟩
      by_cases hd : c = 32
      · have HA2 := Lib.hid (HA.out.blank hlt (by rw [hc]; exact hd))
        have hb : ((c : Int) == 32) = true := by rw [beq_iff_eq]; omega
        obtain ⟨g, cap, w2, happ, hO2, hb2, hk2, hg2⟩ := HOr.out.push HBe.out.size (by simp; omega) ⟨#[]⟩
        rw [show (acc ++ [cur]).length + 1 = acc.length + 1 + 1 by simp] at hO2 happ
        have HO2 := Lib.hid hO2
        have HB2 := Lib.hid (HBe.out.trans hb2)
        have Hn2 := Lib.hid (show n + 1 = (acc ++ [cur]).length by simp [hn])
        have Hz := Lib.hid (show (⟨#[]⟩ : ByteArray).size ≤ j + 1 ∧ ∀ x ∈ acc ++ [cur], x.size ≤ 40 from ⟨Nat.zero_le _, fun x hx => by
          rcases List.mem_append.1 hx with hx | hx
          · exact hcz.out.2 x hx
          · obtain rfl := List.mem_singleton.1 hx
            have := hcz.out.1; omega⟩)
        clear hd hn hO2 hb2 hk2 hg2
        go_wp2_with (at_builtin; refine wpList_append_run rfl _ _ _ rfl rfl rfl happ ?_)
        go_roundw
        case rel => exact ⟨j + 1, n + 1, acc ++ [cur], ⟨#[]⟩, by omega, by go_num, Hn2.out, by omega, Hz, HA2, HO2, HB2⟩
        case measure => simp [intOf]; omega
      · have HA2 := Lib.hid (HA.out.byte hlt (by rw [hc]; exact hd))
        have hb : ((c : Int) == 32) = false := by rw [beq_eq_false_iff_ne]; omega
        obtain ⟨g, cap, hv, hcap, hcm, hg, x0, f0, hset⟩ := HOr.out.set_
        have Hset := Lib.hid (hset (cur ++ s.extract j (j + 1)))
        have hone := size_one hlt
        have hcz1 := hcz.out.1
        rw [← hn] at hv hcap x0 f0 Hset
        subst hv
        unfold maxLen at hcm
        have k0 : (0 : Int) ≤ n := by omega
        have k1 : (n : Int) < (n + 1 : Nat) := by omega
        have k2 : (n : Int) + 1 ≤ 100 := by omega
        have hz : (cur ++ s.extract j (j + 1)).size ≤ j + 1 := by rw [ByteArray.size_append, hone]; omega
        have Hz := Lib.hid (show (cur ++ s.extract j (j + 1)).size ≤ j + 1 ∧ ∀ x ∈ acc, x.size ≤ 40 from ⟨hz, hcz.out.2⟩)
        have HB2 := Lib.hid (show Below w.heap.size w (wr.setCell ⟨g, n, none⟩ (.string (cur ++ s.extract j (j + 1)))).drew from (HBe.out.setCell (by simpa using hg) _).drew)
        have hgw : w.heap.size ≤ g := hg
        clear hd hn hset
        go_wp2_with fail
        go_region
        go_wp2_with fail
        go_roundw
        case rel => exact ⟨j + 1, n, acc, cur ++ s.extract j (j + 1), by omega, by go_num, Hn.out, by omega, Hz, HA2, Hset.out, HB2⟩
        case measure => simp [intOf]; omega
    · have HE := HA.out.end_ (by omega)
      have hsz : ∀ x ∈ wsB s, x.size ≤ maxLen := fun x hx => by
        rw [← HE] at hx
        unfold maxLen
        rcases List.mem_append.1 hx with hx | hx
        · have := hcz.out.2 x hx; omega
        · obtain rfl := List.mem_singleton.1 hx
          have := hcz.out.1; omega
      have hOw := OwnS.own (by rw [← HE]; exact HOr.out : OwnS w.heap.size wr u3 (wsB s)) HBe.out.size hsz
      obtain ⟨A, cap, hv, _, _⟩ := hOw.len_
      rw [hv] at hOw
      subst hv
      have HQ := Lib.hid hOw.sl
      clear HE hsz hOw hn
      go_wp2_with fail
      go_ret
      exact ⟨A, cap, rfl, HQ.out, HBe.out⟩
end Go.Proofs.YtbjnjdhkillbiaaDoor
