/- The model of types, go on: records, kinds, types. The model of types, the end: kinds, types, abilities, what holds what. The model of types, the last: what holds what. -/
import Derived.Test.YthkdkefkgmmoiaaDoorSp
import Derived.Test.YthkdkefkgmmoiaaDoorStr
namespace Go.Proofs.YthkdkefkgmmoiaaDoor
open Go.RowKit

/-- May a record with some abilities have a field with others? -/
def condA (able a : Int) : Bool := !(canB able 1 && !canB a 1 || canB able 2 && !canB a 2) && !(decide (4 ≤ able) && !canB a 4)
def recB (ks : Ks) (m k : Nat) : Bool :=
  (decide (0 ≤ (recAt ks m k).able) && decide ((recAt ks m k).able ≤ 15)) && decide ((recAt ks m k).fields.length ≤ 3) &&
    (recAt ks m k).fields.all fun f => fieldB ks m k f && condA (recAt ks m k).able (ableT ks f)

theorem base_cases {t : ByteArray} (h : baseB t = true) : t.toList = [110] ∨ t.toList = [98] ∨ t.toList = [111] := by
  unfold baseB at h
  simpa [or_assoc] using h
theorem kindOf_base {t : ByteArray} (h : baseB t = true) : kindOf t = none := by
  unfold kindOf
  split
  · rename_i h3
    have hl : t.toList.length = 3 := by rw [length_toList]; exact h3
    rcases base_cases h with h | h | h <;> rw [h] at hl <;> simp at hl
  · rfl
theorem refB_base {t : ByteArray} (h : baseB t = true) : refB t = false := by
  unfold refB
  split
  · rename_i h0
    have hg := get_toList t 0 h0
    rcases base_cases h with h | h | h <;> rw [h] at hg <;> simp at hg <;> rw [← hg] <;> rfl
  · rfl
theorem refB_kind {t : ByteArray} {m k : Nat} (h : kindOf t = some (m, k)) : refB t = false := by
  cases hr : refB t with
  | false => rfl
  | true => rw [kindOf_ref hr] at h; cases h
theorem field_known {ks : Ks} {m k : Nat} {t : ByteArray} (h : fieldB ks m k t = true) : Known ks t ∧ refB t = false := by
  unfold fieldB at h
  split at h
  · rename_i hk
    exact ⟨fun a b hab => (by rw [hk] at hab; cases hab), refB_base h⟩
  · rename_i am ak hk
    refine ⟨fun a b hab => ?_, refB_kind hk⟩
    rw [hk] at hab
    simp only [Option.some.injEq, Prod.mk.injEq] at hab
    obtain ⟨rfl, rfl⟩ := hab
    simp only [Bool.and_eq_true] at h
    exact h.1

/-- All records ahead of one have abilities. -/
def Ahead (ks : Ks) (m k : Nat) : Prop := ∀ am ak, hasB ks am ak = true → (am < m ∨ am = m ∧ ak < k) → 0 ≤ (recAt ks am ak).able ∧ (recAt ks am ak).able ≤ 15

theorem able_field {ks : Ks} {m k : Nat} {t : ByteArray} (h : fieldB ks m k t = true) (ha : Ahead ks m k) : 0 ≤ ableT ks t ∧ ableT ks t ≤ 15 := by
  obtain ⟨_, hr⟩ := field_known h
  have hamp : ¬ amp t = true := fun h' => by rw [amp_ref h'] at hr; cases hr
  unfold ableT
  rw [if_neg hamp, hr, if_neg (by simp)]
  unfold fieldB at h
  split at h
  · rename_i hk
    rw [hk]; exact ⟨by simp, by simp⟩
  · rename_i am ak hk
    rw [hk]
    simp only [Bool.and_eq_true, Bool.or_eq_true, decide_eq_true_eq] at h
    exact ha am ak h.1 h.2

theorem all_stop {α : Type} {p : α → Bool} {xs : List α} {k : Nat} {R : Bool} (hk : k < xs.length) (h : (xs.drop k).all p = R) (hn : p xs[k] = false) : false = R := by
  rw [drop_cons hk, List.all_cons, hn, Bool.false_and] at h; exact h
theorem all_step {α : Type} {p : α → Bool} {xs : List α} {k : Nat} {R : Bool} (hk : k < xs.length) (h : (xs.drop k).all p = R) (hn : p xs[k] = true) : (xs.drop (k + 1)).all p = R := by
  rw [drop_cons hk, List.all_cons, hn, Bool.true_and] at h; exact h
theorem all_end {α : Type} {p : α → Bool} {xs : List α} {k : Nat} {R : Bool} (hk : k = xs.length) (h : (xs.drop k).all p = R) : true = R := by
  rw [hk, List.drop_length] at h; exact h

set_option maxHeartbeats 1000000 in
theorem l1Record_any (F : Nat → Prop) (v : Value) (ks : Ks) (m k : Nat) (w : World) (h : Cod.recs.Sl F w v ks) (hF : ∀ b, F b → b < w.heap.size) (hh : hasB ks m k = true) (ha : Ahead ks m k) :
    Calls Tryd.prog 55 #[v, .int .i64 m, .int .i64 k] w fun e w' => e = .returned (.bool (recB ks m k)) ∧ Below w.heap.size w w' := by
  have HS := Lib.hid h
  have HA := Lib.hid ha
  clear ha
  obtain ⟨hm, hk, hrec⟩ := has_at hh
  obtain ⟨b, off, cap, u, rfl, hFb, hlc, hcm, hc0, hu⟩ := h.sl_at hm
  obtain ⟨b', off', cap', u', rfl, hFb', hlu, hcu, hc1, hc2, _, hu'⟩ := hu.rec_at hk
  have HU := Lib.hid hu'
  obtain ⟨Af, cf, rfl, hlf, hcf, _⟩ := hu'
  unfold maxLen at hcm hcu hcf
  have hb1 := hF b hFb
  have hb2 := hF b' hFb'
  have HR : Hid (recB ks m k = ((decide (0 ≤ (ks[m][k]).able) && decide ((ks[m][k]).able ≤ 15)) && decide ((ks[m][k]).fields.length ≤ 3) && (ks[m][k]).fields.all fun f => fieldB ks m k f && condA (ks[m][k]).able (ableT ks f))) := by
    show _ = _; unfold recB; rw [hrec]
  clear hrec hu hh
  by_cases hr1 : 0 ≤ (ks[m][k]).able ∧ (ks[m][k]).able ≤ 15
  · obtain ⟨hr0, hr1⟩ := hr1
    have d1 : decide (0 ≤ (ks[m][k]).able) = true := decide_eq_true hr0
    have d2 : decide ((ks[m][k]).able ≤ 15) = true := decide_eq_true hr1
    by_cases hr2 : (ks[m][k]).fields.length ≤ 3
    · have HQ : Hid (((ks[m][k]).fields.drop 0).all (fun f => fieldB ks m k f && condA (ks[m][k]).able (ableT ks f)) = recB ks m k) := by
        show _ = _; rw [HR.out, d1, d2, decide_eq_true hr2]; simp
      go_enter Tryd.func55, Tryd.ntmps55
      go_wp2_with (go_at_call 42; refine (l6In_any _ _ _ _).mono ?_; rintro e w' ⟨rfl, rfl⟩)
      go_loopw [8] (fun i wr => ∃ (j n : Nat), j ≤ (ks[m][k]).fields.length ∧ i = .int .i64 j ∧ Hid (((ks[m][k]).fields.drop j).all (fun f => fieldB ks m k f && condA (ks[m][k]).able (ableT ks f)) = recB ks m k) ∧ wr = (w.alloc (.cells #[.int .i64 (ks[m][k]).able, .slice Af (ks[m][k]).fields.length cf] 51)).drewN n) (fun i _ => (ks[m][k]).fields.length - (intOf i).toNat)
      case atStart => exact ⟨0, 0, Nat.zero_le _, rfl, HQ, rfl⟩
      case round =>
        obtain ⟨j, n, hj, rfl, HH, rfl⟩ := hrel
        by_cases hlt : j < (ks[m][k]).fields.length
        · obtain ⟨bf, of, c1, hv, hFf, _, _, hcf0, hsf⟩ := HU.out.str_at hlt
          obtain ⟨rfl, rfl⟩ : Af = some ⟨bf, of, none⟩ ∧ cf = c1 := by simpa using hv
          have hbf := hF bf hFf
          clear hv
          have HSn := fun n' : Nat => Lib.hid (show Cod.recs.Sl F ((w.alloc (.cells #[.int .i64 (ks[m][k]).able, .slice (some ⟨bf, of, none⟩) (ks[m][k]).fields.length cf] 51)).drewN n') (.slice (some ⟨b, off, none⟩) ks.length cap) ks from HS.out.keep fun b hb => Below.heap_alloc w _ b (hF b hb))
          generalize hf : (ks[m][k]).fields[j] = f at hcf0 hsf
          have HFj := Lib.hid hf
          clear hf
          by_cases hfb : fieldB ks m k f = true
          · obtain ⟨hkn, _⟩ := field_known hfb
            obtain ⟨ha0, ha1⟩ := able_field hfb HA.out
            have Hkn := Lib.hid hkn
            clear hkn
            go_wp2_with (first
              | (go_at_call 69; refine (l1Field_any F _ ks m k f _ (HSn _).out).mono ?_; rintro e w1 ⟨rfl, n1, rfl⟩)
              | (go_at_call 12; refine (l1Able_any F _ ks f _ (HSn _).out hsf Hkn.out).mono ?_; rintro e w1 ⟨rfl, n1, rfl⟩)
              | (go_at_call 14; refine (l1Can_any _ _ _ (by omega) (by omega) (by omega)).mono ?_; rintro e w' ⟨rfl, rfl⟩))
            all_goals first
              | (go_ret
                 exact ⟨ret_bool (all_stop hlt HH.out (by rw [HFj.out, hfb]; simp [condA, *])), below_drewN ((Below.refl _ _).alloc (Nat.le_refl _) _) _⟩)
              | (go_roundw
                 case rel => exact ⟨j + 1, _, by omega, by go_num, all_step hlt HH.out (by rw [HFj.out, hfb]; simp [condA, *]), rfl⟩
                 case measure => simp [intOf]; omega)
          · have hfb' : fieldB ks m k f = false := by simpa using hfb
            go_wp2_with (go_at_call 69; refine (l1Field_any F _ ks m k f _ (HSn _).out).mono ?_; rintro e w1 ⟨rfl, n1, rfl⟩)
            go_ret
            exact ⟨ret_bool (all_stop hlt HH.out (by rw [HFj.out, hfb', Bool.false_and])), below_drewN ((Below.refl _ _).alloc (Nat.le_refl _) _) _⟩
        · go_wp2
          go_ret
          exact ⟨ret_bool (all_end (by omega) HH.out), below_drewN ((Below.refl _ _).alloc (Nat.le_refl _) _) _⟩
    · go_enter Tryd.func55, Tryd.ntmps55
      go_wp2_with (go_at_call 42; refine (l6In_any _ _ _ _).mono ?_; rintro e w' ⟨rfl, rfl⟩)
      go_ret
      exact ⟨ret_bool (by rw [HR.out]; simp [hr2]), (Below.refl _ _).alloc (Nat.le_refl _) _⟩
  · have d1 : (decide (0 ≤ (ks[m][k]).able) && decide ((ks[m][k]).able ≤ 15)) = false := by rw [Bool.eq_false_iff]; simpa using hr1
    go_enter Tryd.func55, Tryd.ntmps55
    go_wp2_with (go_at_call 42; refine (l6In_any _ _ _ _).mono ?_; rintro e w' ⟨rfl, rfl⟩)
    go_ret
    exact ⟨ret_bool (by rw [HR.out, d1]; rfl), (Below.refl _ _).alloc (Nat.le_refl _) _⟩

/-- The first record of a module that is none, from the k-th on (n: how many are left). -/
def badIn (ks : Ks) (m : Nat) : Nat → Nat → Option Nat
  | 0, _ => none
  | n + 1, k => if recB ks m k then badIn ks m n (k + 1) else some k
def badOut (ks : Ks) : Nat → Nat → Int × Int
  | 0, _ => (-1, -1)
  | n + 1, m =>
    if 3 < (ks.getD m []).length then ((m : Int), 3) else
    match badIn ks m (ks.getD m []).length 0 with
    | some k => ((m : Int), (k : Int))
    | none => badOut ks n (m + 1)
def kindsBad (ks : Ks) : Int × Int := if 3 < ks.length then (3, 0) else badOut ks ks.length 0

theorem rec_able {ks : Ks} {m k : Nat} (h : recB ks m k = true) : 0 ≤ (recAt ks m k).able ∧ (recAt ks m k).able ≤ 15 := by
  unfold recB at h
  simp only [Bool.and_eq_true, decide_eq_true_eq] at h
  exact h.1.1
theorem Ahead.next {ks : Ks} {m k : Nat} (h : Ahead ks m k) (hr : recB ks m k = true) : Ahead ks m (k + 1) := by
  intro am ak hh hlt
  by_cases he : am = m ∧ ak = k
  · obtain ⟨rfl, rfl⟩ := he
    exact rec_able hr
  · exact h am ak hh (by omega)
theorem Ahead.over {ks : Ks} {m k : Nat} (h : Ahead ks m k) (hk : (ks.getD m []).length ≤ k) : Ahead ks (m + 1) 0 := by
  intro am ak hh hlt
  refine h am ak hh ?_
  by_cases he : am = m
  · subst he
    obtain ⟨hm, hk', _⟩ := has_at hh
    have : (ks.getD am []) = ks[am] := by simp [List.getD, hm]
    rw [this] at hk
    omega
  · omega
theorem ret_2 {a b a' b' : Int} (ha : a = a') (hb : b = b') : Ending.returned (.tuple #[.int .i64 a, .int .i64 b]) = .returned (.tuple #[.int .i64 a', .int .i64 b']) := by rw [ha, hb]

set_option maxHeartbeats 1000000 in
theorem specKindsBad_any (F : Nat → Prop) (v : Value) (ks : Ks) (w : World) (h : Cod.recs.Sl F w v ks) (hF : ∀ b, F b → b < w.heap.size) :
    Calls Tryd.prog 41 #[v] w fun e w' => e = .returned (.tuple #[.int .i64 (kindsBad ks).1, .int .i64 (kindsBad ks).2]) ∧ Below w.heap.size w w' := by
  have HS := Lib.hid h
  obtain ⟨A, cap, rfl, hlc, hcm, _⟩ := h
  unfold maxLen at hcm
  by_cases h3 : 3 < ks.length
  · have HB : Hid (kindsBad ks = (3, 0)) := by show _ = _; unfold kindsBad; rw [if_pos h3]
    go_enter Tryd.func41, Tryd.ntmps41
    go_wp2
    go_ret2
    exact ⟨ret_2 (by rw [HB.out]) (by rw [HB.out]), Below.refl _ _⟩
  · have HB : Hid (badOut ks (ks.length - 0) 0 = kindsBad ks) := by show _ = _; unfold kindsBad; rw [if_neg h3]; rfl
    go_enter Tryd.func41, Tryd.ntmps41
    go_wp2
    go_loopw [4] (fun i wr => ∃ m : Nat, m ≤ ks.length ∧ i = .int .i64 m ∧ Hid (badOut ks (ks.length - m) m = kindsBad ks) ∧ Below w.heap.size w wr ∧ Ahead ks m 0) (fun i _ => ks.length - (intOf i).toNat)
    case atStart => exact ⟨0, Nat.zero_le _, rfl, HB, Below.refl _ _, fun am ak _ h => by omega⟩
    case round =>
      obtain ⟨m, hm, rfl, HH, hb, ha⟩ := hrel
      have HA := Lib.hid ha
      clear ha
      by_cases hlt : m < ks.length
      · have HSr := Lib.hid (HS.out.keep (below_keeps hb hF))
        obtain ⟨b, off, c1, u, hv, hFb, _, _, hc0, hu⟩ := HSr.out.sl_at hlt
        obtain ⟨rfl, rfl⟩ : A = some ⟨b, off, none⟩ ∧ cap = c1 := by simpa using hv
        obtain ⟨Au, cu, rfl, hlu, hcu, _⟩ := hu
        unfold maxLen at hcu
        have hsz := hb.size
        have hbw := hF b hFb
        have hgd : ks.getD m [] = ks[m] := by simp [List.getD, hlt]
        have Hgd := Lib.hid hgd
        have Hn := Lib.hid (show ks.length - m = (ks.length - (m + 1)) + 1 by omega)
        clear hv hgd
        by_cases h4 : 3 < ks[m].length
        · go_wp2
          go_ret2
          have hh := HH.out
          rw [Hn.out, badOut, Hgd.out, if_pos h4] at hh
          exact ⟨ret_2 (by rw [← hh]) (by rw [← hh]), hb⟩
        · have HI : Hid ((match badIn ks m (ks[m].length - 0) 0 with | some k => ((m : Int), (k : Int)) | none => badOut ks (ks.length - (m + 1)) (m + 1)) = kindsBad ks) := by
            have hh := HH.out
            rw [Hn.out, badOut, Hgd.out, if_neg h4] at hh
            exact hh
          obtain ⟨wo, rfl⟩ : ∃ wo : World, wo = wr := ⟨_, rfl⟩
          go_wp2
          go_loopw [5] (fun i wi => ∃ k : Nat, k ≤ ks[m].length ∧ i = .int .i64 k ∧ Hid ((match badIn ks m (ks[m].length - k) k with | some k => ((m : Int), (k : Int)) | none => badOut ks (ks.length - (m + 1)) (m + 1)) = kindsBad ks) ∧ Below w.heap.size w wi ∧ wo.heap.size ≤ wi.heap.size ∧ Below wo.heap.size wo wi ∧ Hid (Ahead ks m k)) (fun i _ => ks[m].length - (intOf i).toNat)
          case atStart => exact ⟨0, Nat.zero_le _, rfl, HI, hb, Nat.le_refl _, Below.refl _ _, HA⟩
          case round =>
            obtain ⟨k, hk, rfl, HK, hbi, hs, hbw', HAk⟩ := hrel
            have hbr : b < wo.heap.size := by omega
            have hc0' := (hbw'.cell (p := ⟨b, off + m, none⟩) hbr).trans hc0
            have hHR := HAk
            by_cases hk' : k < ks[m].length
            · have hhas : hasB ks m k = true := by unfold hasB; rw [List.getElem?_eq_getElem hlt]; exact decide_eq_true hk'
              have HSi := Lib.hid (HS.out.keep (below_keeps hbi hF))
              have Hhas := Lib.hid hhas
              have Hst := Lib.hid (show ks[m].length - k = (ks[m].length - (k + 1)) + 1 by omega)
              clear hhas
              by_cases hr : recB ks m k = true
              · go_wp2_with (go_at_call 55; refine (l1Record_any F _ ks m k wr HSi.out (fun b hb' => Nat.lt_of_lt_of_le (hF b hb') hbi.size) Hhas.out HAk.out).mono ?_; rintro e w1 ⟨rfl, hb1⟩)
                go_roundw
                case rel =>
                  refine ⟨k + 1, by omega, by go_num, ?_, hbi.trans (hb1.mono hbi.size), Nat.le_trans hs hb1.size, hbw'.trans (hb1.mono hs), HAk.out.next hr⟩
                  have hh := HK.out
                  rw [Hst.out, badIn, if_pos hr] at hh
                  exact hh
                case measure => simp [intOf]; omega
              · have hr' : recB ks m k = false := by simpa using hr
                go_wp2_with (go_at_call 55; refine (l1Record_any F _ ks m k wr HSi.out (fun b hb' => Nat.lt_of_lt_of_le (hF b hb') hbi.size) Hhas.out HAk.out).mono ?_; rintro e w1 ⟨rfl, hb1⟩)
                go_ret2
                have hh := HK.out
                rw [Hst.out, badIn, if_neg hr] at hh
                exact ⟨ret_2 (by rw [← hh]) (by rw [← hh]), hbi.trans (hb1.mono hbi.size)⟩
            · go_wp2
              go_roundw
              case rel =>
                refine ⟨m + 1, by omega, by go_num, ?_, hbi, HAk.out.over (by rw [Hgd.out]; omega)⟩
                have hh := HK.out
                rw [show ks[m].length - k = 0 by omega, badIn] at hh
                exact hh
              case measure => simp [intOf]; omega
      · go_wp2
        go_ret2
        have hh := HH.out
        rw [show ks.length - m = 0 by omega, badOut] at hh
        exact ⟨ret_2 (by rw [← hh]) (by rw [← hh]), hb⟩
end Go.Proofs.YthkdkefkgmmoiaaDoor

namespace Go.Proofs.YthkdkefkgmmoiaaDoor
open Go.RowKit

def kindsOk (ks : Ks) : Bool := decide ((kindsBad ks).1 < 0)
def typeOkB (ks : Ks) (t : ByteArray) : Bool := kindsOk ks && plainB ks (ofT t)
def typeAble (ks : Ks) (t : ByteArray) : Int := if typeOkB ks t then ableT ks t else -1

/-- The plain type of a type. -/
def plainT (ks : Ks) (t : ByteArray) : ByteArray := if typeOkB ks t then ofT t else ByteArray.empty

theorem size_ofT (t : ByteArray) : (ofT t).size ≤ t.size := by
  unfold ofT; split
  · simp
  · exact Nat.le_refl _

set_option maxHeartbeats 400000 in
theorem specKindsOk_any (F : Nat → Prop) (v : Value) (ks : Ks) (w : World) (h : Cod.recs.Sl F w v ks) (hF : ∀ b, F b → b < w.heap.size) :
    Calls Tryd.prog 23 #[v] w fun e w' => e = .returned (.bool (kindsOk ks)) ∧ Below w.heap.size w w' := by
  go_enter Tryd.func23, Tryd.ntmps23
  go_wp2_with (go_at_call 41; refine (specKindsBad_any F _ ks _ h hF).mono ?_; rintro e w1 ⟨rfl, hb1⟩)
  go_ret
  exact ⟨rfl, hb1⟩

theorem known_of_ok {ks : Ks} {t : ByteArray} (h : typeOkB ks t = true) : Known ks t := by
  intro m k hk
  unfold typeOkB at h
  simp only [Bool.and_eq_true] at h
  have hr := refB_kind hk
  have ho : ofT t = t := by unfold ofT; rw [hr]; rfl
  rw [ho] at h
  have hb : baseB t = false := by
    cases hb : baseB t with
    | false => rfl
    | true => rw [kindOf_base hb] at hk; cases hk
  have hp := h.2
  unfold plainB at hp
  rw [hb, hk, Bool.false_or] at hp
  exact hp

/-- In good kinds each record is one. -/
theorem badIn_none {ks : Ks} {m : Nat} : ∀ (n k : Nat), badIn ks m n k = none → ∀ j, k ≤ j → j < k + n → recB ks m j = true
  | 0, k, _, j, h1, h2 => by omega
  | n + 1, k, h, j, h1, h2 => by
    unfold badIn at h
    split at h
    · rename_i hr
      by_cases he : j = k
      · subst he; exact hr
      · exact badIn_none n (k + 1) h j (by omega) (by omega)
    · cases h
theorem badOut_neg {ks : Ks} : ∀ (n m : Nat), (badOut ks n m).1 < 0 → ∀ j, m ≤ j → j < m + n → (ks.getD j []).length ≤ 3 ∧ ∀ k, k < (ks.getD j []).length → recB ks j k = true
  | 0, m, _, j, h1, h2 => by omega
  | n + 1, m, h, j, h1, h2 => by
    unfold badOut at h
    split at h
    · simp at h; omega
    · rename_i h3
      split at h
      · simp at h; omega
      · rename_i hb
        by_cases he : j = m
        · subst he
          exact ⟨by omega, fun k hk => badIn_none _ _ hb k (Nat.zero_le _) (by omega)⟩
        · exact badOut_neg n (m + 1) h j (by omega) (by omega)
theorem ok_rec {ks : Ks} (h : kindsOk ks = true) {m k : Nat} (hh : hasB ks m k = true) : recB ks m k = true := by
  unfold kindsOk kindsBad at h
  have h := of_decide_eq_true h
  split at h
  · simp at h
  · obtain ⟨hm, hk, _⟩ := has_at hh
    refine (badOut_neg _ _ h m (Nat.zero_le _) (by omega)).2 k ?_
    simpa [List.getD, hm] using hk

/-- How late a kind stands. -/
def rank (t : ByteArray) : Nat := match kindOf t with | none => 0 | some (m, k) => 10 * m + k + 1
def holdsF (ks : Ks) (inn : ByteArray) : Nat → ByteArray → Bool
  | 0, _ => false
  | n + 1, t => decide (t = inn) || (match kindOf t with | none => false | some (m, k) => (recAt ks m k).fields.any (holdsF ks inn n))

theorem rank_field {ks : Ks} {m k : Nat} {f : ByteArray} (hk : k ≤ 9) (h : fieldB ks m k f = true) : rank f < 10 * m + k + 1 := by
  unfold fieldB at h
  unfold rank
  split at h
  · rename_i hf
    rw [hf]; simp
  · rename_i am ak hf
    rw [hf]
    have := kindOf_le hf
    simp only [Bool.and_eq_true, Bool.or_eq_true, decide_eq_true_eq] at h
    show 10 * am + ak + 1 < _
    omega
end Go.Proofs.YthkdkefkgmmoiaaDoor

namespace Go.Proofs.YthkdkefkgmmoiaaDoor
open Go.RowKit

theorem any_stop {α : Type} {p : α → Bool} {xs : List α} {k : Nat} {R : Bool} (hk : k < xs.length) (h : (xs.drop k).any p = R) (hn : p xs[k] = true) : true = R := by
  rw [drop_cons hk, List.any_cons, hn, Bool.true_or] at h; exact h
theorem any_step {α : Type} {p : α → Bool} {xs : List α} {k : Nat} {R : Bool} (hk : k < xs.length) (h : (xs.drop k).any p = R) (hn : p xs[k] = false) : (xs.drop (k + 1)).any p = R := by
  rw [drop_cons hk, List.any_cons, hn, Bool.false_or] at h; exact h
theorem any_end {α : Type} {p : α → Bool} {xs : List α} {k : Nat} {R : Bool} (hk : k = xs.length) (h : (xs.drop k).any p = R) : false = R := by
  rw [hk, List.drop_length] at h; exact h

theorem ok_field {ks : Ks} (h : kindsOk ks = true) {m k : Nat} (hh : hasB ks m k = true) {f : ByteArray} (hf : f ∈ (recAt ks m k).fields) : fieldB ks m k f = true := by
  have hr := ok_rec h hh
  unfold recB at hr
  simp only [Bool.and_eq_true, List.all_eq_true] at hr
  exact (hr.2 f hf).1

def typeHolds (ks : Ks) (t inn : ByteArray) : Bool := typeOkB ks t && typeOkB ks inn && (kindOf inn).isSome && !refB t && holdsF ks inn 40 t

theorem rank_ok {ks : Ks} {t : ByteArray} (h : Known ks t) (h3 : ks.length ≤ 3) : rank t < 40 := by
  unfold rank
  split
  · omega
  · rename_i m k hk
    obtain ⟨hm, _⟩ := has_at (h m k hk)
    have := kindOf_le hk
    omega
theorem ok_len {ks : Ks} (h : kindsOk ks = true) : ks.length ≤ 3 := by
  unfold kindsOk kindsBad at h
  have h := of_decide_eq_true h
  split at h
  · simp at h
  · omega

end Go.Proofs.YthkdkefkgmmoiaaDoor
