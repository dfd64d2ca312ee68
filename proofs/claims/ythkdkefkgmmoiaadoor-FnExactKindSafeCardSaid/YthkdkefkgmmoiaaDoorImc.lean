/- The program's types: what a table of kinds says, against the model. The program's types: how a table of kinds is made. The program's types: what is exported, but for TypeHolds. -/
import Derived.Test.YthkdkefkgmmoiaaDoorMap
namespace Go.Proofs.YthkdkefkgmmoiaaDoor
open Go.RowKit

theorem look_putA {α : Type} (s : ByteArray) (x : α) : ∀ (l : List (ByteArray × α)) (s' : ByteArray), look (putA l s x) s' = if s' = s then some x else look l s'
  | [], s' => by
    by_cases h : s' = s <;> simp [look, putA, h]
  | y :: l, s' => by
    unfold putA
    by_cases hy : s = y.1
    · rw [if_pos hy]
      by_cases h : s' = s
      · simp [look, h]
      · have h2 : ¬ s' = y.1 := fun e => h (e.trans hy.symm)
        simp [look, h, h2]
    · rw [if_neg hy]
      have ih := look_putA s x l s'
      by_cases h2 : s' = y.1
      · have h : ¬ s' = s := fun e => hy (e.symm.trans h2)
        have h3 : ¬ y.1 = s := fun e => h (h2.trans e)
        simp [look, h2, h3]
      · by_cases h : s' = s
        · rw [if_pos h] at ih ⊢
          unfold look at ih ⊢
          rw [List.find?_cons, decide_eq_false h2]
          exact ih
        · rw [if_neg h] at ih ⊢
          unfold look at ih ⊢
          rw [List.find?_cons, decide_eq_false h2, ih, List.find?_cons, decide_eq_false h2]

theorem name_toList (m k : Nat) : (nameB m k).toList = [83, UInt8.ofNat (48 + m), UInt8.ofNat (48 + k)] := by
  rw [toList_data]
  unfold nameB
  rw [strOfNums_data]
  have e1 : (48 + (m : Int)).toNat = 48 + m := by omega
  have e2 : (48 + (k : Int)).toNat = 48 + k := by omega
  simp [e1, e2]
theorem size_name (m k : Nat) : (nameB m k).size = 3 := by rw [← length_toList, name_toList]; rfl
theorem kind_bytes {t : ByteArray} {m k : Nat} (h : kindOf t = some (m, k)) : t.toList = [83, UInt8.ofNat (48 + m), UInt8.ofNat (48 + k)] := by
  unfold kindOf at h
  split at h
  · rename_i h3
    split at h
    · rename_i hc
      obtain ⟨c0, c1, c2, c3, c4⟩ := hc
      simp only [Option.some.injEq, Prod.mk.injEq] at h
      have g0 := get_toList t 0 (by omega)
      have g1 := get_toList t 1 (by omega)
      have g2 := get_toList t 2 (by omega)
      have hn : t.toList.length = 3 := by rw [length_toList, h3]
      match hm : t.toList, hn with
      | [a, b, c], _ =>
        rw [hm] at g0 g1 g2
        simp at g0 g1 g2
        have e0 : a = 83 := by rw [g0]; exact UInt8.toNat_inj.1 c0
        have e1 : b = UInt8.ofNat (48 + m) := by
          rw [g1]; apply UInt8.toNat_inj.1; rw [UInt8.toNat_ofNat_of_lt' (by simp [UInt8.size]; omega)]; omega
        have e2 : c = UInt8.ofNat (48 + k) := by
          rw [g2]; apply UInt8.toNat_inj.1; rw [UInt8.toNat_ofNat_of_lt' (by simp [UInt8.size]; omega)]; omega
        rw [e0, e1, e2]
    · cases h
  · cases h
theorem name_of_kind {t : ByteArray} {m k : Nat} (h : kindOf t = some (m, k)) : t = nameB m k := ext_toList ((kind_bytes h).trans (name_toList m k).symm)
theorem kindOf_bytes {t : ByteArray} {a b c : UInt8} (h : t.toList = [a, b, c]) (h0 : a.toNat = 83) (h1 : 48 ≤ b.toNat) (h2 : b.toNat ≤ 57) (h3 : 48 ≤ c.toNat) (h4 : c.toNat ≤ 57) : kindOf t = some (b.toNat - 48, c.toNat - 48) := by
  have hs : t.size = 3 := by rw [← length_toList, h]; rfl
  have g0 := get_toList t 0 (by omega)
  have g1 := get_toList t 1 (by omega)
  have g2 := get_toList t 2 (by omega)
  rw [h] at g0 g1 g2
  simp at g0 g1 g2
  unfold kindOf
  rw [dif_pos hs, ← g0, ← g1, ← g2, if_pos ⟨h0, h1, h2, h3, h4⟩]
theorem kindOf_name {m k : Nat} (hm : m ≤ 9) (hk : k ≤ 9) : kindOf (nameB m k) = some (m, k) := by
  have e1 : (UInt8.ofNat (48 + m)).toNat = 48 + m := UInt8.toNat_ofNat_of_lt' (by simp [UInt8.size]; omega)
  have e2 : (UInt8.ofNat (48 + k)).toNat = 48 + k := UInt8.toNat_ofNat_of_lt' (by simp [UInt8.size]; omega)
  rw [kindOf_bytes (name_toList m k) rfl (by omega) (by omega) (by omega) (by omega), e1, e2]
  simp

def tabLook (ks : Ks) (m k : Nat) (s : ByteArray) : Option Rec :=
  match kindOf s with
  | some (a, b) => if hasB ks a b = true ∧ (a < m ∨ a = m ∧ b < k) then some (recAt ks a b) else none
  | none => none
/-- The table has the kinds ahead of one. -/
def Tab (ks : Ks) (m k : Nat) (l : List (ByteArray × Rec)) : Prop := ∀ s, look l s = tabLook ks m k s

theorem Tab.nil (ks : Ks) : Tab ks 0 0 [] := by
  intro s
  unfold tabLook
  split
  · rw [if_neg (by omega)]; rfl
  · rfl
theorem Tab.put {ks : Ks} {m k : Nat} {l : List (ByteArray × Rec)} (h : Tab ks m k l) (hh : hasB ks m k = true) (hm : m ≤ 9) (hk : k ≤ 9) : Tab ks m (k + 1) (putA l (nameB m k) (recAt ks m k)) := by
  intro s
  rw [look_putA]
  split
  · rename_i he
    rw [he]
    unfold tabLook
    rw [kindOf_name hm hk]
    exact (if_pos ⟨hh, .inr ⟨rfl, Nat.lt_succ_self k⟩⟩).symm
  · rename_i hne
    rw [h s]
    unfold tabLook
    split
    · rename_i a b hab
      have hn : ¬ (a = m ∧ b = k) := fun ⟨h1, h2⟩ => hne (by rw [name_of_kind hab, h1, h2])
      have : (hasB ks a b = true ∧ (a < m ∨ a = m ∧ b < k)) ↔ (hasB ks a b = true ∧ (a < m ∨ a = m ∧ b < k + 1)) := by
        constructor <;> rintro ⟨g1, g2⟩ <;> exact ⟨g1, by omega⟩
      simp only [this]
    · rfl
theorem Tab.over {ks : Ks} {m k : Nat} {l : List (ByteArray × Rec)} (h : Tab ks m k l) (hk : (ks.getD m []).length ≤ k) : Tab ks (m + 1) 0 l := by
  intro s
  rw [h s]
  unfold tabLook
  split
  · rename_i a b hab
    have : (hasB ks a b = true ∧ (a < m ∨ a = m ∧ b < k)) ↔ (hasB ks a b = true ∧ (a < m + 1 ∨ a = m + 1 ∧ b < 0)) := by
      constructor
      · rintro ⟨g1, g2⟩; exact ⟨g1, by omega⟩
      · rintro ⟨g1, g2⟩
        refine ⟨g1, ?_⟩
        obtain ⟨ha, hb, _⟩ := has_at g1
        by_cases he : a = m
        · subst he
          have e : ks.getD a [] = ks[a] := by simp [List.getD, ha]
          rw [e] at hk
          omega
        · omega
    simp only [this]
  · rfl

theorem firstIs_kind {t : ByteArray} {m k : Nat} (h : kindOf t = some (m, k)) : firstIs t 83 = true := by
  have hl := kind_bytes h
  have hs : t.size = 3 := by rw [← length_toList, hl]; rfl
  have g0 := get_toList t 0 (by omega)
  rw [hl] at g0
  simp at g0
  unfold firstIs
  rw [dif_pos (by omega), ← g0]
  rfl
theorem amp_no {t : ByteArray} (h : refB t = false) : amp t = false := by
  cases ha : amp t with
  | false => rfl
  | true => rw [amp_ref ha] at h; cases h

/-- What the table says of a plain type is what the model says. -/
theorem plainL_eq {ks : Ks} {m k : Nat} {l : List (ByteArray × Rec)} (h : Tab ks m k l) (t : ByteArray) : plainL l t = if fieldB ks m k t then ableT ks t else -1 := by
  unfold plainL
  cases hb : baseB t with
  | true =>
    have hk := kindOf_base hb
    have hf : fieldB ks m k t = true := by unfold fieldB; rw [hk]; exact hb
    have hr := refB_base hb
    have ha := amp_no hr
    rw [hf]
    unfold ableT
    rw [ha, hr, hk]
    rfl
  | false =>
    rw [h t]
    unfold tabLook
    cases hk : kindOf t with
    | none =>
      have hf : fieldB ks m k t = false := by unfold fieldB; rw [hk]; exact hb
      rw [hf]
      simp
    | some ab =>
      obtain ⟨a, b⟩ := ab
      have hr := refB_kind hk
      have ha := amp_no hr
      have hf : fieldB ks m k t = decide (hasB ks a b = true ∧ (a < m ∨ a = m ∧ b < k)) := by
        unfold fieldB; rw [hk]; simp only; rw [Bool.eq_iff_iff]; simp
      have hw : ableT ks t = (recAt ks a b).able := by
        unfold ableT; rw [ha, hr, hk]; rfl
      rw [firstIs_kind hk, hf, hw]
      by_cases hc : hasB ks a b = true ∧ (a < m ∨ a = m ∧ b < k)
      · simp only [if_pos hc, decide_eq_true hc]; rfl
      · simp only [if_neg hc, decide_eq_false hc]; rfl

theorem fit_cond_nat : ∀ x y : Fin 16, fitB (x.val : Int) (y.val : Int) = condA (x.val : Int) (y.val : Int) := by decide +kernel
theorem fit_cond {x y : Int} (hx : 0 ≤ x) (hx' : x ≤ 15) (hy : 0 ≤ y) (hy' : y ≤ 15) : fitB x y = condA x y := by
  have := fit_cond_nat ⟨x.toNat, by omega⟩ ⟨y.toNat, by omega⟩
  simpa [Int.toNat_of_nonneg hx, Int.toNat_of_nonneg hy] using this

theorem recL_eq {ks : Ks} {m k : Nat} {l : List (ByteArray × Rec)} (h : Tab ks m k l) (ha : Ahead ks m k) : recL l (recAt ks m k) = recB ks m k := by
  unfold recL recB
  cases h1 : (decide (0 ≤ (recAt ks m k).able) && decide ((recAt ks m k).able ≤ 15)) with
  | false => simp
  | true =>
    simp only [Bool.and_eq_true, decide_eq_true_eq] at h1
    congr 1
    congr 1
    funext f
    rw [plainL_eq h]
    cases hf : fieldB ks m k f with
    | false => simp [fitB]
    | true =>
      obtain ⟨ha0, ha1⟩ := able_field hf ha
      simp only [if_true, Bool.true_and]
      exact fit_cond h1.1 h1.2 ha0 ha1
end Go.Proofs.YthkdkefkgmmoiaaDoor

namespace Go.Proofs.YthkdkefkgmmoiaaDoor
open Go.RowKit

/-- A record as an element of a map: its fields read in the world W. -/
def RecF (F : Nat → Prop) (W : World) (v : Value) (r : Rec) : Prop := ∃ A c, v = .agg #[.int .i64 r.able, .slice A r.fields.length c] ∧ Cod.str.Sl F W (.slice A r.fields.length c) r.fields ∧ I64 r.able
theorem MapIs.recV {F : Nat → Prop} {W w : World} {b : Nat} {l : List (ByteArray × Rec)} (h : MapIs (RecF F W) w b l) : MapIs RecV w b l :=
  h.imp fun _ _ ⟨A, c, hv, _⟩ => ⟨A, _, c, hv⟩

/-- What readKinds hands back. -/
def ReadOf (F : Nat → Prop) (ks : Ks) (W : World) (e : Ending) (w' : World) : Prop :=
  Below W.heap.size W w' ∧
  ((0 ≤ (kindsBad ks).1 ∧ e = .returned (.tuple #[.map none, .int .i64 (kindsBad ks).1, .int .i64 (kindsBad ks).2])) ∨
   ((kindsBad ks) = (-1, -1) ∧ ∃ b l, e = .returned (.tuple #[.map (some b), .int .i64 (-1), .int .i64 (-1)]) ∧ MapIs (RecF F W) w' b l ∧ Tab ks ks.length 0 l ∧ W.heap.size ≤ b))

set_option maxHeartbeats 1000000 in
theorem readKinds_any (F : Nat → Prop) (v : Value) (ks : Ks) (w : World) (h : Cod.recs.Sl F w v ks) (hF : ∀ b, F b → b < w.heap.size) :
    Calls Tryd.prog 32 #[v] w (ReadOf F ks w) := by
  have HS := Lib.hid h
  obtain ⟨A, cap, rfl, hlc, hcm, _⟩ := h
  unfold maxLen at hcm
  have hmm := @run_makeMap Tryd.prog
  by_cases h3 : 3 < ks.length
  · have HB : Hid (kindsBad ks = (3, 0)) := by show _ = _; unfold kindsBad; rw [if_pos h3]
    go_enter Tryd.func32, Tryd.ntmps32
    go_wp2
    go_ret3
    exact ⟨Below.refl _ _, .inl (by rw [HB.out]; exact ⟨by decide, rfl⟩)⟩
  · have HB : Hid (badOut ks (ks.length - 0) 0 = kindsBad ks) := by show _ = _; unfold kindsBad; rw [if_neg h3]; rfl
    go_enter Tryd.func32, Tryd.ntmps32
    go_wp2
    go_loopw [16] (fun i wr => ∃ (m : Nat) (l : List (ByteArray × Rec)), m ≤ ks.length ∧ i = .int .i64 m ∧ Hid (badOut ks (ks.length - m) m = kindsBad ks) ∧ Below w.heap.size w wr ∧ Hid (Ahead ks m 0) ∧ Hid (Tab ks m 0 l) ∧ Hid (MapIs (RecF F w) wr w.heap.size l)) (fun i _ => ks.length - (intOf i).toNat)
    case atStart => exact ⟨0, [], Nat.zero_le _, rfl, HB, (Below.refl _ _).alloc (Nat.le_refl _) _, fun am ak _ h => by omega, Tab.nil ks, MapIs.new w⟩
    case round =>
      obtain ⟨m, l, hm, rfl, HH, hb, HA, HT, HM⟩ := hrel
      by_cases hlt : m < ks.length
      · have HSr := Lib.hid (HS.out.keep (below_keeps hb hF))
        obtain ⟨b, off, c1, u, hv, hFb, _, _, hc0, hu⟩ := HSr.out.sl_at hlt
        obtain ⟨rfl, rfl⟩ : A = some ⟨b, off, none⟩ ∧ cap = c1 := by simpa using hv
        have HU := Lib.hid hu
        obtain ⟨Au, cu, rfl, hlu, hcu, _⟩ := hu
        unfold maxLen at hcu
        have hsz := hb.size
        have hbw := hF b hFb
        have hgd : ks.getD m [] = ks[m] := by simp [List.getD, hlt]
        have Hgd := Lib.hid hgd
        have Hn := Lib.hid (show ks.length - m = (ks.length - (m + 1)) + 1 by omega)
        clear hv hgd
        by_cases h4 : 3 < ks[m].length
        · go_wp2
          go_ret3
          have hh := HH.out
          rw [Hn.out, badOut, Hgd.out, if_pos h4] at hh
          exact ⟨hb, .inl (by rw [← hh]; exact ⟨by simp, rfl⟩)⟩
        · have HI : Hid ((match badIn ks m (ks[m].length - 0) 0 with | some k => ((m : Int), (k : Int)) | none => badOut ks (ks.length - (m + 1)) (m + 1)) = kindsBad ks) := by
            have hh := HH.out
            rw [Hn.out, badOut, Hgd.out, if_neg h4] at hh
            exact hh
          obtain ⟨wo, rfl⟩ : ∃ wo : World, wo = wr := ⟨_, rfl⟩
          go_wp2
          go_loopw [27] (fun i wi => ∃ (k : Nat) (l : List (ByteArray × Rec)), k ≤ ks[m].length ∧ i = .int .i64 k ∧ Hid ((match badIn ks m (ks[m].length - k) k with | some k => ((m : Int), (k : Int)) | none => badOut ks (ks.length - (m + 1)) (m + 1)) = kindsBad ks) ∧ Below w.heap.size wo wi ∧ Hid (Ahead ks m k) ∧ Hid (Tab ks m k l) ∧ Hid (MapIs (RecF F w) wi w.heap.size l)) (fun i _ => ks[m].length - (intOf i).toNat)
          case atStart => exact ⟨0, l, Nat.zero_le _, rfl, HI, Below.refl _ _, HA, HT, HM⟩
          case round =>
            obtain ⟨k, l, hk, rfl, HK, hbi, HAk, HTk, HMk⟩ := hrel
            have hws := hbi.size
            have hml := HMk.out.lt
            by_cases hk' : k < ks[m].length
            · have hhas : hasB ks m k = true := by unfold hasB; rw [List.getElem?_eq_getElem hlt]; exact decide_eq_true hk'
              have Hrec := Lib.hid (show recAt ks m k = ks[m][k] by obtain ⟨_, _, h⟩ := has_at hhas; exact h)
              have HUi := Lib.hid (HU.out.keep (below_keeps hbi hF))
              obtain ⟨b', off', c2, u', hv', hFb', _, _, hc1, hc2, hI', hu'⟩ := HUi.out.rec_at hk'
              obtain ⟨rfl, rfl⟩ : Au = some ⟨b', off', none⟩ ∧ cu = c2 := by simpa using hv'
              have HU' := Lib.hid hu'
              obtain ⟨Af, cf, rfl, _⟩ := hu'
              have HRF := Lib.hid (show RecF F w (.agg #[.int .i64 (ks[m][k]).able, .slice Af (ks[m][k]).fields.length cf]) ks[m][k] from ⟨_, _, rfl, HU'.out.keep (fun b hb' => ((hb.trans hbi).block b (hF b hb')).symm), hI'⟩)
              clear hI'
              have Hhas := Lib.hid hhas
              have Hst := Lib.hid (show ks[m].length - k = (ks[m].length - (k + 1)) + 1 by omega)
              have hbw' := hF b' hFb'
              clear hhas hv'
              have hrl := recL_eq HTk.out HAk.out
              rw [Hrec.out] at hrl
              have Hrl := Lib.hid hrl
              clear hrl
              have HBn := Lib.hid (Blk.new wr 51 #[.int .i64 (ks[m][k]).able, .slice Af (ks[m][k]).fields.length cf])
              by_cases hr : recB ks m k = true
              · go_wp2_with (go_at_call 47; refine (recordOk_any F l w.heap.size _ ks[m][k] (wr.alloc (.cells #[.int .i64 (ks[m][k]).able, .slice Af (ks[m][k]).fields.length cf] 51)) (HMk.out.keep (Below.heap_alloc _ _ _ hml)).recV (HU'.out.keep fun b hb' => Below.heap_alloc _ _ _ (by have := hF b hb'; omega)) (fun b hb' => by have := hF b hb'; simp; omega)).mono ?_; rintro e w2 ⟨rfl, hb2⟩; rw [Hrl.out, hr])
                have HB2 := HBn.out.below hb2 (by simp)
                have c20 := HB2.cell0
                have c21 := HB2.cell1
                have hlt2 := HB2.lt
                have HBB := Lib.hid HB2
                have HM2 := Lib.hid ((HMk.out.keep (Below.heap_alloc _ _ _ hml)).keep (hb2.block _ (by simp; omega)))
                have Hb2 := Lib.hid hb2
                clear HB2 hb2
                go_region_with ((go_at_call 48; refine (kindName_any m k _ (by omega) (by omega)).mono ?_; rintro e w3 ⟨rfl, hb3⟩; go_must (have HB3 := Blk.below (w := w2.drew) HBB.out hb3 (by simp; omega); obtain ⟨w4, hmu, hM4, hg4, hs4⟩ := (HM2.out.keep (w' := w3) (hb3.block w.heap.size (by simp; omega))).update Tryd.underlying46 Tryd.underlying9 (nameB m k) (.agg #[.int .i64 (ks[m][k]).able, .slice Af (ks[m][k]).fields.length cf]) ks[m][k] HRF.out; have HM4 := Lib.hid hM4; have Hg4 := Lib.hid hg4; have Hs4 := Lib.hid hs4; clear hM4 hg4 hs4; have c30 := HB3.cell0; have c31 := HB3.cell1; clear HB3)))
                all_goals
                  go_wp2
                  go_roundw
                  case rel =>
                    have hw2 : wr.heap.size < w2.heap.size := hlt2
                    have hb4 : Below w.heap.size w3 w4 := ⟨Hg4.out.os, Hg4.out.tape, Hg4.out.output, Hg4.out.size, fun i hi => Hg4.out.block i (by have := hb3.size; simp at this; omega) (by simp; omega)⟩
                    refine ⟨k + 1, _, by omega, by go_num, ?_, hbi.trans (((((Below.refl _ _).alloc (by omega) _).trans (Hb2.out.mono (by simp; omega))).drew.trans (hb3.mono (by simp; omega))).trans hb4), HAk.out.next hr, ?_, HM4⟩
                    · have hh := HK.out
                      rw [Hst.out, badIn, if_pos hr] at hh
                      exact hh
                    · have := HTk.out.put Hhas.out (show m ≤ 9 by omega) (show k ≤ 9 by omega)
                      rw [Hrec.out] at this
                      exact this
                  case measure => simp [intOf]; omega
              · have hr' : recB ks m k = false := by simpa using hr
                go_wp2_with (go_at_call 47; refine (recordOk_any F l w.heap.size _ ks[m][k] (wr.alloc (.cells #[.int .i64 (ks[m][k]).able, .slice Af (ks[m][k]).fields.length cf] 51)) (HMk.out.keep (Below.heap_alloc _ _ _ hml)).recV (HU'.out.keep fun b hb' => Below.heap_alloc _ _ _ (by have := hF b hb'; omega)) (fun b hb' => by have := hF b hb'; simp; omega)).mono ?_; rintro e w2 ⟨rfl, hb2⟩; rw [Hrl.out, hr'])
                go_ret3
                have hh := HK.out
                rw [Hst.out, badIn, if_neg hr] at hh
                exact ⟨(hb.trans hbi).trans (((Below.refl _ _).alloc (by omega) _).trans (hb2.mono (by simp; omega))), .inl (by rw [← hh]; exact ⟨by simp, rfl⟩)⟩
            · go_wp2
              go_roundw
              case rel =>
                refine ⟨m + 1, l, by omega, by go_num, ?_, hb.trans hbi, HAk.out.over (by rw [Hgd.out]; omega), HTk.out.over (by rw [Hgd.out]; omega), HMk⟩
                have hh := HK.out
                rw [show ks[m].length - k = 0 by omega, badIn] at hh
                exact hh
              case measure => simp [intOf]; omega
      · go_wp2
        go_ret3
        have hh := HH.out
        rw [show ks.length - m = 0 by omega, badOut] at hh
        obtain rfl : m = ks.length := by omega
        exact ⟨hb, .inr ⟨hh.symm, _, l, rfl, HM.out, HT.out, Nat.le_refl _⟩⟩
end Go.Proofs.YthkdkefkgmmoiaaDoor

namespace Go.Proofs.YthkdkefkgmmoiaaDoor
open Go.RowKit

/-- What tableOf hands back. -/
def TableOf (F : Nat → Prop) (ks : Ks) (W : World) (e : Ending) (w' : World) : Prop :=
  Below W.heap.size W w' ∧
  ((kindsOk ks = false ∧ e = .returned (.tuple #[.map none, .bool false])) ∨
   (kindsOk ks = true ∧ ∃ b l, e = .returned (.tuple #[.map (some b), .bool true]) ∧ MapIs (RecF F W) w' b l ∧ Tab ks ks.length 0 l ∧ W.heap.size ≤ b))

theorem Calls.parts {P : Program} {f : FuncId} {args : Array Value} {w : World} {R S : Ending → World → Prop} (h : Calls P f args w R) (hs : ∀ e w', R e w' → S e w') : Calls P f args w S := h.mono hs

theorem kindsOk_neg {ks : Ks} (h : kindsBad ks = (-1, -1)) : kindsOk ks = true := by unfold kindsOk; rw [h]; rfl
theorem kindsOk_pos {ks : Ks} (h : 0 ≤ (kindsBad ks).1) : kindsOk ks = false := by unfold kindsOk; rw [decide_eq_false_iff_not]; omega

set_option maxHeartbeats 400000 in
theorem tableOf_any (F : Nat → Prop) (v : Value) (ks : Ks) (w : World) (h : Cod.recs.Sl F w v ks) (hF : ∀ b, F b → b < w.heap.size) :
    Calls Tryd.prog 16 #[v] w (TableOf F ks w) := by
  go_enter Tryd.func16, Tryd.ntmps16
  go_wp2_with fail
  refine (readKinds_any F v ks _ h hF).mono ?_
  rintro e w1 ⟨hb, ⟨hk, rfl⟩ | ⟨hk, b, l, rfl, hm, ht, hw⟩⟩
  · have b1 : ((kindsBad ks).1 == -1) = false := by rw [beq_eq_false_iff_ne]; omega
    have HK := Lib.hid (kindsOk_pos hk)
    clear hk
    go_wp2
    go_ret2
    exact ⟨hb, .inl ⟨HK.out, rfl⟩⟩
  · have HM := Lib.hid hm
    have HT := Lib.hid ht
    have HK := Lib.hid (kindsOk_neg hk)
    clear hm ht hk
    go_wp2
    go_ret2
    exact ⟨hb, .inr ⟨HK.out, b, l, rfl, HM.out, HT.out, hw⟩⟩

/-- What the whole table says of a type is what the model says. -/
theorem field_all {ks : Ks} {t : ByteArray} : fieldB ks ks.length 0 t = plainB ks t := by
  unfold fieldB plainB
  cases hk : kindOf t with
  | none => simp
  | some mk =>
    obtain ⟨m, k⟩ := mk
    have hb : baseB t = false := by
      cases hb : baseB t with
      | false => rfl
      | true => rw [kindOf_base hb] at hk; cases hk
    simp only
    rw [hb, Bool.false_or]
    cases hh : hasB ks m k with
    | false => rfl
    | true =>
      obtain ⟨hm, _⟩ := has_at hh
      rw [decide_eq_true hm]; rfl

theorem ableL_eq {ks : Ks} {l : List (ByteArray × Rec)} (h : Tab ks ks.length 0 l) (hok : kindsOk ks = true) (t : ByteArray) : ableL l t = typeAble ks t := by
  have hah : Ahead ks ks.length 0 := fun a b hh _ => rec_able (ok_rec hok hh)
  unfold ableL typeAble typeOkB
  rw [plainL_eq h, field_all, hok, Bool.true_and]
  cases hp : plainB ks (ofT t) with
  | false => simp
  | true =>
    have hf : fieldB ks ks.length 0 (ofT t) = true := by rw [field_all]; exact hp
    obtain ⟨h0, _⟩ := able_field hf hah
    simp only [if_true]
    rw [if_neg (by omega)]
    cases hr : refB t with
    | true =>
      unfold ableT
      rw [hr]
      cases amp t <;> rfl
    | false =>
      have ho : ofT t = t := by unfold ofT; rw [hr]; rfl
      rw [ho]; rfl

theorem typeAble_iff {ks : Ks} {t : ByteArray} : (typeAble ks t != -1) = typeOkB ks t := by
  unfold typeAble
  cases ht : typeOkB ks t with
  | false => rfl
  | true =>
    have hok : kindsOk ks = true := by unfold typeOkB at ht; simp only [Bool.and_eq_true] at ht; exact ht.1
    have hah : Ahead ks ks.length 0 := fun a b hh _ => rec_able (ok_rec hok hh)
    have h0 : 0 ≤ ableT ks t := by
      cases hr : refB t with
      | true =>
        unfold ableT
        rw [hr]
        cases amp t <;> simp
      | false =>
        have ho : ofT t = t := by unfold ofT; rw [hr]; rfl
        unfold typeOkB at ht
        rw [ho, hok, Bool.true_and, ← field_all] at ht
        exact (able_field ht hah).1
    simp only [if_true]
    rw [bne_iff_ne]
    omega

end Go.Proofs.YthkdkefkgmmoiaaDoor
