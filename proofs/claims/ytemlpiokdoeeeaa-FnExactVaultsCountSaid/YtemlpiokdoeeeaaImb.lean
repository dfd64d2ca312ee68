/- The program's types: tables of kinds. -/
import Derived.Test.YtemlpiokdoeeeaaMap
namespace Go.Proofs.Ytemlpiokdoeeeaa
open Go.RowKit

def ableL (l : List (ByteArray × Rec)) (t : ByteArray) : Int :=
  if plainL l (ofT t) = -1 then -1 else if refB t then (if amp t then 3 else 2) else plainL l (ofT t)
def fitB (able a : Int) : Bool := !(a == -1) && !(bits .and .i64 a (needOf able) != needOf able)
def recL (l : List (ByteArray × Rec)) (r : Rec) : Bool :=
  (decide (0 ≤ r.able) && decide (r.able ≤ 15)) && decide (r.fields.length ≤ 3) && r.fields.all fun f => fitB r.able (plainL l f)

theorem extract_one {t : ByteArray} (h0 : 0 < t.size) : (t.extract 0 1).toList = [t[0]] := by
  rw [toList_data, ByteArray.data_extract]
  have hd : 0 < t.data.toList.length := by simpa using h0
  have : t.data.toList = t.data.toList[0] :: t.data.toList.drop 1 := by
    have := List.drop_eq_getElem_cons hd
    simpa using this
  rw [Array.toList_extract, List.extract_eq_take_drop, this]
  rfl

set_option maxHeartbeats 1000000 in
theorem recordOk_any (F : Nat → Prop) (l : List (ByteArray × Rec)) (b : Nat) (v : Value) (r : Rec) (w : World) (hl : MapIs RecV w b l) (h : Cod.str.Sl F w v r.fields) (hF : ∀ b, F b → b < w.heap.size) :
    Calls Try.prog 109 #[.map (some b), .agg #[.int .i64 r.able, v]] w fun e w' => e = .returned (.bool (recL l r)) ∧ Below w.heap.size w w' := by
  have HL := Lib.hid hl
  have hbl := hl.lt
  clear hl
  have HS := Lib.hid h
  obtain ⟨A, cap, rfl, hlc, hcm, _⟩ := h
  unfold maxLen at hcm
  have HR : Hid (recL l r = ((decide (0 ≤ r.able) && decide (r.able ≤ 15)) && decide (r.fields.length ≤ 3) && r.fields.all fun f => fitB r.able (plainL l f))) := rfl
  by_cases hr1 : 0 ≤ r.able ∧ r.able ≤ 15
  · obtain ⟨hr0, hr1⟩ := hr1
    have d1 : decide (0 ≤ r.able) = true := decide_eq_true hr0
    have d2 : decide (r.able ≤ 15) = true := decide_eq_true hr1
    by_cases hr2 : r.fields.length ≤ 3
    · have HQ : Hid ((r.fields.drop 0).all (fun f => fitB r.able (plainL l f)) = recL l r) := by
        show _ = _; rw [HR.out, d1, d2, decide_eq_true hr2]; simp
      go_enter Try.func109, Try.ntmps109
      go_wp2_with (go_at_call 120; refine (fieldNeed_any _ _).mono ?_; rintro e w' ⟨rfl, rfl⟩)
      have hbw : b < (w.alloc (.cells #[.int .i64 r.able, .slice A r.fields.length cap] 112)).heap.size := by simp; omega
      go_loopw [29] (fun i wr => ∃ j : Nat, j ≤ r.fields.length ∧ i = .int .i64 j ∧ Hid ((r.fields.drop j).all (fun f => fitB r.able (plainL l f)) = recL l r) ∧ Below w.heap.size w wr) (fun i _ => r.fields.length - (intOf i).toNat)
      case atStart => exact ⟨0, Nat.zero_le _, rfl, HQ, (Below.refl _ _).alloc (Nat.le_refl _) _⟩
      case round =>
        obtain ⟨j, hj, rfl, HH, hb⟩ := hrel
        by_cases hlt : j < r.fields.length
        · have HSr := Lib.hid (HS.out.keep (below_keeps hb hF))
          obtain ⟨bf, of, c1, hv, hFf, _, _, hcf0, hsf⟩ := HSr.out.str_at hlt
          obtain ⟨rfl, rfl⟩ : A = some ⟨bf, of, none⟩ ∧ cap = c1 := by simpa using hv
          clear hv
          have HLr := Lib.hid (HL.out.keep (hb.block b hbl))
          cases hfit : fitB r.able (plainL l r.fields[j])
          · cases c1 : (plainL l r.fields[j] == -1)
            · have c2 : (bits .and .i64 (plainL l r.fields[j]) (needOf r.able) != needOf r.able) = true := by
                unfold fitB at hfit; rw [c1] at hfit; simpa using hfit
              have Hfit := Lib.hid hfit
              clear hfit
              go_wp2_with (go_at_call 121; refine (plainAble_any l b r.fields[j] _ HLr.out hsf).mono ?_; rintro e w2 ⟨rfl, hb2⟩)
              go_ret
              exact ⟨ret_bool (all_stop hlt HH.out Hfit.out), hb.trans (hb2.mono hb.size)⟩
            · have Hfit := Lib.hid hfit
              clear hfit
              go_wp2_with (go_at_call 121; refine (plainAble_any l b r.fields[j] _ HLr.out hsf).mono ?_; rintro e w2 ⟨rfl, hb2⟩)
              go_ret
              exact ⟨ret_bool (all_stop hlt HH.out Hfit.out), hb.trans (hb2.mono hb.size)⟩
          · have c12 : (plainL l r.fields[j] == -1) = false ∧ (bits .and .i64 (plainL l r.fields[j]) (needOf r.able) != needOf r.able) = false := by
              unfold fitB at hfit; simpa using hfit
            obtain ⟨c1, c2⟩ := c12
            have Hfit := Lib.hid hfit
            clear hfit
            go_wp2_with (go_at_call 121; refine (plainAble_any l b r.fields[j] _ HLr.out hsf).mono ?_; rintro e w2 ⟨rfl, hb2⟩)
            go_roundw
            case rel => exact ⟨j + 1, by omega, by go_num, all_step hlt HH.out Hfit.out, hb.trans (hb2.mono hb.size)⟩
            case measure => simp [intOf]; omega
        · go_wp2
          go_ret
          exact ⟨ret_bool (all_end (by omega) HH.out), hb⟩
    · go_enter Try.func109, Try.ntmps109
      go_wp2
      go_ret
      exact ⟨ret_bool (by rw [HR.out]; simp [hr2]), (Below.refl _ _).alloc (Nat.le_refl _) _⟩
  · have d1 : (decide (0 ≤ r.able) && decide (r.able ≤ 15)) = false := by rw [Bool.eq_false_iff]; simpa using hr1
    go_enter Try.func109, Try.ntmps109
    go_wp2
    all_goals
      go_ret
      exact ⟨ret_bool (by rw [HR.out, d1]; rfl), (Below.refl _ _).alloc (Nat.le_refl _) _⟩
end Go.Proofs.Ytemlpiokdoeeeaa
