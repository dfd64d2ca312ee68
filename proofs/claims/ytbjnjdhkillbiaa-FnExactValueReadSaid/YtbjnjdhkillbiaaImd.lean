/- The program's types: how a table of kinds is made. -/
import Derived.Test.YtbjnjdhkillbiaaImc
namespace Go.Proofs.Ytbjnjdhkillbiaa
open Go.RowKit

/-- A record as an element of a map: its fields read in the world W. -/
def RecF (F : Nat → Prop) (W : World) (v : Value) (r : Rec) : Prop := ∃ A c, v = .agg #[.int .i64 r.able, .slice A r.fields.length c] ∧ Cod.str.Sl F W (.slice A r.fields.length c) r.fields ∧ I64 r.able
theorem MapIs.recV {F : Nat → Prop} {W w : World} {b : Nat} {l : List (ByteArray × Rec)} (h : MapIs (RecF F W) w b l) : MapIs RecV w b l :=
  h.imp fun _ _ ⟨A, c, hv, _⟩ => ⟨A, _, c, hv⟩

/-- What readKinds hands back. -/
def ReadOf (F : Nat → Prop) (ks : Ks) (W : World) (e : Ending) (w' : World) : Prop :=
  Below W.heap.size W w' ∧
  ((0 ≤ (kindsBad ks).1 ∧ e = .returned (.tuple #[.map none, .int .i64 (kindsBad ks).1, .int .i64 (kindsBad ks).2])) ∨
   ((kindsBad ks) = (-1, -1) ∧ ∃ b l, e = .returned (.tuple #[.map (some b), .int .i64 (-1), .int .i64 (-1)]) ∧ MapIs (RecF F W) w' b l ∧ Tab ks ks.length 0 l ∧ W.heap.size ≤ b))

set_option maxHeartbeats 1000000 in
theorem readKinds_any (F : Nat → Prop) (v : Value) (ks : Ks) (w : World) (h : Cod.recs.Sl F w v ks) (hF : ∀ b, F b → b < w.heap.size) :
    Calls Try.prog 58 #[v] w (ReadOf F ks w) := by
  have HS := Lib.hid h
  obtain ⟨A, cap, rfl, hlc, hcm, _⟩ := h
  unfold maxLen at hcm
  have hmm := @run_makeMap Try.prog
  by_cases h3 : 3 < ks.length
  · have HB : Hid (kindsBad ks = (3, 0)) := by show _ = _; unfold kindsBad; rw [if_pos h3]
    go_enter Try.func58, Try.ntmps58
    go_wp2
    go_ret3
    exact ⟨Below.refl _ _, .inl (by rw [HB.out]; exact ⟨by decide, rfl⟩)⟩
  · have HB : Hid (badOut ks (ks.length - 0) 0 = kindsBad ks) := by show _ = _; unfold kindsBad; rw [if_neg h3]; rfl
    go_enter Try.func58, Try.ntmps58
    go_wp2
    go_loopw [16] (fun i wr => ∃ (m : Nat) (l : List (ByteArray × Rec)), m ≤ ks.length ∧ i = .int .i64 m ∧ Hid (badOut ks (ks.length - m) m = kindsBad ks) ∧ Below w.heap.size w wr ∧ Hid (Ahead ks m 0) ∧ Hid (Tab ks m 0 l) ∧ Hid (MapIs (RecF F w) wr w.heap.size l)) (fun i _ => ks.length - (intOf i).toNat)
    case atStart => exact ⟨0, [], Nat.zero_le _, rfl, HB, (Below.refl _ _).alloc (Nat.le_refl _) _, fun am ak _ h => by omega, Tab.nil ks, MapIs.new w⟩
    case round =>
      obtain ⟨m, l, hm, rfl, HH, hb, HA, HT, HM⟩ := hrel
      by_cases hlt : m < ks.length
      · have HSr := Lib.hid (HS.out.keep (below_keeps hb hF))
        obtain ⟨b, off, c1, u, hv, hFb, _, _, hc0, hu⟩ := HSr.out.sl_at hlt
        obtain ⟨rfl, rfl⟩ : A = some ⟨b, off, none⟩ ∧ cap = c1 := by simpa using hv
        have HU := Lib.hid hu
        obtain ⟨Au, cu, rfl, hlu, hcu, _⟩ := hu
        unfold maxLen at hcu
        have hsz := hb.size
        have hbw := hF b hFb
        have hgd : ks.getD m [] = ks[m] := by simp [List.getD, hlt]
        have Hgd := Lib.hid hgd
        have Hn := Lib.hid (show ks.length - m = (ks.length - (m + 1)) + 1 by omega)
        clear hv hgd
        by_cases h4 : 3 < ks[m].length
        · go_wp2
          go_ret3
          have hh := HH.out
          rw [Hn.out, badOut, Hgd.out, if_pos h4] at hh
          exact ⟨hb, .inl (by rw [← hh]; exact ⟨by simp, rfl⟩)⟩
        · have HI : Hid ((match badIn ks m (ks[m].length - 0) 0 with | some k => ((m : Int), (k : Int)) | none => badOut ks (ks.length - (m + 1)) (m + 1)) = kindsBad ks) := by
            have hh := HH.out
            rw [Hn.out, badOut, Hgd.out, if_neg h4] at hh
            exact hh
          obtain ⟨wo, rfl⟩ : ∃ wo : World, wo = wr := ⟨_, rfl⟩
          go_wp2
          go_loopw [27] (fun i wi => ∃ (k : Nat) (l : List (ByteArray × Rec)), k ≤ ks[m].length ∧ i = .int .i64 k ∧ Hid ((match badIn ks m (ks[m].length - k) k with | some k => ((m : Int), (k : Int)) | none => badOut ks (ks.length - (m + 1)) (m + 1)) = kindsBad ks) ∧ Below w.heap.size wo wi ∧ Hid (Ahead ks m k) ∧ Hid (Tab ks m k l) ∧ Hid (MapIs (RecF F w) wi w.heap.size l)) (fun i _ => ks[m].length - (intOf i).toNat)
          case atStart => exact ⟨0, l, Nat.zero_le _, rfl, HI, Below.refl _ _, HA, HT, HM⟩
          case round =>
            obtain ⟨k, l, hk, rfl, HK, hbi, HAk, HTk, HMk⟩ := hrel
            have hws := hbi.size
            have hml := HMk.out.lt
            by_cases hk' : k < ks[m].length
            · have hhas : hasB ks m k = true := by unfold hasB; rw [List.getElem?_eq_getElem hlt]; exact decide_eq_true hk'
              have Hrec := Lib.hid (show recAt ks m k = ks[m][k] by obtain ⟨_, _, h⟩ := has_at hhas; exact h)
              have HUi := Lib.hid (HU.out.keep (below_keeps hbi hF))
              obtain ⟨b', off', c2, u', hv', hFb', _, _, hc1, hc2, hI', hu'⟩ := HUi.out.rec_at hk'
              obtain ⟨rfl, rfl⟩ : Au = some ⟨b', off', none⟩ ∧ cu = c2 := by simpa using hv'
              have HU' := Lib.hid hu'
              obtain ⟨Af, cf, rfl, _⟩ := hu'
              have HRF := Lib.hid (show RecF F w (.agg #[.int .i64 (ks[m][k]).able, .slice Af (ks[m][k]).fields.length cf]) ks[m][k] from ⟨_, _, rfl, HU'.out.keep (fun b hb' => ((hb.trans hbi).block b (hF b hb')).symm), hI'⟩)
              clear hI'
              have Hhas := Lib.hid hhas
              have Hst := Lib.hid (show ks[m].length - k = (ks[m].length - (k + 1)) + 1 by omega)
              have hbw' := hF b' hFb'
              clear hhas hv'
              have hrl := recL_eq HTk.out HAk.out
              rw [Hrec.out] at hrl
              have Hrl := Lib.hid hrl
              clear hrl
              have HBn := Lib.hid (Blk.new wr 60 #[.int .i64 (ks[m][k]).able, .slice Af (ks[m][k]).fields.length cf])
              by_cases hr : recB ks m k = true
              · go_wp2_with (go_at_call 75; refine (recordOk_any F l w.heap.size _ ks[m][k] (wr.alloc (.cells #[.int .i64 (ks[m][k]).able, .slice Af (ks[m][k]).fields.length cf] 60)) (HMk.out.keep (Below.heap_alloc _ _ _ hml)).recV (HU'.out.keep fun b hb' => Below.heap_alloc _ _ _ (by have := hF b hb'; omega)) (fun b hb' => by have := hF b hb'; simp; omega)).mono ?_; rintro e w2 ⟨rfl, hb2⟩; rw [Hrl.out, hr])
                have HB2 := HBn.out.below hb2 (by simp)
                have c20 := HB2.cell0
                have c21 := HB2.cell1
                have hlt2 := HB2.lt
                have HBB := Lib.hid HB2
                have HM2 := Lib.hid ((HMk.out.keep (Below.heap_alloc _ _ _ hml)).keep (hb2.block _ (by simp; omega)))
                have Hb2 := Lib.hid hb2
                clear HB2 hb2
                go_region_with ((go_at_call 76; refine (kindName_any m k _ (by omega) (by omega)).mono ?_; rintro e w3 ⟨rfl, hb3⟩; go_must (have HB3 := Blk.below (w := w2.drew) HBB.out hb3 (by simp; omega); obtain ⟨w4, hmu, hM4, hg4, hs4⟩ := (HM2.out.keep (w' := w3) (hb3.block w.heap.size (by simp; omega))).update Try.underlying54 Try.underlying9 (nameB m k) (.agg #[.int .i64 (ks[m][k]).able, .slice Af (ks[m][k]).fields.length cf]) ks[m][k] HRF.out; have HM4 := Lib.hid hM4; have Hg4 := Lib.hid hg4; have Hs4 := Lib.hid hs4; clear hM4 hg4 hs4; have c30 := HB3.cell0; have c31 := HB3.cell1; clear HB3)))
                all_goals
                  go_wp2
                  go_roundw
                  case rel =>
                    have hw2 : wr.heap.size < w2.heap.size := hlt2
                    have hb4 : Below w.heap.size w3 w4 := ⟨Hg4.out.os, Hg4.out.tape, Hg4.out.output, Hg4.out.size, fun i hi => Hg4.out.block i (by have := hb3.size; simp at this; omega) (by simp; omega)⟩
                    refine ⟨k + 1, _, by omega, by go_num, ?_, hbi.trans (((((Below.refl _ _).alloc (by omega) _).trans (Hb2.out.mono (by simp; omega))).drew.trans (hb3.mono (by simp; omega))).trans hb4), HAk.out.next hr, ?_, HM4⟩
                    · have hh := HK.out
                      rw [Hst.out, badIn, if_pos hr] at hh
                      exact hh
                    · have := HTk.out.put Hhas.out (show m ≤ 9 by omega) (show k ≤ 9 by omega)
                      rw [Hrec.out] at this
                      exact this
                  case measure => simp [intOf]; omega
              · have hr' : recB ks m k = false := by simpa using hr
                go_wp2_with (go_at_call 75; refine (recordOk_any F l w.heap.size _ ks[m][k] (wr.alloc (.cells #[.int .i64 (ks[m][k]).able, .slice Af (ks[m][k]).fields.length cf] 60)) (HMk.out.keep (Below.heap_alloc _ _ _ hml)).recV (HU'.out.keep fun b hb' => Below.heap_alloc _ _ _ (by have := hF b hb'; omega)) (fun b hb' => by have := hF b hb'; simp; omega)).mono ?_; rintro e w2 ⟨rfl, hb2⟩; rw [Hrl.out, hr'])
                go_ret3
                have hh := HK.out
                rw [Hst.out, badIn, if_neg hr] at hh
                exact ⟨(hb.trans hbi).trans (((Below.refl _ _).alloc (by omega) _).trans (hb2.mono (by simp; omega))), .inl (by rw [← hh]; exact ⟨by simp, rfl⟩)⟩
            · go_wp2
              go_roundw
              case rel =>
                refine ⟨m + 1, l, by omega, by go_num, ?_, hb.trans hbi, HAk.out.over (by rw [Hgd.out]; omega), HTk.out.over (by rw [Hgd.out]; omega), HMk⟩
                have hh := HK.out
                rw [show ks[m].length - k = 0 by omega, badIn] at hh
                exact hh
              case measure => simp [intOf]; omega
      · go_wp2
        go_ret3
        have hh := HH.out
        rw [show ks.length - m = 0 by omega, badOut] at hh
        obtain rfl : m = ks.length := by omega
        exact ⟨hb, .inr ⟨hh.symm, _, l, rfl, HM.out, HT.out, Nat.le_refl _⟩⟩
end Go.Proofs.Ytbjnjdhkillbiaa
