/- The program's values: the parts of a record. -/
import Derived.Test.YtelhjdccfomafaaVim
namespace Go.Proofs.Ytelhjdccfomafaa
open Go.RowKit

theorem Blk.of2 (w : World) (t u : TypeId) (cs ds : Array Value) : Blk ((w.alloc (.cells cs t)).alloc (.cells ds u)) w.heap.size t cs ∧ Blk ((w.alloc (.cells cs t)).alloc (.cells ds u)) (w.heap.size + 1) u ds := by
  refine ⟨(Blk.new w t cs).alloc _, ?_⟩
  have h := Blk.new (w.alloc (.cells cs t)) u ds
  simpa using h

set_option maxRecDepth 100000 in
set_option maxHeartbeats 4000000 in
theorem valueOk_loop {ks : Ks} {c e : Cod Val} {f g : Val → Bool} (hc : IsVal c e) {v : Val} (IH : 0 < v.parts.length → ImOkC ks e g ∧ f = okOf ks g)
    (F : Nat → Prop) (gb : Nat) (A B : Option Addr) (cA cB : Nat) (w : World) (ht : Table F ks gb w) (h : VRd c F w (.slice A v.parts.length cA) (.slice B v.path.length cB) v) (hF : ∀ b, F b → b < w.heap.size)
    (c1 : (v.ty.toList == [110]) = false) (c2 : (v.ty.toList == [98]) = false) (c3 : (v.ty.toList == [111]) = false) (m k : Nat) (hk : kindOf v.ty = some (m, k)) (hh : hasB ks m k = true) (hn0 : v.n = 0) (hp0 : v.path.length = 0) (hl0 : v.parts.length = (recAt ks m k).fields.length) :
    Calls Try.prog 28 #[.map (some gb), .agg #[.string v.ty, .int .i64 v.n, .slice A v.parts.length cA, .slice B v.path.length cB]] w fun e w' => e = .returned (.bool ((v.parts.zip (recAt ks m k).fields).all (partB f))) ∧ Below w.heap.size w w' := by
  have HT := Lib.hid ht
  have HV := Lib.hid h
  have IHH := Lib.hid IH
  obtain ⟨A', cA', hA, hA1, hA2, _⟩ := h.parts
  obtain ⟨B', cB', hB, hB1, hB2, _⟩ := h.path
  simp only [Value.slice.injEq] at hA hB
  obtain ⟨rfl, _, rfl⟩ := hA
  obtain ⟨rfl, _, rfl⟩ := hB
  have hgl := ht.lt
  unfold maxLen at hA2 hB2
  clear h IH ht
  have bp : decide (0 < v.path.length) = false := decide_eq_false (by omega)
  have HN : Hid (topB v.ty = -1) := by show _ = _; unfold topB; rw [c1, c2, c3]; rfl
  have hT1 : Table F ks gb (w.alloc (.cells #[.string v.ty, .int .i64 v.n, .slice A v.parts.length cA, .slice B v.path.length cB] 32)) := HT.out.keep (fun b hb => Below.heap_alloc _ _ _ (hF b hb)) (Below.heap_alloc _ _ _ hgl)
  rcases hT1.find Try.underlying50 Try.underlying9 _ (zero_rec _) v.ty with ⟨g1, g2⟩ | ⟨m', k', Af, cf, hk', hh', hS, hI, g2⟩
  · rw [g1 m k hk] at hh; cases hh
  · rw [hk] at hk'
    simp only [Option.some.injEq, Prod.mk.injEq] at hk'
    obtain ⟨rfl, rfl⟩ := hk'
    generalize (recAt ks m k) = r at *
    have bn : (v.n != 0) = false := bne_eq_false_iff_eq.2 hn0
    have bl : (v.parts.length != r.fields.length) = false := bne_eq_false_iff_eq.2 hl0
    have bl2 : ((v.parts.length : Int) != (r.fields.length : Int)) = false := bne_eq_false_iff_eq.2 (by omega)
    have Hl := Lib.hid hl0
    have Hzl := Lib.hid (show (v.parts.zip r.fields).length = v.parts.length by rw [List.length_zip]; omega)
    have HU := Lib.hid hS
    obtain ⟨As, cs, hs1, hs2, hs3, _⟩ := hS
    simp only [Value.slice.injEq] at hs1
    obtain ⟨rfl, _, rfl⟩ := hs1
    unfold maxLen at hs3
    obtain ⟨hB0, hB1'⟩ := Blk.of2 w 32 47 #[.string v.ty, .int .i64 v.n, .slice A v.parts.length cA, .slice B v.path.length cB] #[.int .i64 r.able, .slice Af r.fields.length cf]
    have HB0 := Lib.hid hB0
    have HB1 := Lib.hid hB1'
    have HQ : Hid (((v.parts.zip r.fields).drop 0).all (partB f) = (v.parts.zip r.fields).all (partB f)) := rfl
    have HI := Lib.hid hI
    clear hT1 hp0 hn0 hl0 hk hh hI hh' hB0 hB1'
    go_enter Try.func28, Try.ntmps28
    go_wp2_with (go_at_call 47; refine (numberTop_any v.ty _).mono ?_; rintro e w' ⟨rfl, rfl⟩; rw [HN.out])
    go_loopw [60] (fun i wr => ∃ j : Nat, j ≤ v.parts.length ∧ i = .int .i64 j ∧ Hid (((v.parts.zip r.fields).drop j).all (partB f) = (v.parts.zip r.fields).all (partB f)) ∧ Hid (Below (w.heap.size + 2) ((w.alloc (.cells #[.string v.ty, .int .i64 v.n, .slice A v.parts.length cA, .slice B v.path.length cB] 32)).alloc (.cells #[.int .i64 r.able, .slice Af r.fields.length cf] 47)) wr)) (fun i _ => v.parts.length - (intOf i).toNat)
    case atStart => exact ⟨0, Nat.zero_le _, rfl, HQ, Below.refl _ _⟩
    case round =>
      obtain ⟨j, hj, rfl, HH1, HBe⟩ := hrel
      have hb := Lib.hid (((Below.refl w.heap.size w).alloc (Nat.le_refl _) (.cells #[.string v.ty, .int .i64 v.n, .slice A v.parts.length cA, .slice B v.path.length cB] 32)).alloc (by simp) (.cells #[.int .i64 r.able, .slice Af r.fields.length cf] 47) |>.trans (HBe.out.mono (by simp)))
      have hws := hb.out.size
      have hw2 : w.heap.size + 2 ≤ wr.heap.size := by simpa using HBe.out.size
      have hw1 : w.heap.size + 1 < wr.heap.size := by omega
      by_cases hlt : j < v.parts.length
      · have hlf : j < r.fields.length := by have := Hl.out; omega
        obtain ⟨bp2, of2, cp2, A2, cA2, B2, cB2, hv, hFp, _, _, hp0, hp1, hp2, hp3, hV⟩ := (HV.out.parts.keep (below_keeps hb.out hF)).val_at hc hlt
        obtain ⟨rfl, rfl⟩ : A = some ⟨bp2, of2, none⟩ ∧ cA = cp2 := by simpa using hv
        obtain ⟨bf, of, c5, hv5, hFf, _, _, hcf0, hsf⟩ := (HU.out.keep (w' := wr) fun b hb' => (hb.out.block b (hF b hb')).trans (Below.heap_alloc _ _ _ (hF b hb')).symm).str_at hlf
        obtain ⟨rfl, rfl⟩ : Af = some ⟨bf, of, none⟩ ∧ cf = c5 := by simpa using hv5
        have hfb : bf < wr.heap.size := Nat.lt_of_lt_of_le (hF bf hFf) hws
        have hr1 := (HB1.out.below HBe.out (by simp)).cell1
        have HVp := Lib.hid hV
        have IH1 := Lib.hid (IHH.out (by omega)).1
        have Hf1 := Lib.hid (show f v.parts[j] = okOf ks g v.parts[j] by rw [(IHH.out (by omega)).2])
        have HTr := Lib.hid (HT.out.keep (below_keeps hb.out hF) (hb.out.block _ hgl))
        have HFr := Lib.hid (show ∀ b, F b → b < wr.heap.size from fun b h => Nat.lt_of_lt_of_le (hF b h) hws)
        have Hz := Lib.hid (show (v.parts.zip r.fields)[j]'(by rw [Hzl.out]; exact hlt) = (v.parts[j], r.fields[j]) from List.getElem_zip)
        clear hv hv5 hV hFp hFf
        have i0 : (0 : Int) ≤ j := by omega
        have i1 : (j : Int) < v.parts.length := by omega
        have i2 : (j : Int) < r.fields.length := by omega
        cases hty : (v.parts[j].ty.toList == r.fields[j].toList) with
        | false =>
          have ht2 : (v.parts[j].ty.toList != r.fields[j].toList) = true := by rw [bne, hty]; rfl
          have HTy := Lib.hid hty
          go_wp2
          go_quiet (fail)
          go_wp2
          go_ret
          exact ⟨ret_bool (all_stop (by rw [Hzl.out]; exact hlt) HH1.out (by rw [Hz.out]; unfold partB; rw [HTy.out]; rfl)), below_drewN (hb.out.alloc hws _) _⟩
        | true =>
          have ht2 : (v.parts[j].ty.toList != r.fields[j].toList) = false := by rw [bne, hty]; rfl
          have HTy := Lib.hid hty
          have HBp := Blk.new wr 32 #[.string v.parts[j].ty, .int .i64 v.parts[j].n, .slice A2 v.parts[j].parts.length cA2, .slice B2 v.parts[j].path.length cB2]
          have Hba := Lib.hid ((Below.refl wr.heap.size wr).alloc (Nat.le_refl _) (.cells #[.string v.parts[j].ty, .int .i64 v.parts[j].n, .slice A2 v.parts[j].parts.length cA2, .slice B2 v.parts[j].path.length cB2] 32))
          have Hsa := Lib.hid (show (wr.alloc (.cells #[.string v.parts[j].ty, .int .i64 v.parts[j].n, .slice A2 v.parts[j].parts.length cA2, .slice B2 v.parts[j].path.length cB2] 32)).heap.size = wr.heap.size + 1 by simp)
          go_wp2_with (fail)
          obtain ⟨y0, y1, y2, y3⟩ := HBp.c2
          have z1 := (Hba.out.cell (p := ⟨w.heap.size + 1, 1, none⟩) hw1).trans hr1
          have z2 := (Hba.out.cell (p := ⟨bf, of + j, none⟩) hfb).trans hcf0
          clear HBp hr1 hcf0 hp0 hp1 hp2 hp3
          generalize wr.alloc (.cells #[.string v.parts[j].ty, .int .i64 v.parts[j].n, .slice A2 v.parts[j].parts.length cA2, .slice B2 v.parts[j].path.length cB2] 32) = wx at *
          have HT1 := Lib.hid (HTr.out.keep (w' := wx.drew) (fun b hb' => Hba.out.block _ (HFr.out b hb')) (Hba.out.block _ HTr.out.lt))
          have HV1 := Lib.hid (HVp.out.keep (w' := wx.drew) (fun b hb' => Hba.out.block _ (HFr.out b hb')))
          have HF1 := Lib.hid (show ∀ b, F b → b < wx.drew.heap.size from fun b h => Nat.lt_of_lt_of_le (HFr.out b h) Hba.out.size)
          go_still_tail 11, (by kernel_rfl)
          change wpList _ _ _ _ _ wx.drew
          go_wp2_with fail
          refine (IH1.out F gb _ _ _ _ _ _ v.parts[j] _ HT1.out HV1.out HF1.out).mono ?_
          rintro e' w2 ⟨rfl, hb2⟩
          have hbx : wr.heap.size ≤ wx.heap.size := Hba.out.size
          have HBn := Lib.hid (((HBe.out.trans (Hba.out.mono hw2)).drew).trans (hb2.mono (Nat.le_trans hw2 hbx)))
          have HBl := Lib.hid ((hb.out.trans (Hba.out.mono hws)).drew.trans (hb2.mono (Nat.le_trans hws hbx)))
          cases hq : okOf ks g v.parts[j] with
          | false =>
            go_wp2_with fail
            go_ret
            exact ⟨ret_bool (all_stop (by rw [Hzl.out]; exact hlt) HH1.out (by rw [Hz.out]; unfold partB; rw [HTy.out, Hf1.out, hq]; rfl)), HBl.out⟩
          | true =>
            have HQ2 := Lib.hid hq
            clear hq
            go_wp2_with fail
            go_roundw
            case rel => exact ⟨j + 1, by omega, by go_num, all_step (by rw [Hzl.out]; exact hlt) HH1.out (by rw [Hz.out]; unfold partB; rw [HTy.out, Hf1.out, HQ2.out]; rfl), HBn.out⟩
            case measure => simp [intOf]; omega
      · go_wp2
        go_ret
        exact ⟨ret_bool (all_end (by rw [Hzl.out]; omega) HH1.out), hb.out⟩
end Go.Proofs.Ytelhjdccfomafaa
