/- The program's ShelfShape: heads of functions, and code. The program's ShelfShape. The program's ShelfShape is the model's. -/
import Derived.Test.YthkdkefkgmmoiaaDoorHa
import Derived.Test.YthkdkefkgmmoiaaDoorHd
import Derived.Test.YthkdkefkgmmoiaaDoorImc
import Derived.Test.YthkdkefkgmmoiaaDoorGq
import Derived.Test.YthkdkefkgmmoiaaDoorFm
namespace Go.Proofs.YthkdkefkgmmoiaaDoor
open Go.RowKit

def plainsB (ks : Ks) (ts : List ByteArray) : Bool := ts.all fun t => plainB ks (ofT t)
def headI (ks : Ks) (f : FunR) : Bool := headN f && plainsB ks (f.args ++ (f.rets ++ f.locals))

theorem headI_no {ks : Ks} {f : FunR} (h : headN f = false) : false = headI ks f := by unfold headI; rw [h]; rfl

set_option maxRecDepth 100000 in
set_option maxHeartbeats 4000000 in
theorem headOk_any (G : Nat → Prop) (l : List (ByteArray × Rec)) (tb : Nat) (v1 v2 v3 v4 v5 : Value) (ks : Ks) (f : FunR) (w : World) (hl : MapIs RecV w tb l) (ht : tb < w.heap.size) (hT : Tab ks ks.length 0 l) (hok : kindsOk ks = true) (hf : FunRd G w v1 v2 v3 v4 v5 f) (hG : ∀ b, G b → b < w.heap.size) (hsm : f.locals.length ≤ 2000000) :
    Calls Tryd.prog 49 #[.map (some tb), .agg #[.int .i64 f.seen, v1, v2, v3, v4, v5]] w fun e w' => e = .returned (.bool (headI ks f)) ∧ Below w.heap.size w w' := by
  obtain ⟨A1, c1, rfl, h11, h12, _⟩ := id hf.args
  obtain ⟨A2, c2, rfl, h21, h22, _⟩ := id hf.rets
  obtain ⟨A3, c3, rfl, h31, h32, _⟩ := id hf.locals
  obtain ⟨A4, c4, rfl, _⟩ := id hf.takes
  obtain ⟨A5, c5, rfl, _⟩ := id hf.code
  unfold maxLen at h12 h22 h32
  obtain ⟨wA, hwA⟩ : ∃ wA, wA = w.alloc (.cells #[.int .i64 f.seen, .slice A1 f.args.length c1, .slice A2 f.rets.length c2, .slice A3 f.locals.length c3, .slice A4 f.takes.length c4, .slice A5 f.code.length c5] 62) := ⟨_, rfl⟩
  have hbA : Below w.heap.size w wA := by rw [hwA]; exact (Below.refl _ _).alloc (Nat.le_refl _) _
  have HB := Lib.hid (show Blk wA w.heap.size 62 #[.int .i64 f.seen, .slice A1 f.args.length c1, .slice A2 f.rets.length c2, .slice A3 f.locals.length c3, .slice A4 f.takes.length c4, .slice A5 f.code.length c5] by rw [hwA]; exact Blk.new _ _ _)
  have HE := Lib.hid hbA
  have HwA := Lib.hid hwA
  by_cases c1_ : 0 ≤ f.seen ∧ f.seen ≤ 2
  · have s1 : decide (f.seen < 0) = false := by rw [decide_eq_false_iff_not]; omega
    have s2 : decide ((2 : Int) < f.seen) = false := by rw [decide_eq_false_iff_not]; omega
    by_cases c2_ : f.args.length ≤ 3
    · have t2 : decide ((3 : Int) < (f.args.length : Int)) = false := by rw [decide_eq_false_iff_not]; omega
      by_cases c3_ : f.rets.length ≤ 3
      · have t3 : decide ((3 : Int) < (f.rets.length : Int)) = false := by rw [decide_eq_false_iff_not]; omega
        have u0 : (0 : Int) ≤ (f.args.length : Int) + f.locals.length := by omega
        have u1 : (f.args.length : Int) + f.locals.length ≤ 9223372036854775807 := by omega
        by_cases c4_ : f.args.length + f.locals.length ≤ 6
        · have t4 : decide ((6 : Int) < (f.args.length : Int) + f.locals.length) = false := by rw [decide_eq_false_iff_not]; omega
          have HH := Lib.hid (headN_yes c1_ c2_ c3_ c4_)
          have hsz : ∀ {v : Value} {ts : List ByteArray} {w : World}, Cod.str.Sl G w v ts → ∀ x ∈ ts, x.size ≤ maxLen := fun h x hx => by
            obtain ⟨i, hi, rfl⟩ := List.getElem_of_mem hx
            obtain ⟨_, _, _, _, _, _, _, _, hs⟩ := h.str_at hi
            exact hs
          have hsz1 := hsz hf.args
          have hsz2 := hsz hf.rets
          have hsz3 := hsz hf.locals
          obtain ⟨wB, hwB⟩ : ∃ wB, wB = wA.alloc (.cells #[.slice A1 f.args.length c1, .slice A2 f.rets.length c2, .slice A3 f.locals.length c3] 49) := ⟨_, rfl⟩
          have hbB : Below wA.heap.size wA wB := by rw [hwB]; exact (Below.refl _ _).alloc (Nat.le_refl _) _
          have hBB : Blk wB wA.heap.size 49 #[.slice A1 f.args.length c1, .slice A2 f.rets.length c2, .slice A3 f.locals.length c3] := by rw [hwB]; exact Blk.new _ _ _
          have hEB : Below w.heap.size w wB := hbA.trans (hbB.mono hbA.size)
          have hsB : wB.heap.size = wA.heap.size + 1 := by rw [hwB]; simp
          have hrow : Cod.str.sl.Sl (fun b => b < wB.heap.size) wB (.slice (some ⟨wA.heap.size, 0, none⟩) 3 3) [f.args, f.rets, f.locals] := by
            have k1 := (hf.args.keep (below_keeps hEB hG)).mono (G := fun b => b < wB.heap.size) fun b hb => by have := hG b hb; have := hEB.size; omega
            have k2 := (hf.rets.keep (below_keeps hEB hG)).mono (G := fun b => b < wB.heap.size) fun b hb => by have := hG b hb; have := hEB.size; omega
            have k3 := (hf.locals.keep (below_keeps hEB hG)).mono (G := fun b => b < wB.heap.size) fun b hb => by have := hG b hb; have := hEB.size; omega
            refine ⟨_, 3, rfl, Nat.le_refl _, by unfold maxLen; omega, fun _ => ⟨wA.heap.size, 0, rfl, by omega, fun i x hx => ?_⟩⟩
            match i, hx with
            | 0, hx => cases hx; exact ⟨[_], fun j u hu => by match j, hu with
                                                              | 0, hu => cases hu; exact hBB.cell 0
                                                              | j + 1, hu => simp at hu, _, rfl, k1⟩
            | 1, hx => cases hx; exact ⟨[_], fun j u hu => by match j, hu with
                                                              | 0, hu => cases hu; exact hBB.cell 1
                                                              | j + 1, hu => simp at hu, _, rfl, k2⟩
            | 2, hx => cases hx; exact ⟨[_], fun j u hu => by match j, hu with
                                                              | 0, hu => cases hu; exact hBB.cell 2
                                                              | j + 1, hu => simp at hu, _, rfl, k3⟩
            | i + 3, hx => simp at hx
          have HC := Lib.hid (concat_any _ _ _ wB hrow (fun b hb => hb) (by simp [lens]; omega))
          obtain ⟨ts, hts⟩ : ∃ ts, ts = f.args ++ (f.rets ++ f.locals) := ⟨_, rfl⟩
          have hfl : [f.args, f.rets, f.locals].flatten = ts := by rw [hts]; simp
          rw [hfl] at HC
          have hsA : wA.heap.size = w.heap.size + 1 := by rw [hwA]; simp
          rw [hsA] at HC
          have HtsS := Lib.hid (show ∀ x ∈ ts, x.size ≤ maxLen from fun x hx => by
            rw [hts] at hx
            rcases List.mem_append.1 hx with h | h
            · exact hsz1 x h
            · rcases List.mem_append.1 h with h | h
              · exact hsz2 x h
              · exact hsz3 x h)
          have HtL := Lib.hid (show ts.length ≤ 1000 by rw [hts]; simp only [List.length_append]; omega)
          have HR0 := Lib.hid (show (ts.drop 0).all (fun t => plainB ks (ofT t)) = headI ks f by unfold headI plainsB; rw [HH.out, ← hts]; rfl)
          have HAb := Lib.hid (show ∀ t, (ableL l t == -1) = !plainB ks (ofT t) from fun t => by
            rw [ableL_eq hT hok]
            have h1 := typeAble_iff (ks := ks) (t := t)
            unfold typeOkB at h1
            rw [hok, Bool.true_and] at h1
            rw [← h1, bne, Bool.not_not])
          have HL := Lib.hid (hl.keep (w' := wB) (hEB.block tb ht))
          have HEB := Lib.hid hEB
          have htB : tb < wB.heap.size := Nat.lt_of_lt_of_le ht hEB.size
          have HwB := Lib.hid hwB
          have HsB := Lib.hid hsB
          clear hwA hwB hbA hbB hBB hEB hsB hsA hrow hts hfl hsz hsz1 hsz2 hsz3 hf hl hT hok hG c1_ c2_ c3_ c4_
          go_enter Tryd.func49, Tryd.ntmps49
          go_wp2_with fail
          rw [← HwA.out, ← HwB.out]
          with_reducible refine HC.out.mono ?_
          rintro e w1 ⟨vr, rfl, hO, hb⟩
          have hsl := (OwnS.own hO hb.size HtsS.out).sl
          have HS := Lib.hid hsl
          obtain ⟨Ar, cr, rfl, hrl, hrc, _⟩ := hsl
          unfold maxLen at hrc
          have HB1 := Lib.hid (HEB.out.trans (hb.mono HEB.out.size))
          have HL1 := Lib.hid (HL.out.keep (w' := w1) (hb.block tb htB))
          have ht1 : tb < w1.heap.size := Nat.lt_of_lt_of_le htB hb.size
          clear hO hb HC
          go_wp2
          go_loopw [44] (fun i wr => ∃ (k : Nat), k ≤ ts.length ∧ i = .int .i64 k ∧ Hid ((ts.drop k).all (fun t => plainB ks (ofT t)) = headI ks f) ∧ Hid (Below w1.heap.size w1 wr)) (fun i _ => ts.length - (intOf i).toNat)
          case atStart => exact ⟨0, Nat.zero_le _, rfl, HR0, Below.refl _ _⟩
          case round =>
            obtain ⟨k, hk, rfl, HI, HBr⟩ := hrel
            by_cases hlt : k < ts.length
            · have HSr := Lib.hid (HS.out.keep (w' := wr) fun b hb => HBr.out.block b hb.2)
              obtain ⟨b, off, c1', hv, _, _, _, hc0, hszk⟩ := HSr.out.str_at hlt
              obtain ⟨rfl, rfl⟩ : Ar = some ⟨b, off, none⟩ ∧ cr = c1' := by simpa using hv
              have i0 : (0 : Int) ≤ k := by omega
              have i1 : (k : Int) < ts.length := by omega
              have hab := HAb.out ts[k]
              have HCk := Lib.hid (able_any l tb ts[k] wr (HL1.out.keep (HBr.out.block tb ht1)) hszk)
              have hstep := fun h => all_step (p := fun t => plainB ks (ofT t)) hlt HI.out h
              have hstop := fun h => all_stop (p := fun t => plainB ks (ofT t)) hlt HI.out h
              generalize ts[k] = t at *
              have Hstep := Lib.hid hstep
              have Hstop := Lib.hid hstop
              have HBw := Lib.hid (HB1.out.trans (HBr.out.mono HB1.out.size))
              clear hv hstep hstop
              cases hp : plainB ks (ofT t) with
              | true =>
                rw [hp] at hab
                have t5 : (ableL l t == -1) = false := hab
                have HN := Lib.hid (Hstep.out hp)
                clear hp hab
                generalize ableL l t = a at *
                go_wp2_with (go_at_call 64; (with_reducible refine HCk.out.mono ?_); rintro e w2 ⟨rfl, hb⟩)
                go_roundw
                case rel => exact ⟨k + 1, by omega, by go_num, HN, HBr.out.trans (hb.mono HBr.out.size)⟩
                case measure => simp [intOf]; omega
              | false =>
                rw [hp] at hab
                have t5 : (ableL l t == -1) = true := hab
                have HN := Lib.hid (Hstop.out hp)
                clear hp hab
                generalize ableL l t = a at *
                go_wp2_with (go_at_call 64; (with_reducible refine HCk.out.mono ?_); rintro e w2 ⟨rfl, hb⟩)
                go_ret
                exact ⟨ret_bool HN.out, HBw.out.trans (hb.mono HBw.out.size)⟩
            · have HN := Lib.hid (all_end (show k = ts.length by omega) HI.out)
              go_wp2
              go_ret
              exact ⟨ret_bool HN.out, HB1.out.trans (HBr.out.mono HB1.out.size)⟩
        · have t4 : decide ((6 : Int) < (f.args.length : Int) + f.locals.length) = true := by rw [decide_eq_true_eq]; omega
          have HR := Lib.hid (headI_no (ks := ks) (headN_4 c4_))
          clear hwA hbA hf hl hT hok hG c1_ c2_ c3_ c4_
          go_enter Tryd.func49, Tryd.ntmps49
          go_wp2
          rw [← HwA.out]
          go_ret
          exact ⟨ret_bool HR.out, HE.out⟩
      · have t3 : decide ((3 : Int) < (f.rets.length : Int)) = true := by rw [decide_eq_true_eq]; omega
        have HR := Lib.hid (headI_no (ks := ks) (headN_3 c3_))
        clear hwA hbA hf hl hT hok hG c1_ c2_ c3_
        go_enter Tryd.func49, Tryd.ntmps49
        go_wp2
        rw [← HwA.out]
        go_ret
        exact ⟨ret_bool HR.out, HE.out⟩
    · have t2 : decide ((3 : Int) < (f.args.length : Int)) = true := by rw [decide_eq_true_eq]; omega
      have HR := Lib.hid (headI_no (ks := ks) (headN_2 c2_))
      clear hwA hbA hf hl hT hok hG c1_ c2_
      go_enter Tryd.func49, Tryd.ntmps49
      go_wp2
      rw [← HwA.out]
      go_ret
      exact ⟨ret_bool HR.out, HE.out⟩
  · have HR := Lib.hid (headI_no (ks := ks) (headN_1 c1_))
    by_cases c0_ : f.seen < 0
    · have s1 : decide (f.seen < 0) = true := by rw [decide_eq_true_eq]; exact c0_
      clear hwA hbA hf hl hT hok hG c1_ c0_
      go_enter Tryd.func49, Tryd.ntmps49
      go_wp2
      rw [← HwA.out]
      go_ret
      exact ⟨ret_bool HR.out, HE.out⟩
    · have s1 : decide (f.seen < 0) = false := by rw [decide_eq_false_iff_not]; exact c0_
      have s2 : decide ((2 : Int) < f.seen) = true := by rw [decide_eq_true_eq]; omega
      clear hwA hbA hf hl hT hok hG c1_ c0_
      go_enter Tryd.func49, Tryd.ntmps49
      go_wp2
      rw [← HwA.out]
      go_ret
      exact ⟨ret_bool HR.out, HE.out⟩
end Go.Proofs.YthkdkefkgmmoiaaDoor

namespace Go.Proofs.YthkdkefkgmmoiaaDoor
open Go.RowKit

set_option maxRecDepth 100000 in
set_option maxHeartbeats 4000000 in
theorem codeOk_any (T : Nat → Prop) (tv : Value) (F : Nat → Prop) (v : Value) (m : Int) (xs : List InsR) (w : World) (hT : ITab T w tv) (hTF : ∀ b, T b → b < w.heap.size) (h : Cod.insr.Sl F w v xs) (hF : ∀ b, F b → b < w.heap.size) :
    Calls Tryd.prog 50 #[v, .int .i64 m] w fun e w' => e = .returned (.bool (codeB m xs)) ∧ Below w.heap.size w w' := by
  have HS := Lib.hid h
  have HF := Lib.hid hF
  have HT := Lib.hid hT
  have HTF := Lib.hid hTF
  obtain ⟨A, cap, rfl, hlc, hcm, _⟩ := h
  unfold maxLen at hcm
  have H0 := Lib.hid (show (xs.drop 0).all (insB m) = xs.all (insB m) from rfl)
  clear hF hT hTF
  go_enter Tryd.func50, Tryd.ntmps50
  go_wp2
  go_loopw [9] (fun i wr => ∃ (k : Nat), k ≤ xs.length ∧ i = .int .i64 k ∧ Hid ((xs.drop k).all (insB m) = xs.all (insB m)) ∧ Hid (Below w.heap.size w wr)) (fun i _ => xs.length - (intOf i).toNat)
  case atStart => exact ⟨0, Nat.zero_le _, rfl, H0, Below.refl _ _⟩
  case round =>
    obtain ⟨k, hk, rfl, HI, HB⟩ := hrel
    by_cases hlt : k < xs.length
    · have HSr := Lib.hid (HS.out.keep (below_keeps HB.out HF.out))
      obtain ⟨b, off, c1, hv, hFb, _, _, d0, d1, d2, hd⟩ := HSr.out.insr_at hlt
      obtain ⟨rfl, rfl⟩ : A = some ⟨b, off, none⟩ ∧ cap = c1 := by simpa using hv
      have i0 : (0 : Int) ≤ k := by omega
      have i1 : (k : Int) < xs.length := by omega
      have hstep := fun h => all_step (p := insB m) hlt HI.out h
      have hstop := fun h => all_stop (p := insB m) hlt HI.out h
      generalize xs[k] = x at *
      obtain ⟨wA, hwA⟩ : ∃ wA, wA = wr.alloc (.cells #[.string x.op, .int .i64 x.a, .int .i64 x.b] 102) := ⟨_, rfl⟩
      have hbA : Below wr.heap.size wr wA := by rw [hwA]; exact (Below.refl _ _).alloc (Nat.le_refl _) _
      have hBA : Blk wA wr.heap.size 102 #[.string x.op, .int .i64 x.a, .int .i64 x.b] := by rw [hwA]; exact Blk.new _ _ _
      have hbw : Below w.heap.size w wA := HB.out.trans (hbA.mono HB.out.size)
      have HC := Lib.hid (implInsOk_any T tv x.op x.a x.b wA (HT.out.keep (below_keeps hbw HTF.out)) (fun b hb => Nat.lt_of_lt_of_le (HTF.out b hb) hbw.size))
      have Hstep := Lib.hid hstep
      have Hstop := Lib.hid hstop
      have HBA := Lib.hid hBA
      have HBw := Lib.hid hbw
      have hsl : wr.heap.size < wA.heap.size := hBA.lt
      have HwA := Lib.hid hwA
      clear hv hd hstep hstop hwA hbA hBA hbw
      by_cases ho : insOk x.op x.a x.b = true
      · by_cases hc : callB x = true
        · have t1 : (x.op.toList == [99, 97, 108, 108]) = true := hc
          by_cases hm : m < x.a
          · have HR := Lib.hid (Hstop.out (by unfold insB; rw [ho, hc, decide_eq_true hm]; rfl))
            have t2 : decide (m < x.a) = true := by simpa using hm
            rw [ho] at HC
            clear ho hc
            go_wp2_with fail
            rw [← HwA.out]
            with_reducible refine HC.out.mono ?_
            rintro e w1 ⟨rfl, hb⟩
            obtain ⟨y0, y1, y2⟩ := (HBA.out.below hb hsl).g3
            go_wp2
            go_ret
            exact ⟨ret_bool (by unfold codeB; rw [← HR.out]; rfl), HBw.out.trans (hb.mono HBw.out.size)⟩
          · have HR := Lib.hid (Hstep.out (by unfold insB; rw [ho, decide_eq_false hm, Bool.and_false]; rfl))
            have t2 : decide (m < x.a) = false := by simpa using hm
            rw [ho] at HC
            clear ho hc
            go_wp2_with fail
            rw [← HwA.out]
            with_reducible refine HC.out.mono ?_
            rintro e w1 ⟨rfl, hb⟩
            obtain ⟨y0, y1, y2⟩ := (HBA.out.below hb hsl).g3
            go_wp2
            go_roundw
            case rel => exact ⟨k + 1, by omega, by go_num, HR, HBw.out.trans (hb.mono HBw.out.size)⟩
            case measure => simp [intOf]; omega
        · have hc' : callB x = false := by simpa using hc
          have t1 : (x.op.toList == [99, 97, 108, 108]) = false := hc'
          have HR := Lib.hid (Hstep.out (by unfold insB; rw [ho, show callB x = false from t1]; rfl))
          rw [ho] at HC
          clear ho hc hc'
          go_wp2_with fail
          rw [← HwA.out]
          with_reducible refine HC.out.mono ?_
          rintro e w1 ⟨rfl, hb⟩
          obtain ⟨y0, y1, y2⟩ := (HBA.out.below hb hsl).g3
          go_wp2
          go_roundw
          case rel => exact ⟨k + 1, by omega, by go_num, HR, HBw.out.trans (hb.mono HBw.out.size)⟩
          case measure => simp [intOf]; omega
      · have ho' : insOk x.op x.a x.b = false := by simpa using ho
        have HR := Lib.hid (Hstop.out (by unfold insB; rw [ho']; rfl))
        rw [ho'] at HC
        clear ho ho'
        go_wp2_with fail
        rw [← HwA.out]
        with_reducible refine HC.out.mono ?_
        rintro e w1 ⟨rfl, hb⟩
        go_wp2
        go_ret
        exact ⟨ret_bool (by unfold codeB; rw [← HR.out]; rfl), HBw.out.trans (hb.mono HBw.out.size)⟩
    · have HR := Lib.hid (all_end (show k = xs.length by omega) HI.out)
      by_cases h0 : 0 < xs.length
      · have t1 : decide ((0 : Int) < (xs.length : Int)) = true := by rw [decide_eq_true_eq]; omega
        go_wp2
        go_ret
        exact ⟨ret_bool (by unfold codeB; rw [← HR.out, Bool.true_and, Bool.eq_iff_iff]; simp; omega), HB.out⟩
      · have t1 : decide ((0 : Int) < (xs.length : Int)) = false := by rw [decide_eq_false_iff_not]; omega
        go_wp2
        go_ret
        exact ⟨ret_bool (by unfold codeB; rw [← HR.out, Bool.true_and, Bool.eq_iff_iff]; simp; omega), HB.out⟩

def funI (ks : Ks) (m : Nat) (n : Int) (f : FunR) : Bool := headI ks f && riseF n 0 f.takes && codeB m f.code
def funsI (ks : Ks) (m : Nat) (x : ModR) : Bool := decide (x.funcs.length ≤ 4) && x.funcs.all (funI ks m x.records.length)

set_option maxRecDepth 100000 in
set_option maxHeartbeats 8000000 in
theorem funcsOk_any (T : Nat → Prop) (tv : Value) (F : Nat → Prop) (l : List (ByteArray × Rec)) (tb : Nat) (v0 v1 v2 : Value) (ks : Ks) (m : Nat) (x : ModR) (w : World) (hT : ITab T w tv) (hTF : ∀ b, T b → b < w.heap.size)
    (hl : MapIs RecV w tb l) (ht : tb < w.heap.size) (hTab : Tab ks ks.length 0 l) (hok : kindsOk ks = true) (h : ModRd F w v0 v1 v2 x) (hF : ∀ b, F b → b < w.heap.size) (hsm : SmolModr x) :
    Calls Tryd.prog 35 #[.map (some tb), .agg #[v0, v1, v2], .int .i64 m] w fun e w' => e = .returned (.bool (funsI ks m x)) ∧ Below w.heap.size w w' := by
  obtain ⟨A0, c0, rfl, h01, h02, _⟩ := id h.records
  obtain ⟨A1, c1, rfl, h11, h12, _⟩ := id h.funcs
  obtain ⟨A2, c2, rfl, _⟩ := id h.friends
  unfold maxLen at h02 h12
  obtain ⟨wA, hwA⟩ : ∃ wA, wA = w.alloc (.cells #[.slice A0 x.records.length c0, .slice A1 x.funcs.length c1, .slice A2 x.friends.length c2] 43) := ⟨_, rfl⟩
  have hbA : Below w.heap.size w wA := by rw [hwA]; exact (Below.refl _ _).alloc (Nat.le_refl _) _
  have HB := Lib.hid (show Blk wA w.heap.size 43 #[.slice A0 x.records.length c0, .slice A1 x.funcs.length c1, .slice A2 x.friends.length c2] by rw [hwA]; exact Blk.new _ _ _)
  have HE := Lib.hid hbA
  have HwA := Lib.hid hwA
  have HL := Lib.hid (hl.keep (w' := wA) (hbA.block tb ht))
  have HF := Lib.hid (show ∀ b, F b → b < wA.heap.size from fun b hb => Nat.lt_of_lt_of_le (hF b hb) hbA.size)
  have HS := Lib.hid (h.funcs.keep (below_keeps hbA hF))
  have HT := Lib.hid (hT.keep (below_keeps hbA hTF))
  have HTF := Lib.hid (show ∀ b, T b → b < wA.heap.size from fun b hb => Nat.lt_of_lt_of_le (hTF b hb) hbA.size)
  have htA : tb < wA.heap.size := Nat.lt_of_lt_of_le ht hbA.size
  have HTab := Lib.hid hTab
  have Hok := Lib.hid hok
  have Hsm := Lib.hid hsm
  have hwl : w.heap.size < wA.heap.size := HB.out.lt
  have hrl : (x.records.length : Int) ≤ 9223372036854775807 := by omega
  clear hwA hbA hl h hF hT hTF hTab hok hsm
  by_cases hf : x.funcs.length ≤ 4
  · have t1 : decide ((4 : Int) < (x.funcs.length : Int)) = false := by rw [decide_eq_false_iff_not]; omega
    have HX := Lib.hid (show ∀ R, x.funcs.all (funI ks m x.records.length) = R → funsI ks m x = R from fun R h => by unfold funsI; rw [decide_eq_true hf, h]; rfl)
    have HA0 := Lib.hid (show (x.funcs.drop 0).all (funI ks m x.records.length) = x.funcs.all (funI ks m x.records.length) from rfl)
    obtain ⟨z0, z1, z2⟩ := HB.out.g3
    go_enter Tryd.func35, Tryd.ntmps35
    go_wp2
    rw [← HwA.out]
    go_loopw [16] (fun i wr => ∃ (k : Nat), k ≤ x.funcs.length ∧ i = .int .i64 k ∧ Hid ((x.funcs.drop k).all (funI ks m x.records.length) = x.funcs.all (funI ks m x.records.length)) ∧ Hid (Below wA.heap.size wA wr)) (fun i _ => x.funcs.length - (intOf i).toNat)
    case atStart => exact ⟨0, Nat.zero_le _, rfl, HA0, Below.refl _ _⟩
    case round =>
      obtain ⟨k, hk, rfl, HI, HBr⟩ := hrel
      by_cases hlt : k < x.funcs.length
      · have HSr := Lib.hid (HS.out.keep (below_keeps HBr.out HF.out))
        obtain ⟨bb, oo, cp, B1, d1, B2, d2, B3, d3, B4, d4, B5, d5, hv, hFbb, _, _, q0, q1, q2, q3, q4, q5, hfd⟩ := HSr.out.funr_at hlt
        obtain ⟨rfl, rfl⟩ : A1 = some ⟨bb, oo, none⟩ ∧ c1 = cp := by simpa using hv
        have hsy := Hsm.out.2.2.2.2 _ (List.getElem_mem hlt)
        have hst := fun h => all_stop (p := funI ks m x.records.length) hlt HI.out h
        have hsp := fun h => all_step (p := funI ks m x.records.length) hlt HI.out h
        have i0 : (0 : Int) ≤ k := by omega
        have i1 : (k : Int) < x.funcs.length := by omega
        generalize x.funcs[k] = y at *
        obtain ⟨wB, hwB⟩ : ∃ wB, wB = wr.alloc (.cells #[.int .i64 y.seen, .slice B1 y.args.length d1, .slice B2 y.rets.length d2, .slice B3 y.locals.length d3, .slice B4 y.takes.length d4, .slice B5 y.code.length d5] 62) := ⟨_, rfl⟩
        have hbB : Below wr.heap.size wr wB := by rw [hwB]; exact (Below.refl _ _).alloc (Nat.le_refl _) _
        have hBB : Blk wB wr.heap.size 62 #[.int .i64 y.seen, .slice B1 y.args.length d1, .slice B2 y.rets.length d2, .slice B3 y.locals.length d3, .slice B4 y.takes.length d4, .slice B5 y.code.length d5] := by rw [hwB]; exact Blk.new _ _ _
        have hbw : Below wA.heap.size wA wB := HBr.out.trans (hbB.mono HBr.out.size)
        have HfB := Lib.hid (show FunRd F wB _ _ _ _ _ y from hfd.keep fun b hb => hbB.block b (Nat.lt_of_lt_of_le (HF.out b hb) HBr.out.size))
        have HFB := Lib.hid (show ∀ b, F b → b < wB.heap.size from fun b hb => Nat.lt_of_lt_of_le (HF.out b hb) hbw.size)
        have HC1 := Lib.hid (headOk_any F l tb _ _ _ _ _ ks y wB (HL.out.keep (hbw.block tb htA)) (Nat.lt_of_lt_of_le htA hbw.size) HTab.out Hok.out HfB.out HFB.out hsy.2.2.1)
        have Hst := Lib.hid hst
        have Hsp := Lib.hid hsp
        have HBB := Lib.hid hBB
        have HBw := Lib.hid hbw
        have HBr2 := Lib.hid (show Below w.heap.size w wB from HE.out.trans (hbw.mono HE.out.size))
        have hsl : wr.heap.size < wB.heap.size := hBB.lt
        have hwr : w.heap.size < wr.heap.size := Nat.lt_of_lt_of_le hwl HBr.out.size
        have HwB := Lib.hid hwB
        clear hv hfd hst hsp hwB hbB hBB hbw hsy
        cases hh : headI ks y with
        | false =>
          have HR := Lib.hid (show false = funsI ks m x from (HX.out _ (Hst.out (by unfold funI; rw [hh]; rfl)).symm).symm)
          rw [hh] at HC1
          clear hh
          go_wp2_with fail
          rw [← HwB.out]
          with_reducible refine HC1.out.mono ?_
          rintro e w1 ⟨rfl, hb⟩
          go_wp2
          go_ret
          exact ⟨ret_bool HR.out, HBr2.out.trans (hb.mono HBr2.out.size)⟩
        | true =>
          rw [hh] at HC1
          cases hr : riseF x.records.length 0 y.takes with
          | false =>
            have HR := Lib.hid (show false = funsI ks m x from (HX.out _ (Hst.out (by unfold funI; rw [hh, hr]; rfl)).symm).symm)
            have Hr := Lib.hid hr
            clear hh hr
            go_wp2_with fail
            rw [← HwB.out]
            with_reducible refine HC1.out.mono ?_
            rintro e w1 ⟨rfl, hb⟩
            obtain ⟨y0, y1, y2, y3, y4, y5⟩ := (HBB.out.below hb hsl).g6
            have x0 : w1.cell? ⟨w.heap.size, 0, none⟩ = some (.slice A0 x.records.length c0) := (hb.cell (p := ⟨w.heap.size, 0, none⟩) (by show w.heap.size < wB.heap.size; omega)).trans ((HBw.out.cell (p := ⟨w.heap.size, 0, none⟩) hwl).trans z0)
            have HC2 := Lib.hid (ascendingWithin_any F (.slice B4 y.takes.length d4) y.takes 0 x.records.length w1 (HfB.out.takes.keep (below_keeps hb HFB.out)) hrl (by omega))
            rw [Hr.out] at HC2
            go_wp2_with fail
            with_reducible refine HC2.out.mono ?_
            rintro e w2 ⟨rfl, rfl⟩
            go_wp2
            go_ret
            exact ⟨ret_bool HR.out, HBr2.out.trans (hb.mono HBr2.out.size)⟩
          | true =>
            have Hh := Lib.hid (show ∀ R, codeB m y.code = R → funI ks m x.records.length y = R from fun R h => by unfold funI; rw [hh, hr, h]; rfl)
            have Hr := Lib.hid hr
            clear hh hr
            cases hg : codeB m y.code with
            | false =>
              have HR := Lib.hid (show false = funsI ks m x from (HX.out _ (Hst.out (Hh.out _ hg)).symm).symm)
              have Hg := Lib.hid hg
              clear hg
              go_wp2_with fail
              rw [← HwB.out]
              with_reducible refine HC1.out.mono ?_
              rintro e w1 ⟨rfl, hb⟩
              obtain ⟨y0, y1, y2, y3, y4, y5⟩ := (HBB.out.below hb hsl).g6
              have x0 : w1.cell? ⟨w.heap.size, 0, none⟩ = some (.slice A0 x.records.length c0) := (hb.cell (p := ⟨w.heap.size, 0, none⟩) (by show w.heap.size < wB.heap.size; omega)).trans ((HBw.out.cell (p := ⟨w.heap.size, 0, none⟩) hwl).trans z0)
              have HC2 := Lib.hid (ascendingWithin_any F (.slice B4 y.takes.length d4) y.takes 0 x.records.length w1 (HfB.out.takes.keep (below_keeps hb HFB.out)) hrl (by omega))
              rw [Hr.out] at HC2
              have HC3 := Lib.hid (codeOk_any T tv F (.slice B5 y.code.length d5) m y.code w1 (HT.out.keep fun b h => (hb.block b (by have := HTF.out b h; have := HBw.out.size; omega)).trans (HBw.out.block b (HTF.out b h))) (fun b h => by have := HTF.out b h; have := HBw.out.size; have := hb.size; omega) (HfB.out.code.keep (below_keeps hb HFB.out)) (fun b h => Nat.lt_of_lt_of_le (HFB.out b h) hb.size))
              rw [Hg.out] at HC3
              go_wp2_with fail
              with_reducible refine HC2.out.mono ?_
              rintro e w2 ⟨rfl, rfl⟩
              go_wp2_with fail
              with_reducible refine HC3.out.mono ?_
              rintro e w2 ⟨rfl, hb2⟩
              go_wp2
              go_ret
              exact ⟨ret_bool HR.out, (HBr2.out.trans (hb.mono HBr2.out.size)).trans (hb2.mono (Nat.le_trans HBr2.out.size hb.size))⟩
            | true =>
              have HN := Lib.hid (Hsp.out (Hh.out _ hg))
              have Hg := Lib.hid hg
              clear hg
              go_wp2_with fail
              rw [← HwB.out]
              with_reducible refine HC1.out.mono ?_
              rintro e w1 ⟨rfl, hb⟩
              obtain ⟨y0, y1, y2, y3, y4, y5⟩ := (HBB.out.below hb hsl).g6
              have x0 : w1.cell? ⟨w.heap.size, 0, none⟩ = some (.slice A0 x.records.length c0) := (hb.cell (p := ⟨w.heap.size, 0, none⟩) (by show w.heap.size < wB.heap.size; omega)).trans ((HBw.out.cell (p := ⟨w.heap.size, 0, none⟩) hwl).trans z0)
              have HC2 := Lib.hid (ascendingWithin_any F (.slice B4 y.takes.length d4) y.takes 0 x.records.length w1 (HfB.out.takes.keep (below_keeps hb HFB.out)) hrl (by omega))
              rw [Hr.out] at HC2
              have HC3 := Lib.hid (codeOk_any T tv F (.slice B5 y.code.length d5) m y.code w1 (HT.out.keep fun b h => (hb.block b (by have := HTF.out b h; have := HBw.out.size; omega)).trans (HBw.out.block b (HTF.out b h))) (fun b h => by have := HTF.out b h; have := HBw.out.size; have := hb.size; omega) (HfB.out.code.keep (below_keeps hb HFB.out)) (fun b h => Nat.lt_of_lt_of_le (HFB.out b h) hb.size))
              rw [Hg.out] at HC3
              go_wp2_with fail
              with_reducible refine HC2.out.mono ?_
              rintro e w2 ⟨rfl, rfl⟩
              go_wp2_with fail
              with_reducible refine HC3.out.mono ?_
              rintro e w2 ⟨rfl, hb2⟩
              go_wp2
              go_roundw
              case rel => exact ⟨k + 1, by omega, by go_num, HN, (HBw.out.trans (hb.mono HBw.out.size)).trans (hb2.mono (Nat.le_trans HBw.out.size hb.size))⟩
              case measure => simp [intOf]; omega
      · have HR := Lib.hid (show true = funsI ks m x from (HX.out _ (all_end (show k = x.funcs.length by omega) HI.out).symm).symm)
        go_wp2
        go_ret
        exact ⟨ret_bool HR.out, HE.out.trans (HBr.out.mono HE.out.size)⟩
  · have t1 : decide ((4 : Int) < (x.funcs.length : Int)) = true := by rw [decide_eq_true_eq]; omega
    have HR := Lib.hid (show false = funsI ks m x by unfold funsI; rw [decide_eq_false hf]; rfl)
    go_enter Tryd.func35, Tryd.ntmps35
    go_wp2
    rw [← HwA.out]
    go_ret
    exact ⟨ret_bool HR.out, HE.out⟩
end Go.Proofs.YthkdkefkgmmoiaaDoor

namespace Go.Proofs.YthkdkefkgmmoiaaDoor
open Go.RowKit

def modI (ks : Ks) (n m : Nat) (x : ModR) : Bool := kindsOk (ks.take (m + 1)) && riseF n ((m : Int) + 1) x.friends && funsI (ks.take (m + 1)) m x
def modsI (ks : Ks) (n : Nat) : Nat → List ModR → Bool
  | _, [] => true
  | m, x :: r => modI ks n m x && modsI ks n (m + 1) r
theorem modsI_stop {ks : Ks} {n k : Nat} {xs : List ModR} {R : Bool} (hk : k < xs.length) (h : modsI ks n k (xs.drop k) = R) (hn : modI ks n k xs[k] = false) : false = R := by
  rw [← h, List.drop_eq_getElem_cons hk]; simp only [modsI]; rw [hn]; rfl
theorem modsI_step {ks : Ks} {n k : Nat} {xs : List ModR} {R : Bool} (hk : k < xs.length) (h : modsI ks n k (xs.drop k) = R) (hn : modI ks n k xs[k] = true) : modsI ks n (k + 1) (xs.drop (k + 1)) = R := by
  rw [← h, List.drop_eq_getElem_cons hk]; simp only [modsI]; rw [hn]; rfl
theorem modsI_end {ks : Ks} {n k : Nat} {xs : List ModR} {R : Bool} (hk : k = xs.length) (h : modsI ks n k (xs.drop k) = R) : true = R := by
  rw [← h, hk, List.drop_length]; rfl

theorem headI_eq (ks : Ks) (f : FunR) : headI ks f = (headN f && (typesB ks f.args && typesB ks f.rets && typesB ks f.locals)) := by
  unfold headI plainsB typesB
  rw [List.all_append, List.all_append, Bool.and_assoc (f.args.all _)]
theorem funI_eq (ks : Ks) (m n : Nat) (f : FunR) : funI (ks.take (m + 1)) m n f = funB ks m n f := by
  unfold funI funB
  rw [headI_eq, riseP_none]
theorem modI_eq {ks : Ks} {n m : Nat} {x : ModR} (h : kindsOk (ks.take (m + 1)) = true) : modI ks n m x = modB ks n m x := by
  unfold modI modB funsI
  rw [h, Bool.true_and, riseP_none]
  have e : (funI (ks.take (m + 1)) m (x.records.length : Nat)) = funB ks m (x.records.length : Nat) := by funext f; exact funI_eq ks m _ f
  rw [e, ← Bool.and_assoc, Bool.and_comm (riseF _ _ _)]
theorem modsI_eq {ks : Ks} {n : Nat} (h : kindsOk ks = true) : ∀ (xs : List ModR) (m : Nat), modsI ks n m xs = modsB ks n m xs
  | [], _ => rfl
  | x :: r, m => by simp only [modsI, modsB]; rw [modI_eq (kindsOk_take _ h), modsI_eq h r (m + 1)]
theorem modsI_last {ks : Ks} {n : Nat} : ∀ (xs : List ModR) (m : Nat), modsI ks n m xs = true → 0 < xs.length → kindsOk (ks.take (m + xs.length)) = true
  | [], _, _, h0 => by simp at h0
  | [x], m, h, _ => by
    simp only [modsI, Bool.and_true] at h
    unfold modI at h
    simp only [Bool.and_eq_true] at h
    simpa using h.1.1
  | x :: y :: r, m, h, _ => by
    have h1 : modsI ks n (m + 1) (y :: r) = true := by
      simp only [modsI, Bool.and_eq_true] at h ⊢
      exact h.2
    have := modsI_last (y :: r) (m + 1) h1 (by simp)
    rw [show m + (x :: y :: r).length = m + 1 + (y :: r).length by simp only [List.length_cons]; omega]
    exact this
def shapeI (xs : List ModR) : Bool := decide (xs.length ≤ 3) && modsI (kindsOf xs) xs.length 0 xs
theorem shape_eq (xs : List ModR) : shapeI xs = shapeB xs := by
  unfold shapeI shapeB
  cases h : kindsOk (kindsOf xs) with
  | true =>
    have hl := ok_len h
    rw [kindsOf_length] at hl
    rw [decide_eq_true hl, modsI_eq h]
  | false =>
    rw [Bool.false_and]
    by_cases h0 : 0 < xs.length
    · cases hm : modsI (kindsOf xs) xs.length 0 xs with
      | false => rw [Bool.and_false]
      | true =>
        have := modsI_last xs 0 hm h0
        rw [Nat.zero_add, ← kindsOf_length xs, List.take_length, h] at this
        cases this
    · have : xs = [] := List.eq_nil_of_length_eq_zero (by omega)
      subst this
      exact absurd h (by decide)

set_option maxRecDepth 100000 in
set_option maxHeartbeats 8000000 in
theorem implShelfShape_any (T : Nat → Prop) (tv : Value) (F : Nat → Prop) (v : Value) (xs : List ModR) (w : World) (hT : ITab T w tv) (hTF : ∀ b, T b → b < w.heap.size) (h : Cod.modr.Sl F w v xs) (hF : ∀ b, F b → b < w.heap.size) (hn : xs.length ≤ 2000000) (hsm : ∀ x ∈ xs, SmolModr x) :
    Calls Tryd.prog 18 #[v] w fun e w' => e = .returned (.bool (shapeI xs)) ∧ Below w.heap.size w w' := by
  have HS := Lib.hid h
  have HF := Lib.hid hF
  have HM := Lib.hid hsm
  have HT := Lib.hid hT
  have HTF := Lib.hid hTF
  have HC := Lib.hid (implShelfKinds_any F v xs w h hF hn hsm)
  obtain ⟨A, cap, rfl, hlc, hcm, _⟩ := h
  unfold maxLen at hcm
  by_cases h3 : xs.length ≤ 3
  · have t0 : decide ((3 : Int) < (xs.length : Int)) = false := by rw [decide_eq_false_iff_not]; omega
    obtain ⟨ks, hks⟩ : ∃ ks, ks = kindsOf xs := ⟨_, rfl⟩
    unfold KindsD at HC
    rw [← hks] at HC
    have HKl := Lib.hid (show ks.length = xs.length by rw [hks]; exact kindsOf_length xs)
    have HSh2 := Lib.hid (show modsI ks xs.length 0 (xs.drop 0) = shapeI xs by unfold shapeI; rw [hks, decide_eq_true h3]; rfl)
    clear hks hsm hF hT hTF h3
    go_enter Tryd.func18, Tryd.ntmps18
    go_wp2_with fail
    refine HC.out.mono ?_
    rintro e w1 ⟨A', c', rfl, hO, hb⟩
    have HB1 := Lib.hid hb
    have hsl := hO.sl
    rw [← HKl.out] at hsl
    have HO1 := Lib.hid hsl
    have HcB := Lib.hid (show ks.length ≤ c' ∧ c' ≤ 9223372036854775807 by obtain ⟨_, _, h1, h2, h3, _⟩ := hsl; simp only [Value.slice.injEq] at h1; unfold maxLen at h3; omega)
    clear hb hO hsl
    go_wp2
    go_loopw [15] (fun i wr => ∃ (k : Nat), k ≤ xs.length ∧ i = .int .i64 k ∧ Hid (modsI ks xs.length k (xs.drop k) = shapeI xs) ∧ Hid (Below w1.heap.size w1 wr)) (fun i _ => xs.length - (intOf i).toNat)
    case atStart => exact ⟨0, Nat.zero_le _, rfl, HSh2, Below.refl _ _⟩
    case round =>
      obtain ⟨k, hk, rfl, HI, HBr⟩ := hrel
      by_cases hlt : k < xs.length
      · have HBw := Lib.hid (HB1.out.trans (HBr.out.mono HB1.out.size))
        have HSr := Lib.hid (HS.out.keep (below_keeps HBw.out HF.out))
        obtain ⟨b, off, cap', D0, e0, D1, e1, D2, e2, hv, hFb, _, _, k0, k1, k2, hd⟩ := HSr.out.modr_at hlt
        obtain ⟨rfl, rfl⟩ : A = some ⟨b, off, none⟩ ∧ cap = cap' := by simpa using hv
        have hkk : k < ks.length := by rw [HKl.out]; exact hlt
        obtain ⟨kb, ko, kc, ku, hkv, hkF, _, _, hk0, hku⟩ := HO1.out.sl_at hkk
        obtain ⟨rfl, rfl⟩ : A' = some ⟨kb, ko, none⟩ ∧ c' = kc := by simpa using hkv
        have i0 : (0 : Int) ≤ k := by omega
        have i1 : (k : Int) < xs.length := by omega
        have i2 : (0 : Int) ≤ (k : Int) + 1 := by omega
        have i3 : (k : Int) + 1 ≤ 9223372036854775807 := by omega
        have i4 : (k : Int) + 1 ≤ c' := by have := HcB.out; omega
        have i5 : ((k : Int) + 1).toNat = k + 1 := by omega
        have hstop := fun h => modsI_stop (ks := ks) (n := xs.length) hlt HI.out h
        have hstep := fun h => modsI_step (ks := ks) (n := xs.length) hlt HI.out h
        have HMx := Lib.hid (HM.out _ (List.getElem_mem hlt))
        generalize xs[k] = x at *
        obtain ⟨wA, hwA⟩ : ∃ wA, wA = wr.alloc (.cells #[.slice D0 x.records.length e0, .slice D1 x.funcs.length e1, .slice D2 x.friends.length e2] 43) := ⟨_, rfl⟩
        have hbA : Below wr.heap.size wr wA := by rw [hwA]; exact (Below.refl _ _).alloc (Nat.le_refl _) _
        have hBA : Blk wA wr.heap.size 43 #[.slice D0 x.records.length e0, .slice D1 x.funcs.length e1, .slice D2 x.friends.length e2] := by rw [hwA]; exact Blk.new _ _ _
        have hb1A : Below w1.heap.size w1 wA := HBr.out.trans (hbA.mono HBr.out.size)
        have HbA := Lib.hid (show Below w.heap.size w wA from HB1.out.trans (hb1A.mono HB1.out.size))
        have HCt := Lib.hid (tableOf_any _ _ (ks.take (k + 1)) wA ((HO1.out.take_ (k := k + 1) (by omega)).keep fun b hb => hb1A.block b hb.2) (fun b hb => Nat.lt_of_lt_of_le hb.2 hb1A.size))
        have HBA := Lib.hid hBA
        have Hb1A := Lib.hid hb1A
        have HdA := Lib.hid (show ModRd F wA _ _ _ x from hd.keep fun b hb => hbA.block b (Nat.lt_of_lt_of_le (HF.out b hb) HBw.out.size))
        have hsA : wr.heap.size < wA.heap.size := hBA.lt
        have Hstop := Lib.hid hstop
        have Hstep := Lib.hid hstep
        have HwA := Lib.hid hwA
        clear hv hkv hku hd hstop hstep hwA hbA hBA hb1A
        go_wp2_with fail
        rw [← HwA.out]
        with_reducible refine HCt.out.mono ?_
        rintro e w2 ⟨hb2, ⟨hk_, rfl⟩ | ⟨hk_, tb, l, rfl, hm, ht, htl⟩⟩
        · have HR := Lib.hid (Hstop.out (by unfold modI; rw [hk_]; rfl))
          have HB2 := Lib.hid hb2
          clear hk_ hb2 HCt
          go_wp2
          go_ret
          exact ⟨ret_bool HR.out, HbA.out.trans (HB2.out.mono HbA.out.size)⟩
        · have hmV := hm.recV
          have htb : tb < w2.heap.size := by
            obtain ⟨es, c, hb, _⟩ := hm
            exact (Array.getElem?_eq_some_iff.1 hb).1
          obtain ⟨y0, y1, y2⟩ := (HBA.out.below hb2 hsA).g3
          have hFA : ∀ b, F b → b < wA.heap.size := fun b hb => Nat.lt_of_lt_of_le (HF.out b hb) HbA.out.size
          have hd2 := HdA.out.keep (below_keeps hb2 hFA)
          have HB2w := Lib.hid (HbA.out.trans (hb2.mono HbA.out.size))
          have HB21 := Lib.hid (Hb1A.out.trans (hb2.mono Hb1A.out.size))
          have HCa := Lib.hid (ascendingWithin_any F (.slice D2 x.friends.length e2) x.friends ((k : Int) + 1) xs.length w2 hd2.friends (by omega) (by omega))
          have HCf := Lib.hid (funcsOk_any T tv F l tb _ _ _ (ks.take (k + 1)) k x w2 (HT.out.keep (below_keeps HB2w.out HTF.out)) (fun b hb => Nat.lt_of_lt_of_le (HTF.out b hb) HB2w.out.size) hmV htb ht hk_ hd2 (fun b hb => Nat.lt_of_lt_of_le (HF.out b hb) HB2w.out.size) HMx.out)
          have Hk_ := Lib.hid hk_
          clear hm hmV ht htl hk_ hd2 hb2 HCt hFA
          cases hr : riseF xs.length ((k : Int) + 1) x.friends with
          | false =>
            have HR := Lib.hid (Hstop.out (by unfold modI; rw [Hk_.out, hr]; rfl))
            rw [hr] at HCa
            clear hr
            go_wp2_with fail
            with_reducible refine HCa.out.mono ?_
            rintro e w3 ⟨rfl, rfl⟩
            go_wp2
            go_ret
            exact ⟨ret_bool HR.out, HB2w.out⟩
          | true =>
            rw [hr] at HCa
            cases hg : funsI (ks.take (k + 1)) k x with
            | false =>
              have HR := Lib.hid (Hstop.out (by unfold modI; rw [Hk_.out, hr, hg]; rfl))
              rw [hg] at HCf
              clear hr hg
              go_wp2_with fail
              with_reducible refine HCa.out.mono ?_
              rintro e w3 ⟨rfl, rfl⟩
              go_wp2_with fail
              with_reducible refine HCf.out.mono ?_
              rintro e w3 ⟨rfl, hb⟩
              go_wp2
              go_ret
              exact ⟨ret_bool HR.out, HB2w.out.trans (hb.mono HB2w.out.size)⟩
            | true =>
              have HN := Lib.hid (Hstep.out (by unfold modI; rw [Hk_.out, hr, hg]; rfl))
              rw [hg] at HCf
              clear hr hg
              go_wp2_with fail
              with_reducible refine HCa.out.mono ?_
              rintro e w3 ⟨rfl, rfl⟩
              go_wp2_with fail
              with_reducible refine HCf.out.mono ?_
              rintro e w3 ⟨rfl, hb⟩
              go_wp2
              go_roundw
              case rel => exact ⟨k + 1, by omega, by go_num, HN, HB21.out.trans (hb.mono HB21.out.size)⟩
              case measure => simp [intOf]; omega
      · have HR := Lib.hid (modsI_end (show k = xs.length by omega) HI.out)
        go_wp2
        go_ret
        exact ⟨ret_bool HR.out, HB1.out.trans (HBr.out.mono HB1.out.size)⟩
  · have t0 : decide ((3 : Int) < (xs.length : Int)) = true := by rw [decide_eq_true_eq]; omega
    have HR := Lib.hid (show false = shapeI xs by unfold shapeI; rw [decide_eq_false h3]; rfl)
    clear hsm hF hT hTF h3
    go_enter Tryd.func18, Tryd.ntmps18
    go_wp2
    go_ret
    exact ⟨ret_bool HR.out, Below.refl _ _⟩
end Go.Proofs.YthkdkefkgmmoiaaDoor
