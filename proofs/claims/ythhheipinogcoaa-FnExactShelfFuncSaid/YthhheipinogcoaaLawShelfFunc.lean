/- Whatever the arguments, the exact law of ShelfFunc answers true: the program's ShelfFunc is the model's, leaves its arguments alone, and hands back memory of its own. -/
import Derived.Test.YthhheipinogcoaaGc
import Derived.Test.YthhheipinogcoaaGn
import Derived.Test.YthhheipinogcoaaGh
import Derived.Test.YthhheipinogcoaaGt
import Derived.Test.YthhheipinogcoaaGe
import Derived.Test.YthhheipinogcoaaGo
import Derived.Test.YthhheipinogcoaaLawFuncSeen
namespace Go.Proofs.Ythhheipinogcoaa
open Go.ChangeShapes Go.WideShapes Go.ChangeAt Go.RowKit Go.Deep
open Go.ChangeMaps (open_string shut_string)

theorem smol_getD {xs : List ModR} {m f : Int} (h : ∀ x ∈ xs, SmolModr x) : SmolFunr ((fAt xs m f).getD zeroF) := by
  cases hat : fAt xs m f with
  | none => exact ⟨by decide, by decide, by decide, by decide, by decide, fun y hy => by cases hy⟩
  | some y => exact fAt_smol hat h
def SF2 (y : FunR) (bo : Bool) (w : World) (e : Ending) (w' : World) : Prop :=
  ∃ A1 A2 A3 A4 A5 c1 c2 c3 c4 c5, e = .returned (.tuple #[.agg #[.int .i64 y.seen, .slice A1 y.args.length c1, .slice A2 y.rets.length c2, .slice A3 y.locals.length c3, .slice A4 y.takes.length c4, .slice A5 y.code.length c5], .bool bo]) ∧ FunRd (fun b => w.heap.size ≤ b ∧ b < w'.heap.size) w' (.slice A1 y.args.length c1) (.slice A2 y.rets.length c2) (.slice A3 y.locals.length c3) (.slice A4 y.takes.length c4) (.slice A5 y.code.length c5) y ∧ Below w.heap.size w w'
def SO2 (y : FunR) (bo : Bool) (w : World) (e : Ending) (w' : World) : Prop :=
  ∃ A1 A2 A3 A4 A5 c1 c2 c3 c4 c5, e = .returned (.tuple #[.agg #[.int .i64 y.seen, .slice A1 y.args.length c1, .slice A2 y.rets.length c2, .slice A3 y.locals.length c3, .slice A4 y.takes.length c4, .slice A5 y.code.length c5], .bool bo]) ∧ FunRo w.heap.size w'.heap.size w' (.slice A1 y.args.length c1) (.slice A2 y.rets.length c2) (.slice A3 y.locals.length c3) (.slice A4 y.takes.length c4) (.slice A5 y.code.length c5) y ∧ Below w.heap.size w w'

set_option maxRecDepth 100000 in
set_option maxHeartbeats 16000000 in
theorem lawShelfFunc (F : Nat → Prop) (v : Value) (xs : List ModR) (m f : Int) (w : World) (h : Cod.modr.Sl F w v xs) (hF : ∀ b, F b → b < w.heap.size) (hm64 : I64 m) (hf64 : I64 f) :
    Calls Try.prog 4 #[v, .int .i64 m, .int .i64 f] w fun e w' => e = .returned (.bool true) ∧ Below w.heap.size w w' := by
  obtain ⟨A, cap, rfl, _⟩ := id h
  obtain ⟨w0, hw0⟩ : ∃ w0, w0 = w := ⟨_, rfl⟩
  subst hw0
  have HV0 := Lib.hid h
  have HF0 := Lib.hid hF
  have HE0 := Lib.hid (Below.refl w0.heap.size w0)
  clear hF h
  by_cases hz : szS szModr xs 1048576 < 0
  · have HC := Lib.hid (sz_modr F _ xs 1048576 w0 HV0.out HF0.out (by omega) (by omega))
    go_enter Try.func4, Try.ntmps4
    go_wp2_with fail
    refine HC.out.mono ?_
    rintro e w1 ⟨rfl, hb⟩
    have HE1 := Lib.hid hb
    clear hb HC
    go_wp2_with fail
    go_ret
    exact ⟨rfl, HE1.out⟩
  · have HS := Lib.hid (smol_shelf hz)
    have HMS := Lib.hid (marks_shelf hz)
    obtain ⟨y, hy⟩ : ∃ y, y = (fAt xs m f).getD zeroF := ⟨_, rfl⟩
    obtain ⟨bo, hbo⟩ : ∃ bo, bo = (fAt xs m f).isSome := ⟨_, rfl⟩
    have HSP := Lib.hid fun (F : Nat → Prop) (v : Value) (w : World) (h : Cod.modr.Sl F w v xs) (hF : ∀ b, F b → b < w.heap.size) => (show Calls Try.prog 17 #[v, .int .i64 m, .int .i64 f] w (SF2 y bo w) by rw [hy, hbo]; exact specShelfFunc_any F v xs m f w h hF HS.out.2)
    have HIM := Lib.hid fun (F : Nat → Prop) (v : Value) (w : World) (h : Cod.modr.Sl F w v xs) (hF : ∀ b, F b → b < w.heap.size) => (show Calls Try.prog 18 #[v, .int .i64 m, .int .i64 f] w (SO2 y bo w) by rw [hy, hbo]; exact implShelfFunc_any F v xs m f w h hF HS.out.2 hm64 hf64)
    have HMF := Lib.hid (show (mkFunrT y 1).2 ≤ 100000000 from marks_func (by rw [hy]; exact smol_getD HS.out.2))
    clear hy hbo
    go_enter Try.func4, Try.ntmps4
    have HC := Lib.hid (sz_modr F _ xs 1048576 w0 HV0.out HF0.out (by omega) (by omega))
    go_wp2_with fail
    refine HC.out.mono ?_
    rintro e w1 ⟨rfl, hb⟩
    clear HC
    have hz0 := hb.size
    have HV1 : Hid (Cod.modr.Sl F w1 (.slice A xs.length cap) xs) := Lib.hid (HV0.out.keep fun b hb' => by have h1 := HF0.out b hb'; exact hb.block b (by omega))
    have HE1 := Lib.hid (HE0.out.trans (hb.mono (by omega)))
    clear hb
    have HC := Lib.hid (to_modr F _ xs w1 HV1.out (fun b hb => by have := HF0.out b hb; omega) HS.out.1 HS.out.2)
    go_wp2_with fail
    refine HC.out.mono ?_
    rintro e w2 ⟨Bs, bs, rfl, hO, hb⟩
    clear HC
    have hz1 := hb.size
    have HV2 : Hid (Cod.modr.Sl F w2 (.slice A xs.length cap) xs) := Lib.hid (HV1.out.keep fun b hb' => by have h1 := HF0.out b hb'; exact hb.block b (by omega))
    have HE2 := Lib.hid (HE1.out.trans (hb.mono (by omega)))
    have HOs := Lib.hid hO.sl
    clear hb hO
    have HC := Lib.hid (HSP.out _ _ w2 HOs.out (fun b hb => hb.2))
    go_wp2_with fail
    refine HC.out.mono ?_
    rintro e w3 ⟨A1s, A2s, A3s, A4s, A5s, c1s, c2s, c3s, c4s, c5s, rfl, hI, hb⟩
    clear HC
    have hz2 := hb.size
    have HV3 : Hid (Cod.modr.Sl F w3 (.slice A xs.length cap) xs) := Lib.hid (HV2.out.keep fun b hb' => by have h1 := HF0.out b hb'; exact hb.block b (by omega))
    have HE3 := Lib.hid (HE2.out.trans (hb.mono (by omega)))
    have HS3 : Hid (FunRd (fun b => w2.heap.size ≤ b ∧ b < w3.heap.size) w3 (.slice A1s y.args.length c1s) (.slice A2s y.rets.length c2s) (.slice A3s y.locals.length c3s) (.slice A4s y.takes.length c4s) (.slice A5s y.code.length c5s) y) := Lib.hid hI
    clear hb hI HOs
    obtain ⟨w4, hw4⟩ : ∃ u, u = w3.alloc (.cells #[.int .i64 y.seen, .slice A1s y.args.length c1s, .slice A2s y.rets.length c2s, .slice A3s y.locals.length c3s, .slice A4s y.takes.length c4s, .slice A5s y.code.length c5s] 37) := ⟨_, rfl⟩
    have HXS4 := Lib.hid (show Blk w4 w3.heap.size 37 #[.int .i64 y.seen, .slice A1s y.args.length c1s, .slice A2s y.rets.length c2s, .slice A3s y.locals.length c3s, .slice A4s y.takes.length c4s, .slice A5s y.code.length c5s] by rw [hw4]; exact Blk.new _ _ _)
    have hb : Below w3.heap.size w3 w4 := by rw [hw4]; exact (Below.refl _ _).alloc (Nat.le_refl _) _
    have hy4 : w3.heap.size + 1 = w4.heap.size := by rw [hw4]; simp
    have Hw4 := Lib.hid hw4
    clear hw4
    have hz3 := hb.size
    have HV4 : Hid (Cod.modr.Sl F w4 (.slice A xs.length cap) xs) := Lib.hid (HV3.out.keep fun b hb' => by have h1 := HF0.out b hb'; exact hb.block b (by omega))
    have HS4 : Hid (FunRd (fun b => w2.heap.size ≤ b ∧ b < w3.heap.size) w4 (.slice A1s y.args.length c1s) (.slice A2s y.rets.length c2s) (.slice A3s y.locals.length c3s) (.slice A4s y.takes.length c4s) (.slice A5s y.code.length c5s) y) := Lib.hid (HS3.out.keep fun b hb' => by have h1 := hb'.1; have h2 := hb'.2; exact hb.block b (by omega))
    have HE4 := Lib.hid (HE3.out.trans (hb.mono (by omega)))
    clear hb
    have HC := Lib.hid (to_modr F _ xs w4 HV4.out (fun b hb => by have := HF0.out b hb; omega) HS.out.1 HS.out.2)
    go_wp2_with fail
    rw [← Hw4.out]
    refine HC.out.mono ?_
    rintro e w5 ⟨Bm, bm, rfl, hO, hb⟩
    clear HC
    have hz4 := hb.size
    have HV5 : Hid (Cod.modr.Sl F w5 (.slice A xs.length cap) xs) := Lib.hid (HV4.out.keep fun b hb' => by have h1 := HF0.out b hb'; exact hb.block b (by omega))
    have HS5 : Hid (FunRd (fun b => w2.heap.size ≤ b ∧ b < w3.heap.size) w5 (.slice A1s y.args.length c1s) (.slice A2s y.rets.length c2s) (.slice A3s y.locals.length c3s) (.slice A4s y.takes.length c4s) (.slice A5s y.code.length c5s) y) := Lib.hid (HS4.out.keep fun b hb' => by have h1 := hb'.1; have h2 := hb'.2; exact hb.block b (by omega))
    have HXS5 : Hid (Blk w5 w3.heap.size 37 #[.int .i64 y.seen, .slice A1s y.args.length c1s, .slice A2s y.rets.length c2s, .slice A3s y.locals.length c3s, .slice A4s y.takes.length c4s, .slice A5s y.code.length c5s]) := Lib.hid ((hb.block (w3.heap.size) (by omega)).trans HXS4.out)
    have HE5 := Lib.hid (HE4.out.trans (hb.mono (by omega)))
    have HOm5 : Hid (Own OCod.modr 62 w4.heap.size w5.heap.size w5 (.slice Bm xs.length bm) xs) := Lib.hid hO
    clear hb hO
    have HC := Lib.hid (HIM.out _ _ w5 HOm5.out.sl (fun b hb => hb.2))
    go_wp2_with fail
    refine HC.out.mono ?_
    rintro e w6 ⟨A1g, A2g, A3g, A4g, A5g, c1g, c2g, c3g, c4g, c5g, rfl, hO, hb⟩
    clear HC
    have hz5 := hb.size
    have HV6 : Hid (Cod.modr.Sl F w6 (.slice A xs.length cap) xs) := Lib.hid (HV5.out.keep fun b hb' => by have h1 := HF0.out b hb'; exact hb.block b (by omega))
    have HS6 : Hid (FunRd (fun b => w2.heap.size ≤ b ∧ b < w3.heap.size) w6 (.slice A1s y.args.length c1s) (.slice A2s y.rets.length c2s) (.slice A3s y.locals.length c3s) (.slice A4s y.takes.length c4s) (.slice A5s y.code.length c5s) y) := Lib.hid (HS5.out.keep fun b hb' => by have h1 := hb'.1; have h2 := hb'.2; exact hb.block b (by omega))
    have HXS6 : Hid (Blk w6 w3.heap.size 37 #[.int .i64 y.seen, .slice A1s y.args.length c1s, .slice A2s y.rets.length c2s, .slice A3s y.locals.length c3s, .slice A4s y.takes.length c4s, .slice A5s y.code.length c5s]) := Lib.hid ((hb.block (w3.heap.size) (by omega)).trans HXS5.out)
    have HOm6 : Hid (Own OCod.modr 62 w4.heap.size w5.heap.size w6 (.slice Bm xs.length bm) xs) := Lib.hid (HOm5.out.keep fun b g1 g2 => hb.block b (by omega))
    have HE6 := Lib.hid (HE5.out.trans (hb.mono (by omega)))
    have HOg6 : Hid (FunRo w5.heap.size w6.heap.size w6 (.slice A1g y.args.length c1g) (.slice A2g y.rets.length c2g) (.slice A3g y.locals.length c3g) (.slice A4g y.takes.length c4g) (.slice A5g y.code.length c5g) y) := Lib.hid hO
    clear hb hO
    obtain ⟨w7, hw7⟩ : ∃ u, u = w6.alloc (.cells #[.int .i64 y.seen, .slice A1g y.args.length c1g, .slice A2g y.rets.length c2g, .slice A3g y.locals.length c3g, .slice A4g y.takes.length c4g, .slice A5g y.code.length c5g] 37) := ⟨_, rfl⟩
    have HXG7 := Lib.hid (show Blk w7 w6.heap.size 37 #[.int .i64 y.seen, .slice A1g y.args.length c1g, .slice A2g y.rets.length c2g, .slice A3g y.locals.length c3g, .slice A4g y.takes.length c4g, .slice A5g y.code.length c5g] by rw [hw7]; exact Blk.new _ _ _)
    have hb : Below w6.heap.size w6 w7 := by rw [hw7]; exact (Below.refl _ _).alloc (Nat.le_refl _) _
    have hy7 : w6.heap.size + 1 = w7.heap.size := by rw [hw7]; simp
    have Hw7 := Lib.hid hw7
    clear hw7
    have hz6 := hb.size
    have HV7 : Hid (Cod.modr.Sl F w7 (.slice A xs.length cap) xs) := Lib.hid (HV6.out.keep fun b hb' => by have h1 := HF0.out b hb'; exact hb.block b (by omega))
    have HS7 : Hid (FunRd (fun b => w2.heap.size ≤ b ∧ b < w3.heap.size) w7 (.slice A1s y.args.length c1s) (.slice A2s y.rets.length c2s) (.slice A3s y.locals.length c3s) (.slice A4s y.takes.length c4s) (.slice A5s y.code.length c5s) y) := Lib.hid (HS6.out.keep fun b hb' => by have h1 := hb'.1; have h2 := hb'.2; exact hb.block b (by omega))
    have HXS7 : Hid (Blk w7 w3.heap.size 37 #[.int .i64 y.seen, .slice A1s y.args.length c1s, .slice A2s y.rets.length c2s, .slice A3s y.locals.length c3s, .slice A4s y.takes.length c4s, .slice A5s y.code.length c5s]) := Lib.hid ((hb.block (w3.heap.size) (by omega)).trans HXS6.out)
    have HOm7 : Hid (Own OCod.modr 62 w4.heap.size w5.heap.size w7 (.slice Bm xs.length bm) xs) := Lib.hid (HOm6.out.keep fun b g1 g2 => hb.block b (by omega))
    have HOg7 : Hid (FunRo w5.heap.size w6.heap.size w7 (.slice A1g y.args.length c1g) (.slice A2g y.rets.length c2g) (.slice A3g y.locals.length c3g) (.slice A4g y.takes.length c4g) (.slice A5g y.code.length c5g) y) := Lib.hid (HOg6.out.keep fun b g1 g2 => hb.block b (by omega))
    have HE7 := Lib.hid (HE6.out.trans (hb.mono (by omega)))
    clear hb
    have HC := Lib.hid (eqFunr_one (fun b => b < w7.heap.size) A1g A1s A2g A2s A3g A3s A4g A4s A5g A5s _ c1g _ c1s _ c2g _ c2s _ c3g _ c3s _ c4g _ c4s _ c5g _ c5s y w7 (HOg7.out.rd.mono fun b hb => by have := hb.2; omega) (HS7.out.mono fun b hb => by have := hb.2; omega) fun b hb => hb)
    obtain ⟨q0, q1, q2, q3, q4, q5⟩ := HXS6.out.g6
    have hbd1 : w3.heap.size < w6.heap.size := by omega
    go_wp2_with fail
    rw [← Hw7.out]
    refine HC.out.mono ?_
    rintro e w8 ⟨rfl, hb⟩
    clear HC q0 q1 q2 q3 q4 q5 hbd1
    have hz7 := hb.size
    have HV8 : Hid (Cod.modr.Sl F w8 (.slice A xs.length cap) xs) := Lib.hid (HV7.out.keep fun b hb' => by have h1 := HF0.out b hb'; exact hb.block b (by omega))
    have HS8 : Hid (FunRd (fun b => w2.heap.size ≤ b ∧ b < w3.heap.size) w8 (.slice A1s y.args.length c1s) (.slice A2s y.rets.length c2s) (.slice A3s y.locals.length c3s) (.slice A4s y.takes.length c4s) (.slice A5s y.code.length c5s) y) := Lib.hid (HS7.out.keep fun b hb' => by have h1 := hb'.1; have h2 := hb'.2; exact hb.block b (by omega))
    have HXS8 : Hid (Blk w8 w3.heap.size 37 #[.int .i64 y.seen, .slice A1s y.args.length c1s, .slice A2s y.rets.length c2s, .slice A3s y.locals.length c3s, .slice A4s y.takes.length c4s, .slice A5s y.code.length c5s]) := Lib.hid ((hb.block (w3.heap.size) (by omega)).trans HXS7.out)
    have HOm8 : Hid (Own OCod.modr 62 w4.heap.size w5.heap.size w8 (.slice Bm xs.length bm) xs) := Lib.hid (HOm7.out.keep fun b g1 g2 => hb.block b (by omega))
    have HOg8 : Hid (FunRo w5.heap.size w6.heap.size w8 (.slice A1g y.args.length c1g) (.slice A2g y.rets.length c2g) (.slice A3g y.locals.length c3g) (.slice A4g y.takes.length c4g) (.slice A5g y.code.length c5g) y) := Lib.hid (HOg7.out.keep fun b g1 g2 => hb.block b (by omega))
    have HXG8 : Hid (Blk w8 w6.heap.size 37 #[.int .i64 y.seen, .slice A1g y.args.length c1g, .slice A2g y.rets.length c2g, .slice A3g y.locals.length c3g, .slice A4g y.takes.length c4g, .slice A5g y.code.length c5g]) := Lib.hid ((hb.block (w6.heap.size) (by omega)).trans HXG7.out)
    have HE8 := Lib.hid (HE7.out.trans (hb.mono (by omega)))
    clear hb
    have HC := Lib.hid (to_modr F _ xs w8 HV8.out (fun b hb => by have := HF0.out b hb; omega) HS.out.1 HS.out.2)
    go_wp2_with fail
    refine HC.out.mono ?_
    rintro e w9 ⟨Be, be, rfl, hO, hb⟩
    clear HC
    have hz8 := hb.size
    have HV9 : Hid (Cod.modr.Sl F w9 (.slice A xs.length cap) xs) := Lib.hid (HV8.out.keep fun b hb' => by have h1 := HF0.out b hb'; exact hb.block b (by omega))
    have HS9 : Hid (FunRd (fun b => w2.heap.size ≤ b ∧ b < w3.heap.size) w9 (.slice A1s y.args.length c1s) (.slice A2s y.rets.length c2s) (.slice A3s y.locals.length c3s) (.slice A4s y.takes.length c4s) (.slice A5s y.code.length c5s) y) := Lib.hid (HS8.out.keep fun b hb' => by have h1 := hb'.1; have h2 := hb'.2; exact hb.block b (by omega))
    have HXS9 : Hid (Blk w9 w3.heap.size 37 #[.int .i64 y.seen, .slice A1s y.args.length c1s, .slice A2s y.rets.length c2s, .slice A3s y.locals.length c3s, .slice A4s y.takes.length c4s, .slice A5s y.code.length c5s]) := Lib.hid ((hb.block (w3.heap.size) (by omega)).trans HXS8.out)
    have HOm9 : Hid (Own OCod.modr 62 w4.heap.size w5.heap.size w9 (.slice Bm xs.length bm) xs) := Lib.hid (HOm8.out.keep fun b g1 g2 => hb.block b (by omega))
    have HOg9 : Hid (FunRo w5.heap.size w6.heap.size w9 (.slice A1g y.args.length c1g) (.slice A2g y.rets.length c2g) (.slice A3g y.locals.length c3g) (.slice A4g y.takes.length c4g) (.slice A5g y.code.length c5g) y) := Lib.hid (HOg8.out.keep fun b g1 g2 => hb.block b (by omega))
    have HXG9 : Hid (Blk w9 w6.heap.size 37 #[.int .i64 y.seen, .slice A1g y.args.length c1g, .slice A2g y.rets.length c2g, .slice A3g y.locals.length c3g, .slice A4g y.takes.length c4g, .slice A5g y.code.length c5g]) := Lib.hid ((hb.block (w6.heap.size) (by omega)).trans HXG8.out)
    have HE9 := Lib.hid (HE8.out.trans (hb.mono (by omega)))
    have HOe := Lib.hid (show Cod.modr.Sl (fun b => b < w9.heap.size) w9 (.slice Be xs.length be) xs from hO.sl.mono fun b hb => hb.2)
    clear hb hO
    have HC := Lib.hid (eq_modr (fun b => b < w9.heap.size) _ _ xs w9 (HOm9.out.sl.mono fun b hb => by have := hb.2; omega) HOe.out fun b hb => hb)
    go_wp2_with fail
    refine HC.out.mono ?_
    rintro e w10 ⟨rfl, hb⟩
    clear HC
    have hz9 := hb.size
    have HV10 : Hid (Cod.modr.Sl F w10 (.slice A xs.length cap) xs) := Lib.hid (HV9.out.keep fun b hb' => by have h1 := HF0.out b hb'; exact hb.block b (by omega))
    have HS10 : Hid (FunRd (fun b => w2.heap.size ≤ b ∧ b < w3.heap.size) w10 (.slice A1s y.args.length c1s) (.slice A2s y.rets.length c2s) (.slice A3s y.locals.length c3s) (.slice A4s y.takes.length c4s) (.slice A5s y.code.length c5s) y) := Lib.hid (HS9.out.keep fun b hb' => by have h1 := hb'.1; have h2 := hb'.2; exact hb.block b (by omega))
    have HXS10 : Hid (Blk w10 w3.heap.size 37 #[.int .i64 y.seen, .slice A1s y.args.length c1s, .slice A2s y.rets.length c2s, .slice A3s y.locals.length c3s, .slice A4s y.takes.length c4s, .slice A5s y.code.length c5s]) := Lib.hid ((hb.block (w3.heap.size) (by omega)).trans HXS9.out)
    have HOm10 : Hid (Own OCod.modr 62 w4.heap.size w5.heap.size w10 (.slice Bm xs.length bm) xs) := Lib.hid (HOm9.out.keep fun b g1 g2 => hb.block b (by omega))
    have HOg10 : Hid (FunRo w5.heap.size w6.heap.size w10 (.slice A1g y.args.length c1g) (.slice A2g y.rets.length c2g) (.slice A3g y.locals.length c3g) (.slice A4g y.takes.length c4g) (.slice A5g y.code.length c5g) y) := Lib.hid (HOg9.out.keep fun b g1 g2 => hb.block b (by omega))
    have HXG10 : Hid (Blk w10 w6.heap.size 37 #[.int .i64 y.seen, .slice A1g y.args.length c1g, .slice A2g y.rets.length c2g, .slice A3g y.locals.length c3g, .slice A4g y.takes.length c4g, .slice A5g y.code.length c5g]) := Lib.hid ((hb.block (w6.heap.size) (by omega)).trans HXG9.out)
    have HE10 := Lib.hid (HE9.out.trans (hb.mono (by omega)))
    clear hb HOe
    have HC := Lib.hid (mark_modr w4.heap.size w5.heap.size 1 _ xs w10 HOm10.out (by omega) (by omega) HMS.out)
    go_wp2_with fail
    refine HC.out.mono ?_
    rintro e w11 ⟨rfl, hO, hW⟩
    clear HC
    have hz10 := hW.size
    have HV11 : Hid (Cod.modr.Sl F w11 (.slice A xs.length cap) xs) := Lib.hid (HV10.out.keep fun b hb' => by have h1 := HF0.out b hb'; exact hW.block b (by omega) (by omega))
    have HS11 : Hid (FunRd (fun b => w2.heap.size ≤ b ∧ b < w3.heap.size) w11 (.slice A1s y.args.length c1s) (.slice A2s y.rets.length c2s) (.slice A3s y.locals.length c3s) (.slice A4s y.takes.length c4s) (.slice A5s y.code.length c5s) y) := Lib.hid (HS10.out.keep fun b hb' => by have h1 := hb'.1; have h2 := hb'.2; exact hW.block b (by omega) (by omega))
    have HXS11 : Hid (Blk w11 w3.heap.size 37 #[.int .i64 y.seen, .slice A1s y.args.length c1s, .slice A2s y.rets.length c2s, .slice A3s y.locals.length c3s, .slice A4s y.takes.length c4s, .slice A5s y.code.length c5s]) := Lib.hid ((hW.block (w3.heap.size) (by omega) (by omega)).trans HXS10.out)
    have HOg11 : Hid (FunRo w5.heap.size w6.heap.size w11 (.slice A1g y.args.length c1g) (.slice A2g y.rets.length c2g) (.slice A3g y.locals.length c3g) (.slice A4g y.takes.length c4g) (.slice A5g y.code.length c5g) y) := Lib.hid (HOg10.out.keep fun b g1 g2 => hW.block b (by omega) (by omega))
    have HXG11 : Hid (Blk w11 w6.heap.size 37 #[.int .i64 y.seen, .slice A1g y.args.length c1g, .slice A2g y.rets.length c2g, .slice A3g y.locals.length c3g, .slice A4g y.takes.length c4g, .slice A5g y.code.length c5g]) := Lib.hid ((hW.block (w6.heap.size) (by omega) (by omega)).trans HXG10.out)
    have HE11 := Lib.hid (HE10.out.trans (Wrote.to_below hW (by omega) (by omega)))
    clear hW hO
    have hpos : ¬ (((markL mkModr xs 1).2 : Nat) : Int) < 0 := by omega
    have HC := Lib.hid (eqFunr_one (fun b => b < w11.heap.size) A1g A1s A2g A2s A3g A3s A4g A4s A5g A5s _ c1g _ c1s _ c2g _ c2s _ c3g _ c3s _ c4g _ c4s _ c5g _ c5s y w11 (HOg11.out.rd.mono fun b hb => by have := hb.2; omega) (HS11.out.mono fun b hb => by have := hb.2; omega) fun b hb => hb)
    obtain ⟨p0, p1, p2, p3, p4, p5⟩ := HXG11.out.g6
    obtain ⟨q0, q1, q2, q3, q4, q5⟩ := HXS11.out.g6
    go_wp2_with fail
    refine HC.out.mono ?_
    rintro e w12 ⟨rfl, hb⟩
    clear HC p0 p1 p2 p3 p4 p5 q0 q1 q2 q3 q4 q5
    have hz11 := hb.size
    have HV12 : Hid (Cod.modr.Sl F w12 (.slice A xs.length cap) xs) := Lib.hid (HV11.out.keep fun b hb' => by have h1 := HF0.out b hb'; exact hb.block b (by omega))
    have HS12 : Hid (FunRd (fun b => w2.heap.size ≤ b ∧ b < w3.heap.size) w12 (.slice A1s y.args.length c1s) (.slice A2s y.rets.length c2s) (.slice A3s y.locals.length c3s) (.slice A4s y.takes.length c4s) (.slice A5s y.code.length c5s) y) := Lib.hid (HS11.out.keep fun b hb' => by have h1 := hb'.1; have h2 := hb'.2; exact hb.block b (by omega))
    have HXS12 : Hid (Blk w12 w3.heap.size 37 #[.int .i64 y.seen, .slice A1s y.args.length c1s, .slice A2s y.rets.length c2s, .slice A3s y.locals.length c3s, .slice A4s y.takes.length c4s, .slice A5s y.code.length c5s]) := Lib.hid ((hb.block (w3.heap.size) (by omega)).trans HXS11.out)
    have HOg12 : Hid (FunRo w5.heap.size w6.heap.size w12 (.slice A1g y.args.length c1g) (.slice A2g y.rets.length c2g) (.slice A3g y.locals.length c3g) (.slice A4g y.takes.length c4g) (.slice A5g y.code.length c5g) y) := Lib.hid (HOg11.out.keep fun b g1 g2 => hb.block b (by omega))
    have HXG12 : Hid (Blk w12 w6.heap.size 37 #[.int .i64 y.seen, .slice A1g y.args.length c1g, .slice A2g y.rets.length c2g, .slice A3g y.locals.length c3g, .slice A4g y.takes.length c4g, .slice A5g y.code.length c5g]) := Lib.hid ((hb.block (w6.heap.size) (by omega)).trans HXG11.out)
    have HE12 := Lib.hid (HE11.out.trans (hb.mono (by omega)))
    clear hb
    have HC := Lib.hid (markFunr_one w5.heap.size w6.heap.size 1 A1g A2g A3g A4g A5g _ c1g _ c2g _ c3g _ c4g _ c5g y w12 HOg12.out (by omega) (by omega) HMF.out)
    obtain ⟨p0, p1, p2, p3, p4, p5⟩ := HXG12.out.g6
    go_wp2_with fail
    refine HC.out.mono ?_
    rintro e w13 ⟨rfl, hO, hW⟩
    clear HC p0 p1 p2 p3 p4 p5
    have hz12 := hW.size
    have HV13 : Hid (Cod.modr.Sl F w13 (.slice A xs.length cap) xs) := Lib.hid (HV12.out.keep fun b hb' => by have h1 := HF0.out b hb'; exact hW.block b (by omega) (by omega))
    have HS13 : Hid (FunRd (fun b => w2.heap.size ≤ b ∧ b < w3.heap.size) w13 (.slice A1s y.args.length c1s) (.slice A2s y.rets.length c2s) (.slice A3s y.locals.length c3s) (.slice A4s y.takes.length c4s) (.slice A5s y.code.length c5s) y) := Lib.hid (HS12.out.keep fun b hb' => by have h1 := hb'.1; have h2 := hb'.2; exact hW.block b (by omega) (by omega))
    have HXS13 : Hid (Blk w13 w3.heap.size 37 #[.int .i64 y.seen, .slice A1s y.args.length c1s, .slice A2s y.rets.length c2s, .slice A3s y.locals.length c3s, .slice A4s y.takes.length c4s, .slice A5s y.code.length c5s]) := Lib.hid ((hW.block (w3.heap.size) (by omega) (by omega)).trans HXS12.out)
    have HXG13 : Hid (Blk w13 w6.heap.size 37 #[.int .i64 y.seen, .slice A1g y.args.length c1g, .slice A2g y.rets.length c2g, .slice A3g y.locals.length c3g, .slice A4g y.takes.length c4g, .slice A5g y.code.length c5g]) := Lib.hid ((hW.block (w6.heap.size) (by omega) (by omega)).trans HXG12.out)
    have HE13 := Lib.hid (HE12.out.trans (Wrote.to_below hW (by omega) (by omega)))
    have HOg13 : Hid (FunRo w5.heap.size w6.heap.size w13 (.slice A1g y.args.length c1g) (.slice A2g y.rets.length c2g) (.slice A3g y.locals.length c3g) (.slice A4g y.takes.length c4g) (.slice A5g y.code.length c5g) (mkFunrT y 1).1) := Lib.hid hO
    clear hW hO hpos
    have hpos : ¬ (((mkFunrT y 1).2 : Nat) : Int) < 0 := by omega
    have HC := Lib.hid (heldFunr_one (fun b => b < w13.heap.size) 1 A1g A2g A3g A4g A5g _ c1g _ c2g _ c3g _ c4g _ c5g y w13 (HOg13.out.rd.mono fun b hb => by have := hb.2; omega) (fun b hb => hb) (by omega) HMF.out)
    obtain ⟨p0, p1, p2, p3, p4, p5⟩ := HXG13.out.g6
    go_wp2_with fail
    refine HC.out.mono ?_
    rintro e w14 ⟨rfl, hb⟩
    clear HC p0 p1 p2 p3 p4 p5
    have hz13 := hb.size
    have HV14 : Hid (Cod.modr.Sl F w14 (.slice A xs.length cap) xs) := Lib.hid (HV13.out.keep fun b hb' => by have h1 := HF0.out b hb'; exact hb.block b (by omega))
    have HS14 : Hid (FunRd (fun b => w2.heap.size ≤ b ∧ b < w3.heap.size) w14 (.slice A1s y.args.length c1s) (.slice A2s y.rets.length c2s) (.slice A3s y.locals.length c3s) (.slice A4s y.takes.length c4s) (.slice A5s y.code.length c5s) y) := Lib.hid (HS13.out.keep fun b hb' => by have h1 := hb'.1; have h2 := hb'.2; exact hb.block b (by omega))
    have HXS14 : Hid (Blk w14 w3.heap.size 37 #[.int .i64 y.seen, .slice A1s y.args.length c1s, .slice A2s y.rets.length c2s, .slice A3s y.locals.length c3s, .slice A4s y.takes.length c4s, .slice A5s y.code.length c5s]) := Lib.hid ((hb.block (w3.heap.size) (by omega)).trans HXS13.out)
    have HXG14 : Hid (Blk w14 w6.heap.size 37 #[.int .i64 y.seen, .slice A1g y.args.length c1g, .slice A2g y.rets.length c2g, .slice A3g y.locals.length c3g, .slice A4g y.takes.length c4g, .slice A5g y.code.length c5g]) := Lib.hid ((hb.block (w6.heap.size) (by omega)).trans HXG13.out)
    have HOg14 : Hid (FunRo w5.heap.size w6.heap.size w14 (.slice A1g y.args.length c1g) (.slice A2g y.rets.length c2g) (.slice A3g y.locals.length c3g) (.slice A4g y.takes.length c4g) (.slice A5g y.code.length c5g) (mkFunrT y 1).1) := Lib.hid (HOg13.out.keep fun b g1 g2 => hb.block b (by omega))
    have HE14 := Lib.hid (HE13.out.trans (hb.mono (by omega)))
    clear hb
    have HC := Lib.hid (to_modr F _ xs w14 HV14.out (fun b hb => by have := HF0.out b hb; omega) HS.out.1 HS.out.2)
    go_wp2_with fail
    refine HC.out.mono ?_
    rintro e w15 ⟨Bh, bh, rfl, hO, hb⟩
    clear HC
    have hz14 := hb.size
    have HV15 : Hid (Cod.modr.Sl F w15 (.slice A xs.length cap) xs) := Lib.hid (HV14.out.keep fun b hb' => by have h1 := HF0.out b hb'; exact hb.block b (by omega))
    have HS15 : Hid (FunRd (fun b => w2.heap.size ≤ b ∧ b < w3.heap.size) w15 (.slice A1s y.args.length c1s) (.slice A2s y.rets.length c2s) (.slice A3s y.locals.length c3s) (.slice A4s y.takes.length c4s) (.slice A5s y.code.length c5s) y) := Lib.hid (HS14.out.keep fun b hb' => by have h1 := hb'.1; have h2 := hb'.2; exact hb.block b (by omega))
    have HXS15 : Hid (Blk w15 w3.heap.size 37 #[.int .i64 y.seen, .slice A1s y.args.length c1s, .slice A2s y.rets.length c2s, .slice A3s y.locals.length c3s, .slice A4s y.takes.length c4s, .slice A5s y.code.length c5s]) := Lib.hid ((hb.block (w3.heap.size) (by omega)).trans HXS14.out)
    have HXG15 : Hid (Blk w15 w6.heap.size 37 #[.int .i64 y.seen, .slice A1g y.args.length c1g, .slice A2g y.rets.length c2g, .slice A3g y.locals.length c3g, .slice A4g y.takes.length c4g, .slice A5g y.code.length c5g]) := Lib.hid ((hb.block (w6.heap.size) (by omega)).trans HXG14.out)
    have HOg15 : Hid (FunRo w5.heap.size w6.heap.size w15 (.slice A1g y.args.length c1g) (.slice A2g y.rets.length c2g) (.slice A3g y.locals.length c3g) (.slice A4g y.takes.length c4g) (.slice A5g y.code.length c5g) (mkFunrT y 1).1) := Lib.hid (HOg14.out.keep fun b g1 g2 => hb.block b (by omega))
    have HE15 := Lib.hid (HE14.out.trans (hb.mono (by omega)))
    have HOh := Lib.hid hO.sl
    clear hb hO
    have HC := Lib.hid (HIM.out _ _ w15 HOh.out (fun b hb => hb.2))
    go_wp2_with fail
    refine HC.out.mono ?_
    rintro e w16 ⟨A1h, A2h, A3h, A4h, A5h, c1h, c2h, c3h, c4h, c5h, rfl, hO, hb⟩
    clear HC
    have hz15 := hb.size
    have HV16 : Hid (Cod.modr.Sl F w16 (.slice A xs.length cap) xs) := Lib.hid (HV15.out.keep fun b hb' => by have h1 := HF0.out b hb'; exact hb.block b (by omega))
    have HS16 : Hid (FunRd (fun b => w2.heap.size ≤ b ∧ b < w3.heap.size) w16 (.slice A1s y.args.length c1s) (.slice A2s y.rets.length c2s) (.slice A3s y.locals.length c3s) (.slice A4s y.takes.length c4s) (.slice A5s y.code.length c5s) y) := Lib.hid (HS15.out.keep fun b hb' => by have h1 := hb'.1; have h2 := hb'.2; exact hb.block b (by omega))
    have HXS16 : Hid (Blk w16 w3.heap.size 37 #[.int .i64 y.seen, .slice A1s y.args.length c1s, .slice A2s y.rets.length c2s, .slice A3s y.locals.length c3s, .slice A4s y.takes.length c4s, .slice A5s y.code.length c5s]) := Lib.hid ((hb.block (w3.heap.size) (by omega)).trans HXS15.out)
    have HXG16 : Hid (Blk w16 w6.heap.size 37 #[.int .i64 y.seen, .slice A1g y.args.length c1g, .slice A2g y.rets.length c2g, .slice A3g y.locals.length c3g, .slice A4g y.takes.length c4g, .slice A5g y.code.length c5g]) := Lib.hid ((hb.block (w6.heap.size) (by omega)).trans HXG15.out)
    have HOg16 : Hid (FunRo w5.heap.size w6.heap.size w16 (.slice A1g y.args.length c1g) (.slice A2g y.rets.length c2g) (.slice A3g y.locals.length c3g) (.slice A4g y.takes.length c4g) (.slice A5g y.code.length c5g) (mkFunrT y 1).1) := Lib.hid (HOg15.out.keep fun b g1 g2 => hb.block b (by omega))
    have HE16 := Lib.hid (HE15.out.trans (hb.mono (by omega)))
    have HOh16 : Hid (FunRo w15.heap.size w16.heap.size w16 (.slice A1h y.args.length c1h) (.slice A2h y.rets.length c2h) (.slice A3h y.locals.length c3h) (.slice A4h y.takes.length c4h) (.slice A5h y.code.length c5h) y) := Lib.hid hO
    clear hb hO HOh
    obtain ⟨w17, hw17⟩ : ∃ u, u = w16.alloc (.cells #[.int .i64 y.seen, .slice A1h y.args.length c1h, .slice A2h y.rets.length c2h, .slice A3h y.locals.length c3h, .slice A4h y.takes.length c4h, .slice A5h y.code.length c5h] 37) := ⟨_, rfl⟩
    have HXH17 := Lib.hid (show Blk w17 w16.heap.size 37 #[.int .i64 y.seen, .slice A1h y.args.length c1h, .slice A2h y.rets.length c2h, .slice A3h y.locals.length c3h, .slice A4h y.takes.length c4h, .slice A5h y.code.length c5h] by rw [hw17]; exact Blk.new _ _ _)
    have hb : Below w16.heap.size w16 w17 := by rw [hw17]; exact (Below.refl _ _).alloc (Nat.le_refl _) _
    have hy17 : w16.heap.size + 1 = w17.heap.size := by rw [hw17]; simp
    have Hw17 := Lib.hid hw17
    clear hw17
    have hz16 := hb.size
    have HV17 : Hid (Cod.modr.Sl F w17 (.slice A xs.length cap) xs) := Lib.hid (HV16.out.keep fun b hb' => by have h1 := HF0.out b hb'; exact hb.block b (by omega))
    have HS17 : Hid (FunRd (fun b => w2.heap.size ≤ b ∧ b < w3.heap.size) w17 (.slice A1s y.args.length c1s) (.slice A2s y.rets.length c2s) (.slice A3s y.locals.length c3s) (.slice A4s y.takes.length c4s) (.slice A5s y.code.length c5s) y) := Lib.hid (HS16.out.keep fun b hb' => by have h1 := hb'.1; have h2 := hb'.2; exact hb.block b (by omega))
    have HXS17 : Hid (Blk w17 w3.heap.size 37 #[.int .i64 y.seen, .slice A1s y.args.length c1s, .slice A2s y.rets.length c2s, .slice A3s y.locals.length c3s, .slice A4s y.takes.length c4s, .slice A5s y.code.length c5s]) := Lib.hid ((hb.block (w3.heap.size) (by omega)).trans HXS16.out)
    have HXG17 : Hid (Blk w17 w6.heap.size 37 #[.int .i64 y.seen, .slice A1g y.args.length c1g, .slice A2g y.rets.length c2g, .slice A3g y.locals.length c3g, .slice A4g y.takes.length c4g, .slice A5g y.code.length c5g]) := Lib.hid ((hb.block (w6.heap.size) (by omega)).trans HXG16.out)
    have HOg17 : Hid (FunRo w5.heap.size w6.heap.size w17 (.slice A1g y.args.length c1g) (.slice A2g y.rets.length c2g) (.slice A3g y.locals.length c3g) (.slice A4g y.takes.length c4g) (.slice A5g y.code.length c5g) (mkFunrT y 1).1) := Lib.hid (HOg16.out.keep fun b g1 g2 => hb.block b (by omega))
    have HOh17 : Hid (FunRo w15.heap.size w16.heap.size w17 (.slice A1h y.args.length c1h) (.slice A2h y.rets.length c2h) (.slice A3h y.locals.length c3h) (.slice A4h y.takes.length c4h) (.slice A5h y.code.length c5h) y) := Lib.hid (HOh16.out.keep fun b g1 g2 => hb.block b (by omega))
    have HE17 := Lib.hid (HE16.out.trans (hb.mono (by omega)))
    clear hb
    have HC := Lib.hid (eqFunr_one (fun b => b < w17.heap.size) A1h A1s A2h A2s A3h A3s A4h A4s A5h A5s _ c1h _ c1s _ c2h _ c2s _ c3h _ c3s _ c4h _ c4s _ c5h _ c5s y w17 (HOh17.out.rd.mono fun b hb => by have := hb.2; omega) (HS17.out.mono fun b hb => by have := hb.2; omega) fun b hb => hb)
    obtain ⟨q0, q1, q2, q3, q4, q5⟩ := HXS16.out.g6
    have hbd1 : w3.heap.size < w16.heap.size := by omega
    go_wp2_with fail
    rw [← Hw17.out]
    refine HC.out.mono ?_
    rintro e w18 ⟨rfl, hb⟩
    clear HC q0 q1 q2 q3 q4 q5 hbd1
    have hz17 := hb.size
    have HV18 : Hid (Cod.modr.Sl F w18 (.slice A xs.length cap) xs) := Lib.hid (HV17.out.keep fun b hb' => by have h1 := HF0.out b hb'; exact hb.block b (by omega))
    have HS18 : Hid (FunRd (fun b => w2.heap.size ≤ b ∧ b < w3.heap.size) w18 (.slice A1s y.args.length c1s) (.slice A2s y.rets.length c2s) (.slice A3s y.locals.length c3s) (.slice A4s y.takes.length c4s) (.slice A5s y.code.length c5s) y) := Lib.hid (HS17.out.keep fun b hb' => by have h1 := hb'.1; have h2 := hb'.2; exact hb.block b (by omega))
    have HXS18 : Hid (Blk w18 w3.heap.size 37 #[.int .i64 y.seen, .slice A1s y.args.length c1s, .slice A2s y.rets.length c2s, .slice A3s y.locals.length c3s, .slice A4s y.takes.length c4s, .slice A5s y.code.length c5s]) := Lib.hid ((hb.block (w3.heap.size) (by omega)).trans HXS17.out)
    have HXG18 : Hid (Blk w18 w6.heap.size 37 #[.int .i64 y.seen, .slice A1g y.args.length c1g, .slice A2g y.rets.length c2g, .slice A3g y.locals.length c3g, .slice A4g y.takes.length c4g, .slice A5g y.code.length c5g]) := Lib.hid ((hb.block (w6.heap.size) (by omega)).trans HXG17.out)
    have HOg18 : Hid (FunRo w5.heap.size w6.heap.size w18 (.slice A1g y.args.length c1g) (.slice A2g y.rets.length c2g) (.slice A3g y.locals.length c3g) (.slice A4g y.takes.length c4g) (.slice A5g y.code.length c5g) (mkFunrT y 1).1) := Lib.hid (HOg17.out.keep fun b g1 g2 => hb.block b (by omega))
    have HOh18 : Hid (FunRo w15.heap.size w16.heap.size w18 (.slice A1h y.args.length c1h) (.slice A2h y.rets.length c2h) (.slice A3h y.locals.length c3h) (.slice A4h y.takes.length c4h) (.slice A5h y.code.length c5h) y) := Lib.hid (HOh17.out.keep fun b g1 g2 => hb.block b (by omega))
    have HXH18 : Hid (Blk w18 w16.heap.size 37 #[.int .i64 y.seen, .slice A1h y.args.length c1h, .slice A2h y.rets.length c2h, .slice A3h y.locals.length c3h, .slice A4h y.takes.length c4h, .slice A5h y.code.length c5h]) := Lib.hid ((hb.block (w16.heap.size) (by omega)).trans HXH17.out)
    have HE18 := Lib.hid (HE17.out.trans (hb.mono (by omega)))
    clear hb
    have HC := Lib.hid (heldFunr_one (fun b => b < w18.heap.size) 1 A1g A2g A3g A4g A5g _ c1g _ c2g _ c3g _ c4g _ c5g y w18 (HOg18.out.rd.mono fun b hb => by have := hb.2; omega) (fun b hb => hb) (by omega) HMF.out)
    obtain ⟨p0, p1, p2, p3, p4, p5⟩ := HXG18.out.g6
    go_wp2_with fail
    refine HC.out.mono ?_
    rintro e w19 ⟨rfl, hb⟩
    clear HC p0 p1 p2 p3 p4 p5
    have hz18 := hb.size
    have HV19 : Hid (Cod.modr.Sl F w19 (.slice A xs.length cap) xs) := Lib.hid (HV18.out.keep fun b hb' => by have h1 := HF0.out b hb'; exact hb.block b (by omega))
    have HS19 : Hid (FunRd (fun b => w2.heap.size ≤ b ∧ b < w3.heap.size) w19 (.slice A1s y.args.length c1s) (.slice A2s y.rets.length c2s) (.slice A3s y.locals.length c3s) (.slice A4s y.takes.length c4s) (.slice A5s y.code.length c5s) y) := Lib.hid (HS18.out.keep fun b hb' => by have h1 := hb'.1; have h2 := hb'.2; exact hb.block b (by omega))
    have HXS19 : Hid (Blk w19 w3.heap.size 37 #[.int .i64 y.seen, .slice A1s y.args.length c1s, .slice A2s y.rets.length c2s, .slice A3s y.locals.length c3s, .slice A4s y.takes.length c4s, .slice A5s y.code.length c5s]) := Lib.hid ((hb.block (w3.heap.size) (by omega)).trans HXS18.out)
    have HXG19 : Hid (Blk w19 w6.heap.size 37 #[.int .i64 y.seen, .slice A1g y.args.length c1g, .slice A2g y.rets.length c2g, .slice A3g y.locals.length c3g, .slice A4g y.takes.length c4g, .slice A5g y.code.length c5g]) := Lib.hid ((hb.block (w6.heap.size) (by omega)).trans HXG18.out)
    have HOg19 : Hid (FunRo w5.heap.size w6.heap.size w19 (.slice A1g y.args.length c1g) (.slice A2g y.rets.length c2g) (.slice A3g y.locals.length c3g) (.slice A4g y.takes.length c4g) (.slice A5g y.code.length c5g) (mkFunrT y 1).1) := Lib.hid (HOg18.out.keep fun b g1 g2 => hb.block b (by omega))
    have HOh19 : Hid (FunRo w15.heap.size w16.heap.size w19 (.slice A1h y.args.length c1h) (.slice A2h y.rets.length c2h) (.slice A3h y.locals.length c3h) (.slice A4h y.takes.length c4h) (.slice A5h y.code.length c5h) y) := Lib.hid (HOh18.out.keep fun b g1 g2 => hb.block b (by omega))
    have HXH19 : Hid (Blk w19 w16.heap.size 37 #[.int .i64 y.seen, .slice A1h y.args.length c1h, .slice A2h y.rets.length c2h, .slice A3h y.locals.length c3h, .slice A4h y.takes.length c4h, .slice A5h y.code.length c5h]) := Lib.hid ((hb.block (w16.heap.size) (by omega)).trans HXH18.out)
    have HE19 := Lib.hid (HE18.out.trans (hb.mono (by omega)))
    clear hb
    go_wp2_with fail
    go_ret
    exact ⟨rfl, HE19.out⟩

set_option maxRecDepth 100000 in
theorem liftShelfFunc (os : Os) (started : os.Started) (H : Type) (enc : TypeId × Value → H) :
    ReturnsInHanded {} Try.checked os 4 .any (Rows.fnExactShelfFuncSpec.pre6 enc Try.prog Try.f4 Rows.fnExactShelfFuncRow.domain false) (Rows.fnExactShelfFuncSpec.post enc Try.prog Try.f4 false true false false) := by
  refine returnsInHanded_of_change (C := Try.checked) own_ started (by kernel_rfl) Try.func4
    (ChangeSpec.witness6 (enc := enc) (C := Try.checked) false ⟨#[], #[.slice none 0 0, .int .i64 0, .int .i64 0], []⟩ 8 (by kernel_rfl) (by kernel_rfl) (by kernel_rfl) (by kernel_rfl)) ?_
  intro W base args ds gs before hval0 hW _ _
  have hval : ∀ (j : Nat) t v, Try.f4.params[j]? = some t → args[j]? = some v → Value.okWide Try.prog W .any base t v := hval0
  have hW' := hW
  obtain ⟨p, q, hA0, hV, rfl, _, _⟩ := hW
  have hA : DataW.TrodAll enc Try.prog W 0 (fun _ => true) true Try.f4.params.toList args.toList ds p := hA0
  rw [Try.params4] at hA hval
  obtain ⟨v0, v1, v2, d0, d1, d2, p0, p1, p2, rfl, rfl, rfl, h0, h1, h2⟩ := trodAll_three hA
  obtain ⟨rfl, rfl⟩ := trodVars_none hV
  obtain ⟨m, rfl, rfl, rfl, u1⟩ := open_int Try.underlying3 (hval 1 3 v1 rfl rfl) h1
  obtain ⟨f, rfl, rfl, rfl, u2⟩ := open_int Try.underlying3 (hval 2 3 v2 rfl rfl) h2
  obtain ⟨xs, hxs⟩ := open_shelf (hval 0 22 v0 rfl rfl) h0
  clear hA0 hval0
  simp only [List.append_nil] at hW'
  have hlt : ∀ x ∈ p0, x.block < W.heap.size := fun x hx => by simpa using hW'.lt x (by simp [hx])
  refine (lawShelfFunc (Old W) v0 xs m f W hxs (fun b hb => hb) (wf_I64 u1) (wf_I64 u2)).mono fun e W' ⟨he, hn⟩ => ?_
  subst he
  refine ⟨_, rfl, _, _, _, [], p0 ++ ([] ++ []), [], hW', ?_, ?_, rfl, hn.frame _, fun h => by cases h⟩
  · exact trodAll_mk1 (shut_bool Try.underlying4 true)
  · exact trodAll_mk3 (Below.trod laidOut_ (by kernel_rfl) (of_decide_eq_true (by kernel_rfl)) h0 hn hlt) (shut_int Try.underlying3 u1) (shut_int Try.underlying3 u2)

theorem ShelfFunc_holds : Rows.FnExactShelfFuncSaid :=
  OpenClaim.holds_of_wide 4 Try.f4 rfl rfl rfl rfl rfl rfl rfl ⟨rfl, rfl, rfl, rfl, rfl⟩ rfl rfl rfl rfl rfl (by kernel_rfl) Try.func4 (by kernel_rfl)
    (of_decide_eq_true (by kernel_rfl)) (by unfold Func.isWrapper; first | (rw [if_pos (by decide +kernel)]; kernel_rfl) | (rw [if_neg (by decide +kernel)]; exact ⟨rfl, rfl⟩))
    (fun os started H enc _ => liftShelfFunc os started H enc)
end Go.Proofs.Ythhheipinogcoaa
