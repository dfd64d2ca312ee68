/- Whatever the arguments, the exact law of ShelfKinds answers true: the program's ShelfKinds is the model's, leaves its argument alone, and hands back memory of its own. -/
import Derived.Test.YthhheipinogcoaaGr
import Derived.Test.YthhheipinogcoaaGn
import Derived.Test.YthhheipinogcoaaGh
import Derived.Test.YthhheipinogcoaaGt
import Derived.Test.YthhheipinogcoaaGe
import Derived.Test.YthhheipinogcoaaGo
import Derived.Test.YthhheipinogcoaaLawFuncSeen
namespace Go.Proofs.Ythhheipinogcoaa
open Go.ChangeShapes Go.WideShapes Go.ChangeAt Go.RowKit Go.Deep
open Go.ChangeMaps (open_string shut_string)

theorem mkR_move : ∀ (rs : List Rec) (k k' : Nat), k ≤ k' → (markL mkR rs k).2 ≤ (markL mkR rs k').2
  | [], _, _, h => h
  | r :: rs, k, k', h => by
    show (markL mkR rs (mkR r k).2).2 ≤ (markL mkR rs (mkR r k').2).2
    refine mkR_move rs _ _ ?_
    show (markL mkS r.fields (k + 1)).2 ≤ (markL mkS r.fields (k' + 1)).2
    rw [mkS_many, mkS_many]; omega
theorem mkRS_move : ∀ (xs : List ModR) (k k' : Nat), k ≤ k' → (markL mkRS (kindsOf xs) k).2 ≤ (markL mkModr xs k').2
  | [], _, _, h => h
  | x :: r, k, k', h => by
    show (markL mkRS (kindsOf r) (markL mkR x.records k).2).2 ≤ (markL mkModr r (mkModr x k').2).2
    refine mkRS_move r _ _ (Nat.le_trans (mkR_move _ _ _ h) ?_)
    show (markL mkR x.records k').2 ≤ (markL mkI x.friends (markL mkFunr x.funcs (markL mkR x.records k').2).2).2
    exact Nat.le_trans (markL_le mkFunr_le x.funcs _) (markL_le (fun _ _ => Nat.le_succ _) x.friends _)
def KindsM (xs : List ModR) (ks : List (List Rec)) (w : World) (e : Ending) (w' : World) : Prop := ∃ A' c', e = .returned (.slice A' xs.length c') ∧ Own rowRR 59 w.heap.size w'.heap.size w' (.slice A' xs.length c') ks ∧ Below w.heap.size w w'

set_option maxRecDepth 100000 in
set_option maxHeartbeats 16000000 in
theorem lawShelfKinds (F : Nat → Prop) (v : Value) (xs : List ModR) (w : World) (h : Cod.modr.Sl F w v xs) (hF : ∀ b, F b → b < w.heap.size) :
    Calls Try.prog 3 #[v] w fun e w' => e = .returned (.bool true) ∧ Below w.heap.size w w' := by
  obtain ⟨A, cap, rfl, _⟩ := id h
  obtain ⟨w0, hw0⟩ : ∃ w0, w0 = w := ⟨_, rfl⟩
  subst hw0
  have HV0 := Lib.hid h
  have HF0 := Lib.hid hF
  have HE0 := Lib.hid (Below.refl w0.heap.size w0)
  clear hF h
  by_cases hz : szS szModr xs 1048576 < 0
  · have HC := Lib.hid (sz_modr F _ xs 1048576 w0 HV0.out HF0.out (by omega) (by omega))
    go_enter Try.func3, Try.ntmps3
    go_wp2_with fail
    refine HC.out.mono ?_
    rintro e w1 ⟨rfl, hb⟩
    have HE1 := Lib.hid hb
    clear hb HC
    go_wp2_with fail
    go_ret
    exact ⟨rfl, HE1.out⟩
  · have HS := Lib.hid (smol_shelf hz)
    have HMS := Lib.hid (marks_shelf hz)
    obtain ⟨ks, hks⟩ : ∃ ks, ks = kindsOf xs := ⟨_, rfl⟩
    have HSP := Lib.hid fun (F : Nat → Prop) (v : Value) (w : World) (h : Cod.modr.Sl F w v xs) (hF : ∀ b, F b → b < w.heap.size) => (show Calls Try.prog 9 #[v] w (KindsM xs ks w) from (specShelfKinds_any F v xs w h hF HS.out.1 HS.out.2).mono fun e w' ⟨A', c', he, ho, hb⟩ => ⟨A', c', he, by rw [hks]; exact ho, hb⟩)
    have HIM := Lib.hid fun (F : Nat → Prop) (v : Value) (w : World) (h : Cod.modr.Sl F w v xs) (hF : ∀ b, F b → b < w.heap.size) => (show Calls Try.prog 11 #[v] w (KindsM xs ks w) from (implShelfKinds_any F v xs w h hF HS.out.1 HS.out.2).mono fun e w' ⟨A', c', he, ho, hb⟩ => ⟨A', c', he, by rw [hks]; exact ho, hb⟩)
    have HMF := Lib.hid (show (markL mkRS ks 1).2 ≤ 100000000 by rw [hks]; exact Nat.le_trans (mkRS_move xs 1 1 (Nat.le_refl _)) HMS.out)
    clear hks
    go_enter Try.func3, Try.ntmps3
    have HC := Lib.hid (sz_modr F _ xs 1048576 w0 HV0.out HF0.out (by omega) (by omega))
    go_wp2_with fail
    refine HC.out.mono ?_
    rintro e w1 ⟨rfl, hb⟩
    clear HC
    have hz0 := hb.size
    have HV1 : Hid (Cod.modr.Sl F w1 (.slice A xs.length cap) xs) := Lib.hid (HV0.out.keep fun b hb' => by have h1 := HF0.out b hb'; exact hb.block b (by omega))
    have HE1 := Lib.hid (HE0.out.trans (hb.mono (by omega)))
    clear hb
    have HC := Lib.hid (to_modr F _ xs w1 HV1.out (fun b hb => by have := HF0.out b hb; omega) HS.out.1 HS.out.2)
    go_wp2_with fail
    refine HC.out.mono ?_
    rintro e w2 ⟨Bs, bs, rfl, hO, hb⟩
    clear HC
    have hz1 := hb.size
    have HV2 : Hid (Cod.modr.Sl F w2 (.slice A xs.length cap) xs) := Lib.hid (HV1.out.keep fun b hb' => by have h1 := HF0.out b hb'; exact hb.block b (by omega))
    have HE2 := Lib.hid (HE1.out.trans (hb.mono (by omega)))
    have HOs := Lib.hid hO.sl
    clear hb hO
    have HC := Lib.hid (HSP.out _ _ w2 HOs.out (fun b hb => hb.2))
    go_wp2_with fail
    refine HC.out.mono ?_
    rintro e w3 ⟨As, cs, rfl, hO, hb⟩
    clear HC
    have hz2 := hb.size
    have HV3 : Hid (Cod.modr.Sl F w3 (.slice A xs.length cap) xs) := Lib.hid (HV2.out.keep fun b hb' => by have h1 := HF0.out b hb'; exact hb.block b (by omega))
    have HE3 := Lib.hid (HE2.out.trans (hb.mono (by omega)))
    have HOs3 : Hid (Own rowRR 59 w2.heap.size w3.heap.size w3 (.slice As xs.length cs) ks) := Lib.hid hO
    clear hb hO HOs
    have HC := Lib.hid (to_modr F _ xs w3 HV3.out (fun b hb => by have := HF0.out b hb; omega) HS.out.1 HS.out.2)
    go_wp2_with fail
    refine HC.out.mono ?_
    rintro e w4 ⟨Bm, bm, rfl, hO, hb⟩
    clear HC
    have hz3 := hb.size
    have HV4 : Hid (Cod.modr.Sl F w4 (.slice A xs.length cap) xs) := Lib.hid (HV3.out.keep fun b hb' => by have h1 := HF0.out b hb'; exact hb.block b (by omega))
    have HOs4 : Hid (Own rowRR 59 w2.heap.size w3.heap.size w4 (.slice As xs.length cs) ks) := Lib.hid (HOs3.out.keep fun b g1 g2 => hb.block b (by omega))
    have HE4 := Lib.hid (HE3.out.trans (hb.mono (by omega)))
    have HOm4 : Hid (Own OCod.modr 62 w3.heap.size w4.heap.size w4 (.slice Bm xs.length bm) xs) := Lib.hid hO
    clear hb hO
    have HC := Lib.hid (HIM.out _ _ w4 HOm4.out.sl (fun b hb => hb.2))
    go_wp2_with fail
    refine HC.out.mono ?_
    rintro e w5 ⟨Ag, cg, rfl, hO, hb⟩
    clear HC
    have hz4 := hb.size
    have HV5 : Hid (Cod.modr.Sl F w5 (.slice A xs.length cap) xs) := Lib.hid (HV4.out.keep fun b hb' => by have h1 := HF0.out b hb'; exact hb.block b (by omega))
    have HOs5 : Hid (Own rowRR 59 w2.heap.size w3.heap.size w5 (.slice As xs.length cs) ks) := Lib.hid (HOs4.out.keep fun b g1 g2 => hb.block b (by omega))
    have HOm5 : Hid (Own OCod.modr 62 w3.heap.size w4.heap.size w5 (.slice Bm xs.length bm) xs) := Lib.hid (HOm4.out.keep fun b g1 g2 => hb.block b (by omega))
    have HE5 := Lib.hid (HE4.out.trans (hb.mono (by omega)))
    have HOg5 : Hid (Own rowRR 59 w4.heap.size w5.heap.size w5 (.slice Ag xs.length cg) ks) := Lib.hid hO
    clear hb hO
    have HC := Lib.hid (eqRecordSS_any (fun b => b < w5.heap.size) _ _ ks w5 (HOg5.out.sl.mono fun b hb => by have := hb.2; omega) (HOs5.out.sl.mono fun b hb => by have := hb.2; omega) fun b hb => hb)
    go_wp2_with fail
    refine HC.out.mono ?_
    rintro e w6 ⟨rfl, hb⟩
    clear HC
    have hz5 := hb.size
    have HV6 : Hid (Cod.modr.Sl F w6 (.slice A xs.length cap) xs) := Lib.hid (HV5.out.keep fun b hb' => by have h1 := HF0.out b hb'; exact hb.block b (by omega))
    have HOs6 : Hid (Own rowRR 59 w2.heap.size w3.heap.size w6 (.slice As xs.length cs) ks) := Lib.hid (HOs5.out.keep fun b g1 g2 => hb.block b (by omega))
    have HOm6 : Hid (Own OCod.modr 62 w3.heap.size w4.heap.size w6 (.slice Bm xs.length bm) xs) := Lib.hid (HOm5.out.keep fun b g1 g2 => hb.block b (by omega))
    have HOg6 : Hid (Own rowRR 59 w4.heap.size w5.heap.size w6 (.slice Ag xs.length cg) ks) := Lib.hid (HOg5.out.keep fun b g1 g2 => hb.block b (by omega))
    have HE6 := Lib.hid (HE5.out.trans (hb.mono (by omega)))
    clear hb
    have HC := Lib.hid (to_modr F _ xs w6 HV6.out (fun b hb => by have := HF0.out b hb; omega) HS.out.1 HS.out.2)
    go_wp2_with fail
    refine HC.out.mono ?_
    rintro e w7 ⟨Be, be, rfl, hO, hb⟩
    clear HC
    have hz6 := hb.size
    have HV7 : Hid (Cod.modr.Sl F w7 (.slice A xs.length cap) xs) := Lib.hid (HV6.out.keep fun b hb' => by have h1 := HF0.out b hb'; exact hb.block b (by omega))
    have HOs7 : Hid (Own rowRR 59 w2.heap.size w3.heap.size w7 (.slice As xs.length cs) ks) := Lib.hid (HOs6.out.keep fun b g1 g2 => hb.block b (by omega))
    have HOm7 : Hid (Own OCod.modr 62 w3.heap.size w4.heap.size w7 (.slice Bm xs.length bm) xs) := Lib.hid (HOm6.out.keep fun b g1 g2 => hb.block b (by omega))
    have HOg7 : Hid (Own rowRR 59 w4.heap.size w5.heap.size w7 (.slice Ag xs.length cg) ks) := Lib.hid (HOg6.out.keep fun b g1 g2 => hb.block b (by omega))
    have HE7 := Lib.hid (HE6.out.trans (hb.mono (by omega)))
    have HOe := Lib.hid (show Cod.modr.Sl (fun b => b < w7.heap.size) w7 (.slice Be xs.length be) xs from hO.sl.mono fun b hb => hb.2)
    clear hb hO
    have HC := Lib.hid (eq_modr (fun b => b < w7.heap.size) _ _ xs w7 (HOm7.out.sl.mono fun b hb => by have := hb.2; omega) HOe.out fun b hb => hb)
    go_wp2_with fail
    refine HC.out.mono ?_
    rintro e w8 ⟨rfl, hb⟩
    clear HC
    have hz7 := hb.size
    have HV8 : Hid (Cod.modr.Sl F w8 (.slice A xs.length cap) xs) := Lib.hid (HV7.out.keep fun b hb' => by have h1 := HF0.out b hb'; exact hb.block b (by omega))
    have HOs8 : Hid (Own rowRR 59 w2.heap.size w3.heap.size w8 (.slice As xs.length cs) ks) := Lib.hid (HOs7.out.keep fun b g1 g2 => hb.block b (by omega))
    have HOm8 : Hid (Own OCod.modr 62 w3.heap.size w4.heap.size w8 (.slice Bm xs.length bm) xs) := Lib.hid (HOm7.out.keep fun b g1 g2 => hb.block b (by omega))
    have HOg8 : Hid (Own rowRR 59 w4.heap.size w5.heap.size w8 (.slice Ag xs.length cg) ks) := Lib.hid (HOg7.out.keep fun b g1 g2 => hb.block b (by omega))
    have HE8 := Lib.hid (HE7.out.trans (hb.mono (by omega)))
    clear hb HOe
    have HC := Lib.hid (mark_modr w3.heap.size w4.heap.size 1 _ xs w8 HOm8.out (by omega) (by omega) HMS.out)
    go_wp2_with fail
    refine HC.out.mono ?_
    rintro e w9 ⟨rfl, hO, hW⟩
    clear HC
    have hz8 := hW.size
    have HV9 : Hid (Cod.modr.Sl F w9 (.slice A xs.length cap) xs) := Lib.hid (HV8.out.keep fun b hb' => by have h1 := HF0.out b hb'; exact hW.block b (by omega) (by omega))
    have HOs9 : Hid (Own rowRR 59 w2.heap.size w3.heap.size w9 (.slice As xs.length cs) ks) := Lib.hid (HOs8.out.keep fun b g1 g2 => hW.block b (by omega) (by omega))
    have HOg9 : Hid (Own rowRR 59 w4.heap.size w5.heap.size w9 (.slice Ag xs.length cg) ks) := Lib.hid (HOg8.out.keep fun b g1 g2 => hW.block b (by omega) (by omega))
    have HE9 := Lib.hid (HE8.out.trans (Wrote.to_below hW (by omega) (by omega)))
    clear hW hO
    have hpos : ¬ (((markL mkModr xs 1).2 : Nat) : Int) < 0 := by omega
    have HC := Lib.hid (eqRecordSS_any (fun b => b < w9.heap.size) _ _ ks w9 (HOg9.out.sl.mono fun b hb => by have := hb.2; omega) (HOs9.out.sl.mono fun b hb => by have := hb.2; omega) fun b hb => hb)
    go_wp2_with fail
    refine HC.out.mono ?_
    rintro e w10 ⟨rfl, hb⟩
    clear HC
    have hz9 := hb.size
    have HV10 : Hid (Cod.modr.Sl F w10 (.slice A xs.length cap) xs) := Lib.hid (HV9.out.keep fun b hb' => by have h1 := HF0.out b hb'; exact hb.block b (by omega))
    have HOs10 : Hid (Own rowRR 59 w2.heap.size w3.heap.size w10 (.slice As xs.length cs) ks) := Lib.hid (HOs9.out.keep fun b g1 g2 => hb.block b (by omega))
    have HOg10 : Hid (Own rowRR 59 w4.heap.size w5.heap.size w10 (.slice Ag xs.length cg) ks) := Lib.hid (HOg9.out.keep fun b g1 g2 => hb.block b (by omega))
    have HE10 := Lib.hid (HE9.out.trans (hb.mono (by omega)))
    clear hb
    have HC := Lib.hid (markRecordSS_any w4.heap.size w5.heap.size 1 _ ks w10 HOg10.out (by omega) (by omega) HMF.out)
    go_wp2_with fail
    refine HC.out.mono ?_
    rintro e w11 ⟨rfl, hO, hW⟩
    clear HC
    have hz10 := hW.size
    have HV11 : Hid (Cod.modr.Sl F w11 (.slice A xs.length cap) xs) := Lib.hid (HV10.out.keep fun b hb' => by have h1 := HF0.out b hb'; exact hW.block b (by omega) (by omega))
    have HOs11 : Hid (Own rowRR 59 w2.heap.size w3.heap.size w11 (.slice As xs.length cs) ks) := Lib.hid (HOs10.out.keep fun b g1 g2 => hW.block b (by omega) (by omega))
    have HE11 := Lib.hid (HE10.out.trans (Wrote.to_below hW (by omega) (by omega)))
    have HOg11 : Hid (Own rowRR 59 w4.heap.size w5.heap.size w11 (.slice Ag xs.length cg) (markL mkRS ks 1).1) := Lib.hid hO
    clear hW hO hpos
    have hpos : ¬ (((markL mkRS ks 1).2 : Nat) : Int) < 0 := by omega
    have HC := Lib.hid (heldRecordSS_any (fun b => b < w11.heap.size) 1 _ ks w11 (HOg11.out.sl.mono fun b hb => by have := hb.2; omega) (fun b hb => hb) (by omega) HMF.out)
    go_wp2_with fail
    refine HC.out.mono ?_
    rintro e w12 ⟨rfl, hb⟩
    clear HC
    have hz11 := hb.size
    have HV12 : Hid (Cod.modr.Sl F w12 (.slice A xs.length cap) xs) := Lib.hid (HV11.out.keep fun b hb' => by have h1 := HF0.out b hb'; exact hb.block b (by omega))
    have HOs12 : Hid (Own rowRR 59 w2.heap.size w3.heap.size w12 (.slice As xs.length cs) ks) := Lib.hid (HOs11.out.keep fun b g1 g2 => hb.block b (by omega))
    have HOg12 : Hid (Own rowRR 59 w4.heap.size w5.heap.size w12 (.slice Ag xs.length cg) (markL mkRS ks 1).1) := Lib.hid (HOg11.out.keep fun b g1 g2 => hb.block b (by omega))
    have HE12 := Lib.hid (HE11.out.trans (hb.mono (by omega)))
    clear hb
    have HC := Lib.hid (to_modr F _ xs w12 HV12.out (fun b hb => by have := HF0.out b hb; omega) HS.out.1 HS.out.2)
    go_wp2_with fail
    refine HC.out.mono ?_
    rintro e w13 ⟨Bh, bh, rfl, hO, hb⟩
    clear HC
    have hz12 := hb.size
    have HV13 : Hid (Cod.modr.Sl F w13 (.slice A xs.length cap) xs) := Lib.hid (HV12.out.keep fun b hb' => by have h1 := HF0.out b hb'; exact hb.block b (by omega))
    have HOs13 : Hid (Own rowRR 59 w2.heap.size w3.heap.size w13 (.slice As xs.length cs) ks) := Lib.hid (HOs12.out.keep fun b g1 g2 => hb.block b (by omega))
    have HOg13 : Hid (Own rowRR 59 w4.heap.size w5.heap.size w13 (.slice Ag xs.length cg) (markL mkRS ks 1).1) := Lib.hid (HOg12.out.keep fun b g1 g2 => hb.block b (by omega))
    have HE13 := Lib.hid (HE12.out.trans (hb.mono (by omega)))
    have HOh := Lib.hid hO.sl
    clear hb hO
    have HC := Lib.hid (HIM.out _ _ w13 HOh.out (fun b hb => hb.2))
    go_wp2_with fail
    refine HC.out.mono ?_
    rintro e w14 ⟨Ah, ch, rfl, hO, hb⟩
    clear HC
    have hz13 := hb.size
    have HV14 : Hid (Cod.modr.Sl F w14 (.slice A xs.length cap) xs) := Lib.hid (HV13.out.keep fun b hb' => by have h1 := HF0.out b hb'; exact hb.block b (by omega))
    have HOs14 : Hid (Own rowRR 59 w2.heap.size w3.heap.size w14 (.slice As xs.length cs) ks) := Lib.hid (HOs13.out.keep fun b g1 g2 => hb.block b (by omega))
    have HOg14 : Hid (Own rowRR 59 w4.heap.size w5.heap.size w14 (.slice Ag xs.length cg) (markL mkRS ks 1).1) := Lib.hid (HOg13.out.keep fun b g1 g2 => hb.block b (by omega))
    have HE14 := Lib.hid (HE13.out.trans (hb.mono (by omega)))
    have HOh14 : Hid (Own rowRR 59 w13.heap.size w14.heap.size w14 (.slice Ah xs.length ch) ks) := Lib.hid hO
    clear hb hO HOh
    have HC := Lib.hid (eqRecordSS_any (fun b => b < w14.heap.size) _ _ ks w14 (HOh14.out.sl.mono fun b hb => by have := hb.2; omega) (HOs14.out.sl.mono fun b hb => by have := hb.2; omega) fun b hb => hb)
    go_wp2_with fail
    refine HC.out.mono ?_
    rintro e w15 ⟨rfl, hb⟩
    clear HC
    have hz14 := hb.size
    have HV15 : Hid (Cod.modr.Sl F w15 (.slice A xs.length cap) xs) := Lib.hid (HV14.out.keep fun b hb' => by have h1 := HF0.out b hb'; exact hb.block b (by omega))
    have HOs15 : Hid (Own rowRR 59 w2.heap.size w3.heap.size w15 (.slice As xs.length cs) ks) := Lib.hid (HOs14.out.keep fun b g1 g2 => hb.block b (by omega))
    have HOg15 : Hid (Own rowRR 59 w4.heap.size w5.heap.size w15 (.slice Ag xs.length cg) (markL mkRS ks 1).1) := Lib.hid (HOg14.out.keep fun b g1 g2 => hb.block b (by omega))
    have HOh15 : Hid (Own rowRR 59 w13.heap.size w14.heap.size w15 (.slice Ah xs.length ch) ks) := Lib.hid (HOh14.out.keep fun b g1 g2 => hb.block b (by omega))
    have HE15 := Lib.hid (HE14.out.trans (hb.mono (by omega)))
    clear hb
    have HC := Lib.hid (heldRecordSS_any (fun b => b < w15.heap.size) 1 _ ks w15 (HOg15.out.sl.mono fun b hb => by have := hb.2; omega) (fun b hb => hb) (by omega) HMF.out)
    go_wp2_with fail
    refine HC.out.mono ?_
    rintro e w16 ⟨rfl, hb⟩
    clear HC
    have hz15 := hb.size
    have HV16 : Hid (Cod.modr.Sl F w16 (.slice A xs.length cap) xs) := Lib.hid (HV15.out.keep fun b hb' => by have h1 := HF0.out b hb'; exact hb.block b (by omega))
    have HOs16 : Hid (Own rowRR 59 w2.heap.size w3.heap.size w16 (.slice As xs.length cs) ks) := Lib.hid (HOs15.out.keep fun b g1 g2 => hb.block b (by omega))
    have HOg16 : Hid (Own rowRR 59 w4.heap.size w5.heap.size w16 (.slice Ag xs.length cg) (markL mkRS ks 1).1) := Lib.hid (HOg15.out.keep fun b g1 g2 => hb.block b (by omega))
    have HOh16 : Hid (Own rowRR 59 w13.heap.size w14.heap.size w16 (.slice Ah xs.length ch) ks) := Lib.hid (HOh15.out.keep fun b g1 g2 => hb.block b (by omega))
    have HE16 := Lib.hid (HE15.out.trans (hb.mono (by omega)))
    clear hb
    go_wp2_with fail
    go_ret
    exact ⟨rfl, HE16.out⟩

set_option maxRecDepth 100000 in
theorem liftShelfKinds (os : Os) (started : os.Started) (H : Type) (enc : TypeId × Value → H) :
    ReturnsInHanded {} Try.checked os 3 .any (Rows.fnExactShelfKindsSpec.pre6 enc Try.prog Try.f3 Rows.fnExactShelfKindsRow.domain false) (Rows.fnExactShelfKindsSpec.post enc Try.prog Try.f3 false true false false) := by
  refine returnsInHanded_of_change (C := Try.checked) own_ started (by kernel_rfl) Try.func3
    (ChangeSpec.witness6 (enc := enc) (C := Try.checked) false ⟨#[], #[.slice none 0 0], []⟩ 8 (by kernel_rfl) (by kernel_rfl) (by kernel_rfl) (by kernel_rfl)) ?_
  intro W base args ds gs before hval0 hW _ _
  have hval : ∀ (j : Nat) t v, Try.f3.params[j]? = some t → args[j]? = some v → Value.okWide Try.prog W .any base t v := hval0
  have hW' := hW
  obtain ⟨p, q, hA0, hV, rfl, _, _⟩ := hW
  have hA : DataW.TrodAll enc Try.prog W 0 (fun _ => true) true Try.f3.params.toList args.toList ds p := hA0
  rw [Try.params3] at hA hval
  obtain ⟨v0, d0, rfl, rfl, h0⟩ := trodAll_one hA
  obtain ⟨rfl, rfl⟩ := trodVars_none hV
  obtain ⟨xs, hxs⟩ := open_shelf (hval 0 22 v0 rfl rfl) h0
  clear hA0 hval0
  simp only [List.append_nil] at hW'
  have hlt : ∀ x ∈ p, x.block < W.heap.size := fun x hx => by simpa using hW'.lt x (by simp [hx])
  refine (lawShelfKinds (Old W) v0 xs W hxs (fun b hb => hb)).mono fun e W' ⟨he, hn⟩ => ?_
  subst he
  refine ⟨_, rfl, _, _, _, [], p, [], hW', ?_, ?_, rfl, hn.frame _, fun h => by cases h⟩
  · exact trodAll_mk1 (shut_bool Try.underlying4 true)
  · exact trodAll_mk1 (Below.trod laidOut_ (by kernel_rfl) (of_decide_eq_true (by kernel_rfl)) h0 hn hlt)

theorem ShelfKinds_holds : Rows.FnExactShelfKindsSaid :=
  OpenClaim.holds_of_wide 3 Try.f3 rfl rfl rfl rfl rfl rfl rfl ⟨rfl, rfl, rfl, rfl, rfl⟩ rfl rfl rfl rfl rfl (by kernel_rfl) Try.func3 (by kernel_rfl)
    (of_decide_eq_true (by kernel_rfl)) (by unfold Func.isWrapper; first | (rw [if_pos (by decide +kernel)]; kernel_rfl) | (rw [if_neg (by decide +kernel)]; exact ⟨rfl, rfl⟩))
    (fun os started H enc _ => liftShelfKinds os started H enc)
end Go.Proofs.Ythhheipinogcoaa
