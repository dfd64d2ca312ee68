/- Whatever the arguments, the exact law of ShapeFirst answers true: the program's ShapeFirst is the model's, leaves its arguments alone, and hands back memory of its own. -/
import Derived.Test.YtmomdflfjcboiaaDoorJw
import Derived.Test.YtmomdflfjcboiaaDoorJm
import Derived.Test.YtmomdflfjcboiaaDoorJe
import Derived.Test.YtmomdflfjcboiaaDoorGm
import Derived.Test.YtmomdflfjcboiaaDoorIth
import Derived.Stop.Joined
import Derived.Stop.LaidErr
import Derived.LaidByTextLater
import Derived.SevenTiedAt
import Derived.ProofKit
import Derived.OpenShut
import Derived.Test.YtmomdflfjcboiaaDoorTie
import Derived.Test.YtmomdflfjcboiaaDoorCards
import Derived.Test.YtmomdflfjcboiaaDoorGz
import Derived.Test.YtmomdflfjcboiaaDoorGe
import Derived.Test.YtmomdflfjcboiaaDoorGo
namespace Go.Proofs.YtmomdflfjcboiaaDoor
open Go.ChangeShapes Go.WideShapes Go.ChangeAt Go.RowKit Go.Deep
open Go.ChangeMaps (open_string shut_string)

theorem smol_shelf {xs : List ModR} (h : ¬ szS szModr xs 1048576 < 0) : xs.length ≤ 2000000 ∧ ∀ x ∈ xs, SmolModr x := by
  obtain ⟨h1, h2⟩ := szS_len szModr_le (xs := xs) (l := 1048576) (by omega)
  refine ⟨by omega, fun x hx => ?_⟩
  obtain ⟨l', z0, z1, z2⟩ := h2 x hx
  exact smol_modr z0 (by omega) z2

theorem mkMarkr_many : ∀ (xs : List MarkR) (k : Nat), (∀ y ∈ xs, y.fr.length ≤ 1) → (markL mkMarkr xs k).2 ≤ k + 2 * xs.length
  | [], k, _ => Nat.le_refl _
  | x :: r, k, h => by
    have e : (markL mkMarkr (x :: r) k).2 = (markL mkMarkr r (mkMarkr x k).2).2 := rfl
    have e2 : (mkMarkr x k).2 = k + 1 + x.fr.length := mkI_many x.fr (k + 1)
    have h1 := mkMarkr_many r (mkMarkr x k).2 fun y hy => h y (List.mem_cons_of_mem _ hy)
    have h2 := h x List.mem_cons_self
    rw [e, List.length_cons]
    omega
theorem marks_first {xs : List ModR} {m f : Int} (hs : ∀ x ∈ xs, SmolModr x) : (mkShaperT ⟨[], (firstO xs m f).getD []⟩ 1).2 ≤ 100000000 := by
  show (markL mkMarkr ((firstO xs m f).getD []) 1).2 ≤ _
  unfold firstO
  split
  · cases hat : fAt xs m f with
    | none => exact (by decide : (1 : Nat) ≤ 100000000)
    | some y =>
      obtain ⟨h1, _, h2, _⟩ := fAt_smol hat hs
      show (markL mkMarkr (firstP y) 1).2 ≤ _
      have := mkMarkr_many (firstP y) 1 fun z hz => by
        unfold firstP at hz
        rcases List.mem_append.1 hz with h | h
        · obtain ⟨t, _, rfl⟩ := List.mem_map.1 h
          unfold argM
          cases refB t <;> simp
        · obtain ⟨t, _, rfl⟩ := List.mem_map.1 h
          unfold locM
          simp
      rw [firstP_len] at this
      omega
  · exact (by decide : (1 : Nat) ≤ 100000000)

set_option maxRecDepth 100000 in
set_option maxHeartbeats 16000000 in
theorem lawShapeFirst (T : Nat → Prop) (tv : Value) (F : Nat → Prop) (v : Value) (xs : List ModR) (m f : Int) (w : World) (hT : ITab T w tv) (hTF : ∀ b, T b → b < w.heap.size) (h : Cod.modr.Sl F w v xs) (hF : ∀ b, F b → b < w.heap.size) (hm64 : I64 m) (hf64 : I64 f) :
    Calls Tryd.prog 3 #[v, .int .i64 m, .int .i64 f] w fun e w' => e = .returned (.bool true) ∧ Below w.heap.size w w' := by
  obtain ⟨A, cap, rfl, _⟩ := id h
  obtain ⟨w0, hw0⟩ : ∃ w0, w0 = w := ⟨_, rfl⟩
  subst hw0
  have HV0 := Lib.hid h
  have HF0 := Lib.hid hF
  have HT := Lib.hid hT
  have HTF := Lib.hid hTF
  have HE0 := Lib.hid (Below.refl w0.heap.size w0)
  clear hF h hT hTF
  by_cases hz : szS szModr xs 1048576 < 0
  · have HC := Lib.hid (sz_modr F _ xs 1048576 w0 HV0.out HF0.out (by omega) (by omega))
    go_enter Tryd.func3, Tryd.ntmps3
    go_wp2_with fail
    refine HC.out.mono ?_
    rintro e w1 ⟨rfl, hb⟩
    have HE1 := Lib.hid hb
    clear hb HC
    go_wp2_with fail
    go_ret
    exact ⟨rfl, HE1.out⟩
  · have HS := Lib.hid (smol_shelf hz)
    have HMS := Lib.hid (marks_shelf hz)
    have HMF0 := marks_first (m := m) (f := f) HS.out.2
    obtain ⟨ps, hps⟩ : ∃ ps, ps = (firstO xs m f).getD [] := ⟨_, rfl⟩
    obtain ⟨bo, hbo⟩ : ∃ bo, bo = (firstO xs m f).isSome := ⟨_, rfl⟩
    rw [← hps] at HMF0
    have HMF := Lib.hid HMF0
    have HSP := Lib.hid fun (F : Nat → Prop) (v : Value) (w : World) (h : Cod.modr.Sl F w v xs) (hF : ∀ b, F b → b < w.heap.size) => (show Calls Tryd.prog 5 #[v, .int .i64 m, .int .i64 f] w fun e w' => ∃ A' c', e = .returned (.tuple #[.agg #[.slice none 0 0, .slice A' ps.length c'], .bool bo]) ∧ Cod.markr.Sl (Fresh w w') w' (.slice A' ps.length c') ps ∧ Below w.heap.size w w' by rw [hps, hbo]; exact specShapeFirst_any F v xs m f w h hF HS.out.1 HS.out.2)
    have HIM := Lib.hid fun (F : Nat → Prop) (v : Value) (w : World) (hT : ITab T w tv) (hTF : ∀ b, T b → b < w.heap.size) (h : Cod.modr.Sl F w v xs) (hF : ∀ b, F b → b < w.heap.size) => (show Calls Tryd.prog 7 #[v, .int .i64 m, .int .i64 f] w fun e w' => ∃ a0 A' c', e = .returned (.tuple #[.agg #[.slice a0 0 0, .slice A' ps.length c'], .bool bo]) ∧ ShapeRo w.heap.size w'.heap.size w' (.slice a0 0 0) (.slice A' ps.length c') ⟨[], ps⟩ ∧ Below w.heap.size w w' by rw [hps, hbo]; exact implShapeFirst_any T tv F v xs m f w hT hTF h hF HS.out.1 HS.out.2 hm64 hf64)
    clear hps hbo HMF0
    go_enter Tryd.func3, Tryd.ntmps3
    have HC := Lib.hid (sz_modr F _ xs 1048576 w0 HV0.out HF0.out (by omega) (by omega))
    go_wp2_with fail
    refine HC.out.mono ?_
    rintro e w1 ⟨rfl, hb⟩
    clear HC
    have hz0 := hb.size
    have HV1 : Hid (Cod.modr.Sl F w1 (.slice A xs.length cap) xs) := Lib.hid (HV0.out.keep fun b hb' => by have h1 := HF0.out b hb'; exact hb.block b (by omega))
    have HE1 := Lib.hid (HE0.out.trans (hb.mono (by omega)))
    clear hb
    have HC := Lib.hid (to_modr F _ xs w1 HV1.out (fun b hb => by have := HF0.out b hb; omega) HS.out.1 HS.out.2)
    go_wp2_with fail
    refine HC.out.mono ?_
    rintro e w2 ⟨Bs, bs, rfl, hO, hb⟩
    clear HC
    have hz1 := hb.size
    have HV2 : Hid (Cod.modr.Sl F w2 (.slice A xs.length cap) xs) := Lib.hid (HV1.out.keep fun b hb' => by have h1 := HF0.out b hb'; exact hb.block b (by omega))
    have HE2 := Lib.hid (HE1.out.trans (hb.mono (by omega)))
    have HOs := Lib.hid hO.sl
    clear hb hO
    have HC := Lib.hid (HSP.out _ _ w2 HOs.out (fun b hb => hb.2))
    go_wp2_with fail
    refine HC.out.mono ?_
    rintro e w3 ⟨A1s, c1s, rfl, hI, hb⟩
    clear HC
    have hz2 := hb.size
    have HV3 : Hid (Cod.modr.Sl F w3 (.slice A xs.length cap) xs) := Lib.hid (HV2.out.keep fun b hb' => by have h1 := HF0.out b hb'; exact hb.block b (by omega))
    have HE3 := Lib.hid (HE2.out.trans (hb.mono (by omega)))
    have HS3 : Hid (ShapeRd (fun b => w2.heap.size ≤ b ∧ b < w3.heap.size) w3 (.slice none 0 0) (.slice A1s ps.length c1s) ⟨[], ps⟩) := Lib.hid ⟨Cod.Sl.nil_, hI⟩
    clear hb hI HOs
    obtain ⟨w4, hw4⟩ : ∃ u, u = w3.alloc (.cells #[.slice none 0 0, .slice A1s ps.length c1s] 26) := ⟨_, rfl⟩
    have HXS4 := Lib.hid (show Blk w4 w3.heap.size 26 #[.slice none 0 0, .slice A1s ps.length c1s] by rw [hw4]; exact Blk.new _ _ _)
    have hb : Below w3.heap.size w3 w4 := by rw [hw4]; exact (Below.refl _ _).alloc (Nat.le_refl _) _
    have hy4 : w3.heap.size + 1 = w4.heap.size := by rw [hw4]; simp
    have Hw4 := Lib.hid hw4
    clear hw4
    have hz3 := hb.size
    have HV4 : Hid (Cod.modr.Sl F w4 (.slice A xs.length cap) xs) := Lib.hid (HV3.out.keep fun b hb' => by have h1 := HF0.out b hb'; exact hb.block b (by omega))
    have HS4 : Hid (ShapeRd (fun b => w2.heap.size ≤ b ∧ b < w3.heap.size) w4 (.slice none 0 0) (.slice A1s ps.length c1s) ⟨[], ps⟩) := Lib.hid (HS3.out.keep fun b hb' => by have h1 := hb'.1; have h2 := hb'.2; exact hb.block b (by omega))
    have HE4 := Lib.hid (HE3.out.trans (hb.mono (by omega)))
    clear hb
    have HC := Lib.hid (to_modr F _ xs w4 HV4.out (fun b hb => by have := HF0.out b hb; omega) HS.out.1 HS.out.2)
    go_wp2_with fail
    rw [← Hw4.out]
    refine HC.out.mono ?_
    rintro e w5 ⟨Bm, bm, rfl, hO, hb⟩
    clear HC
    have hz4 := hb.size
    have HV5 : Hid (Cod.modr.Sl F w5 (.slice A xs.length cap) xs) := Lib.hid (HV4.out.keep fun b hb' => by have h1 := HF0.out b hb'; exact hb.block b (by omega))
    have HS5 : Hid (ShapeRd (fun b => w2.heap.size ≤ b ∧ b < w3.heap.size) w5 (.slice none 0 0) (.slice A1s ps.length c1s) ⟨[], ps⟩) := Lib.hid (HS4.out.keep fun b hb' => by have h1 := hb'.1; have h2 := hb'.2; exact hb.block b (by omega))
    have HXS5 : Hid (Blk w5 w3.heap.size 26 #[.slice none 0 0, .slice A1s ps.length c1s]) := Lib.hid ((hb.block (w3.heap.size) (by omega)).trans HXS4.out)
    have HE5 := Lib.hid (HE4.out.trans (hb.mono (by omega)))
    have HOm5 : Hid (Own OCod.modr 52 w4.heap.size w5.heap.size w5 (.slice Bm xs.length bm) xs) := Lib.hid hO
    clear hb hO
    have HC := Lib.hid (HIM.out _ _ w5 (HT.out.keep (below_keeps HE5.out HTF.out)) (fun b hb => by have := HTF.out b hb; have := HE5.out.size; omega) HOm5.out.sl (fun b hb => hb.2))
    go_wp2_with fail
    refine HC.out.mono ?_
    rintro e w6 ⟨a0g, A1g, c1g, rfl, hO, hb⟩
    clear HC
    have hz5 := hb.size
    have HV6 : Hid (Cod.modr.Sl F w6 (.slice A xs.length cap) xs) := Lib.hid (HV5.out.keep fun b hb' => by have h1 := HF0.out b hb'; exact hb.block b (by omega))
    have HS6 : Hid (ShapeRd (fun b => w2.heap.size ≤ b ∧ b < w3.heap.size) w6 (.slice none 0 0) (.slice A1s ps.length c1s) ⟨[], ps⟩) := Lib.hid (HS5.out.keep fun b hb' => by have h1 := hb'.1; have h2 := hb'.2; exact hb.block b (by omega))
    have HXS6 : Hid (Blk w6 w3.heap.size 26 #[.slice none 0 0, .slice A1s ps.length c1s]) := Lib.hid ((hb.block (w3.heap.size) (by omega)).trans HXS5.out)
    have HOm6 : Hid (Own OCod.modr 52 w4.heap.size w5.heap.size w6 (.slice Bm xs.length bm) xs) := Lib.hid (HOm5.out.keep fun b g1 g2 => hb.block b (by omega))
    have HE6 := Lib.hid (HE5.out.trans (hb.mono (by omega)))
    have HOg6 : Hid (ShapeRo w5.heap.size w6.heap.size w6 (.slice a0g 0 0) (.slice A1g ps.length c1g) ⟨[], ps⟩) := Lib.hid hO
    clear hb hO
    obtain ⟨w7, hw7⟩ : ∃ u, u = w6.alloc (.cells #[.slice a0g 0 0, .slice A1g ps.length c1g] 26) := ⟨_, rfl⟩
    have HXG7 := Lib.hid (show Blk w7 w6.heap.size 26 #[.slice a0g 0 0, .slice A1g ps.length c1g] by rw [hw7]; exact Blk.new _ _ _)
    have hb : Below w6.heap.size w6 w7 := by rw [hw7]; exact (Below.refl _ _).alloc (Nat.le_refl _) _
    have hy7 : w6.heap.size + 1 = w7.heap.size := by rw [hw7]; simp
    have Hw7 := Lib.hid hw7
    clear hw7
    have hz6 := hb.size
    have HV7 : Hid (Cod.modr.Sl F w7 (.slice A xs.length cap) xs) := Lib.hid (HV6.out.keep fun b hb' => by have h1 := HF0.out b hb'; exact hb.block b (by omega))
    have HS7 : Hid (ShapeRd (fun b => w2.heap.size ≤ b ∧ b < w3.heap.size) w7 (.slice none 0 0) (.slice A1s ps.length c1s) ⟨[], ps⟩) := Lib.hid (HS6.out.keep fun b hb' => by have h1 := hb'.1; have h2 := hb'.2; exact hb.block b (by omega))
    have HXS7 : Hid (Blk w7 w3.heap.size 26 #[.slice none 0 0, .slice A1s ps.length c1s]) := Lib.hid ((hb.block (w3.heap.size) (by omega)).trans HXS6.out)
    have HOm7 : Hid (Own OCod.modr 52 w4.heap.size w5.heap.size w7 (.slice Bm xs.length bm) xs) := Lib.hid (HOm6.out.keep fun b g1 g2 => hb.block b (by omega))
    have HOg7 : Hid (ShapeRo w5.heap.size w6.heap.size w7 (.slice a0g 0 0) (.slice A1g ps.length c1g) ⟨[], ps⟩) := Lib.hid (HOg6.out.keep fun b g1 g2 => hb.block b (by omega))
    have HE7 := Lib.hid (HE6.out.trans (hb.mono (by omega)))
    clear hb
    have HC := Lib.hid (eqShaper_one (fun b => b < w7.heap.size) a0g none A1g A1s _ 0 _ 0 _ c1g _ c1s ⟨[], ps⟩ w7 (HOg7.out.rd.mono fun b hb => by have := hb.2; omega) (HS7.out.mono fun b hb => by have := hb.2; omega) fun b hb => hb)
    obtain ⟨q0, q1⟩ := HXS6.out.g2
    have hbd1 : w3.heap.size < w6.heap.size := by omega
    go_wp2_with fail
    rw [← Hw7.out]
    refine HC.out.mono ?_
    rintro e w8 ⟨rfl, hb⟩
    clear HC q0 q1 hbd1
    have hz7 := hb.size
    have HV8 : Hid (Cod.modr.Sl F w8 (.slice A xs.length cap) xs) := Lib.hid (HV7.out.keep fun b hb' => by have h1 := HF0.out b hb'; exact hb.block b (by omega))
    have HS8 : Hid (ShapeRd (fun b => w2.heap.size ≤ b ∧ b < w3.heap.size) w8 (.slice none 0 0) (.slice A1s ps.length c1s) ⟨[], ps⟩) := Lib.hid (HS7.out.keep fun b hb' => by have h1 := hb'.1; have h2 := hb'.2; exact hb.block b (by omega))
    have HXS8 : Hid (Blk w8 w3.heap.size 26 #[.slice none 0 0, .slice A1s ps.length c1s]) := Lib.hid ((hb.block (w3.heap.size) (by omega)).trans HXS7.out)
    have HOm8 : Hid (Own OCod.modr 52 w4.heap.size w5.heap.size w8 (.slice Bm xs.length bm) xs) := Lib.hid (HOm7.out.keep fun b g1 g2 => hb.block b (by omega))
    have HOg8 : Hid (ShapeRo w5.heap.size w6.heap.size w8 (.slice a0g 0 0) (.slice A1g ps.length c1g) ⟨[], ps⟩) := Lib.hid (HOg7.out.keep fun b g1 g2 => hb.block b (by omega))
    have HXG8 : Hid (Blk w8 w6.heap.size 26 #[.slice a0g 0 0, .slice A1g ps.length c1g]) := Lib.hid ((hb.block (w6.heap.size) (by omega)).trans HXG7.out)
    have HE8 := Lib.hid (HE7.out.trans (hb.mono (by omega)))
    clear hb
    have HC := Lib.hid (to_modr F _ xs w8 HV8.out (fun b hb => by have := HF0.out b hb; omega) HS.out.1 HS.out.2)
    go_wp2_with fail
    refine HC.out.mono ?_
    rintro e w9 ⟨Be, be, rfl, hO, hb⟩
    clear HC
    have hz8 := hb.size
    have HV9 : Hid (Cod.modr.Sl F w9 (.slice A xs.length cap) xs) := Lib.hid (HV8.out.keep fun b hb' => by have h1 := HF0.out b hb'; exact hb.block b (by omega))
    have HS9 : Hid (ShapeRd (fun b => w2.heap.size ≤ b ∧ b < w3.heap.size) w9 (.slice none 0 0) (.slice A1s ps.length c1s) ⟨[], ps⟩) := Lib.hid (HS8.out.keep fun b hb' => by have h1 := hb'.1; have h2 := hb'.2; exact hb.block b (by omega))
    have HXS9 : Hid (Blk w9 w3.heap.size 26 #[.slice none 0 0, .slice A1s ps.length c1s]) := Lib.hid ((hb.block (w3.heap.size) (by omega)).trans HXS8.out)
    have HOm9 : Hid (Own OCod.modr 52 w4.heap.size w5.heap.size w9 (.slice Bm xs.length bm) xs) := Lib.hid (HOm8.out.keep fun b g1 g2 => hb.block b (by omega))
    have HOg9 : Hid (ShapeRo w5.heap.size w6.heap.size w9 (.slice a0g 0 0) (.slice A1g ps.length c1g) ⟨[], ps⟩) := Lib.hid (HOg8.out.keep fun b g1 g2 => hb.block b (by omega))
    have HXG9 : Hid (Blk w9 w6.heap.size 26 #[.slice a0g 0 0, .slice A1g ps.length c1g]) := Lib.hid ((hb.block (w6.heap.size) (by omega)).trans HXG8.out)
    have HE9 := Lib.hid (HE8.out.trans (hb.mono (by omega)))
    have HOe := Lib.hid (show Cod.modr.Sl (fun b => b < w9.heap.size) w9 (.slice Be xs.length be) xs from hO.sl.mono fun b hb => hb.2)
    clear hb hO
    have HC := Lib.hid (eq_modr (fun b => b < w9.heap.size) _ _ xs w9 (HOm9.out.sl.mono fun b hb => by have := hb.2; omega) HOe.out fun b hb => hb)
    go_wp2_with fail
    refine HC.out.mono ?_
    rintro e w10 ⟨rfl, hb⟩
    clear HC
    have hz9 := hb.size
    have HV10 : Hid (Cod.modr.Sl F w10 (.slice A xs.length cap) xs) := Lib.hid (HV9.out.keep fun b hb' => by have h1 := HF0.out b hb'; exact hb.block b (by omega))
    have HS10 : Hid (ShapeRd (fun b => w2.heap.size ≤ b ∧ b < w3.heap.size) w10 (.slice none 0 0) (.slice A1s ps.length c1s) ⟨[], ps⟩) := Lib.hid (HS9.out.keep fun b hb' => by have h1 := hb'.1; have h2 := hb'.2; exact hb.block b (by omega))
    have HXS10 : Hid (Blk w10 w3.heap.size 26 #[.slice none 0 0, .slice A1s ps.length c1s]) := Lib.hid ((hb.block (w3.heap.size) (by omega)).trans HXS9.out)
    have HOm10 : Hid (Own OCod.modr 52 w4.heap.size w5.heap.size w10 (.slice Bm xs.length bm) xs) := Lib.hid (HOm9.out.keep fun b g1 g2 => hb.block b (by omega))
    have HOg10 : Hid (ShapeRo w5.heap.size w6.heap.size w10 (.slice a0g 0 0) (.slice A1g ps.length c1g) ⟨[], ps⟩) := Lib.hid (HOg9.out.keep fun b g1 g2 => hb.block b (by omega))
    have HXG10 : Hid (Blk w10 w6.heap.size 26 #[.slice a0g 0 0, .slice A1g ps.length c1g]) := Lib.hid ((hb.block (w6.heap.size) (by omega)).trans HXG9.out)
    have HE10 := Lib.hid (HE9.out.trans (hb.mono (by omega)))
    clear hb HOe
    have HC := Lib.hid (mark_modr w4.heap.size w5.heap.size 1 _ xs w10 HOm10.out (by omega) (by omega) HMS.out)
    go_wp2_with fail
    refine HC.out.mono ?_
    rintro e w11 ⟨rfl, hO, hW⟩
    clear HC
    have hz10 := hW.size
    have HV11 : Hid (Cod.modr.Sl F w11 (.slice A xs.length cap) xs) := Lib.hid (HV10.out.keep fun b hb' => by have h1 := HF0.out b hb'; exact hW.block b (by omega) (by omega))
    have HS11 : Hid (ShapeRd (fun b => w2.heap.size ≤ b ∧ b < w3.heap.size) w11 (.slice none 0 0) (.slice A1s ps.length c1s) ⟨[], ps⟩) := Lib.hid (HS10.out.keep fun b hb' => by have h1 := hb'.1; have h2 := hb'.2; exact hW.block b (by omega) (by omega))
    have HXS11 : Hid (Blk w11 w3.heap.size 26 #[.slice none 0 0, .slice A1s ps.length c1s]) := Lib.hid ((hW.block (w3.heap.size) (by omega) (by omega)).trans HXS10.out)
    have HOg11 : Hid (ShapeRo w5.heap.size w6.heap.size w11 (.slice a0g 0 0) (.slice A1g ps.length c1g) ⟨[], ps⟩) := Lib.hid (HOg10.out.keep fun b g1 g2 => hW.block b (by omega) (by omega))
    have HXG11 : Hid (Blk w11 w6.heap.size 26 #[.slice a0g 0 0, .slice A1g ps.length c1g]) := Lib.hid ((hW.block (w6.heap.size) (by omega) (by omega)).trans HXG10.out)
    have HE11 := Lib.hid (HE10.out.trans (Wrote.to_below hW (by omega) (by omega)))
    clear hW hO
    have hpos : ¬ (((markL mkModr xs 1).2 : Nat) : Int) < 0 := by omega
    have HC := Lib.hid (eqShaper_one (fun b => b < w11.heap.size) a0g none A1g A1s _ 0 _ 0 _ c1g _ c1s ⟨[], ps⟩ w11 (HOg11.out.rd.mono fun b hb => by have := hb.2; omega) (HS11.out.mono fun b hb => by have := hb.2; omega) fun b hb => hb)
    obtain ⟨p0, p1⟩ := HXG11.out.g2
    obtain ⟨q0, q1⟩ := HXS11.out.g2
    go_wp2_with fail
    refine HC.out.mono ?_
    rintro e w12 ⟨rfl, hb⟩
    clear HC p0 p1 q0 q1
    have hz11 := hb.size
    have HV12 : Hid (Cod.modr.Sl F w12 (.slice A xs.length cap) xs) := Lib.hid (HV11.out.keep fun b hb' => by have h1 := HF0.out b hb'; exact hb.block b (by omega))
    have HS12 : Hid (ShapeRd (fun b => w2.heap.size ≤ b ∧ b < w3.heap.size) w12 (.slice none 0 0) (.slice A1s ps.length c1s) ⟨[], ps⟩) := Lib.hid (HS11.out.keep fun b hb' => by have h1 := hb'.1; have h2 := hb'.2; exact hb.block b (by omega))
    have HXS12 : Hid (Blk w12 w3.heap.size 26 #[.slice none 0 0, .slice A1s ps.length c1s]) := Lib.hid ((hb.block (w3.heap.size) (by omega)).trans HXS11.out)
    have HOg12 : Hid (ShapeRo w5.heap.size w6.heap.size w12 (.slice a0g 0 0) (.slice A1g ps.length c1g) ⟨[], ps⟩) := Lib.hid (HOg11.out.keep fun b g1 g2 => hb.block b (by omega))
    have HXG12 : Hid (Blk w12 w6.heap.size 26 #[.slice a0g 0 0, .slice A1g ps.length c1g]) := Lib.hid ((hb.block (w6.heap.size) (by omega)).trans HXG11.out)
    have HE12 := Lib.hid (HE11.out.trans (hb.mono (by omega)))
    clear hb
    have HC := Lib.hid (markShaper_one w5.heap.size w6.heap.size 1 a0g A1g _ 0 _ c1g ⟨[], ps⟩ w12 HOg12.out (by omega) (by omega) HMF.out)
    obtain ⟨p0, p1⟩ := HXG12.out.g2
    go_wp2_with fail
    refine HC.out.mono ?_
    rintro e w13 ⟨rfl, hO, hW⟩
    clear HC p0 p1
    have hz12 := hW.size
    have HV13 : Hid (Cod.modr.Sl F w13 (.slice A xs.length cap) xs) := Lib.hid (HV12.out.keep fun b hb' => by have h1 := HF0.out b hb'; exact hW.block b (by omega) (by omega))
    have HS13 : Hid (ShapeRd (fun b => w2.heap.size ≤ b ∧ b < w3.heap.size) w13 (.slice none 0 0) (.slice A1s ps.length c1s) ⟨[], ps⟩) := Lib.hid (HS12.out.keep fun b hb' => by have h1 := hb'.1; have h2 := hb'.2; exact hW.block b (by omega) (by omega))
    have HXS13 : Hid (Blk w13 w3.heap.size 26 #[.slice none 0 0, .slice A1s ps.length c1s]) := Lib.hid ((hW.block (w3.heap.size) (by omega) (by omega)).trans HXS12.out)
    have HXG13 : Hid (Blk w13 w6.heap.size 26 #[.slice a0g 0 0, .slice A1g ps.length c1g]) := Lib.hid ((hW.block (w6.heap.size) (by omega) (by omega)).trans HXG12.out)
    have HE13 := Lib.hid (HE12.out.trans (Wrote.to_below hW (by omega) (by omega)))
    have HOg13 : Hid (ShapeRo w5.heap.size w6.heap.size w13 (.slice a0g 0 0) (.slice A1g ps.length c1g) (mkShaperT ⟨[], ps⟩ 1).1) := Lib.hid hO
    clear hW hO hpos
    have hpos : ¬ (((mkShaperT ⟨[], ps⟩ 1).2 : Nat) : Int) < 0 := by omega
    have HC := Lib.hid (heldShaper_one (fun b => b < w13.heap.size) 1 a0g A1g _ 0 _ c1g ⟨[], ps⟩ w13 (HOg13.out.rd.mono fun b hb => by have := hb.2; omega) (fun b hb => hb) (by omega) HMF.out)
    obtain ⟨p0, p1⟩ := HXG13.out.g2
    go_wp2_with fail
    refine HC.out.mono ?_
    rintro e w14 ⟨rfl, hb⟩
    clear HC p0 p1
    have hz13 := hb.size
    have HV14 : Hid (Cod.modr.Sl F w14 (.slice A xs.length cap) xs) := Lib.hid (HV13.out.keep fun b hb' => by have h1 := HF0.out b hb'; exact hb.block b (by omega))
    have HS14 : Hid (ShapeRd (fun b => w2.heap.size ≤ b ∧ b < w3.heap.size) w14 (.slice none 0 0) (.slice A1s ps.length c1s) ⟨[], ps⟩) := Lib.hid (HS13.out.keep fun b hb' => by have h1 := hb'.1; have h2 := hb'.2; exact hb.block b (by omega))
    have HXS14 : Hid (Blk w14 w3.heap.size 26 #[.slice none 0 0, .slice A1s ps.length c1s]) := Lib.hid ((hb.block (w3.heap.size) (by omega)).trans HXS13.out)
    have HXG14 : Hid (Blk w14 w6.heap.size 26 #[.slice a0g 0 0, .slice A1g ps.length c1g]) := Lib.hid ((hb.block (w6.heap.size) (by omega)).trans HXG13.out)
    have HOg14 : Hid (ShapeRo w5.heap.size w6.heap.size w14 (.slice a0g 0 0) (.slice A1g ps.length c1g) (mkShaperT ⟨[], ps⟩ 1).1) := Lib.hid (HOg13.out.keep fun b g1 g2 => hb.block b (by omega))
    have HE14 := Lib.hid (HE13.out.trans (hb.mono (by omega)))
    clear hb
    have HC := Lib.hid (to_modr F _ xs w14 HV14.out (fun b hb => by have := HF0.out b hb; omega) HS.out.1 HS.out.2)
    go_wp2_with fail
    refine HC.out.mono ?_
    rintro e w15 ⟨Bh, bh, rfl, hO, hb⟩
    clear HC
    have hz14 := hb.size
    have HV15 : Hid (Cod.modr.Sl F w15 (.slice A xs.length cap) xs) := Lib.hid (HV14.out.keep fun b hb' => by have h1 := HF0.out b hb'; exact hb.block b (by omega))
    have HS15 : Hid (ShapeRd (fun b => w2.heap.size ≤ b ∧ b < w3.heap.size) w15 (.slice none 0 0) (.slice A1s ps.length c1s) ⟨[], ps⟩) := Lib.hid (HS14.out.keep fun b hb' => by have h1 := hb'.1; have h2 := hb'.2; exact hb.block b (by omega))
    have HXS15 : Hid (Blk w15 w3.heap.size 26 #[.slice none 0 0, .slice A1s ps.length c1s]) := Lib.hid ((hb.block (w3.heap.size) (by omega)).trans HXS14.out)
    have HXG15 : Hid (Blk w15 w6.heap.size 26 #[.slice a0g 0 0, .slice A1g ps.length c1g]) := Lib.hid ((hb.block (w6.heap.size) (by omega)).trans HXG14.out)
    have HOg15 : Hid (ShapeRo w5.heap.size w6.heap.size w15 (.slice a0g 0 0) (.slice A1g ps.length c1g) (mkShaperT ⟨[], ps⟩ 1).1) := Lib.hid (HOg14.out.keep fun b g1 g2 => hb.block b (by omega))
    have HE15 := Lib.hid (HE14.out.trans (hb.mono (by omega)))
    have HOh := Lib.hid hO.sl
    clear hb hO
    have HC := Lib.hid (HIM.out _ _ w15 (HT.out.keep (below_keeps HE15.out HTF.out)) (fun b hb => by have := HTF.out b hb; have := HE15.out.size; omega) HOh.out (fun b hb => hb.2))
    go_wp2_with fail
    refine HC.out.mono ?_
    rintro e w16 ⟨a0h, A1h, c1h, rfl, hO, hb⟩
    clear HC
    have hz15 := hb.size
    have HV16 : Hid (Cod.modr.Sl F w16 (.slice A xs.length cap) xs) := Lib.hid (HV15.out.keep fun b hb' => by have h1 := HF0.out b hb'; exact hb.block b (by omega))
    have HS16 : Hid (ShapeRd (fun b => w2.heap.size ≤ b ∧ b < w3.heap.size) w16 (.slice none 0 0) (.slice A1s ps.length c1s) ⟨[], ps⟩) := Lib.hid (HS15.out.keep fun b hb' => by have h1 := hb'.1; have h2 := hb'.2; exact hb.block b (by omega))
    have HXS16 : Hid (Blk w16 w3.heap.size 26 #[.slice none 0 0, .slice A1s ps.length c1s]) := Lib.hid ((hb.block (w3.heap.size) (by omega)).trans HXS15.out)
    have HXG16 : Hid (Blk w16 w6.heap.size 26 #[.slice a0g 0 0, .slice A1g ps.length c1g]) := Lib.hid ((hb.block (w6.heap.size) (by omega)).trans HXG15.out)
    have HOg16 : Hid (ShapeRo w5.heap.size w6.heap.size w16 (.slice a0g 0 0) (.slice A1g ps.length c1g) (mkShaperT ⟨[], ps⟩ 1).1) := Lib.hid (HOg15.out.keep fun b g1 g2 => hb.block b (by omega))
    have HE16 := Lib.hid (HE15.out.trans (hb.mono (by omega)))
    have HOh16 : Hid (ShapeRo w15.heap.size w16.heap.size w16 (.slice a0h 0 0) (.slice A1h ps.length c1h) ⟨[], ps⟩) := Lib.hid hO
    clear hb hO HOh
    obtain ⟨w17, hw17⟩ : ∃ u, u = w16.alloc (.cells #[.slice a0h 0 0, .slice A1h ps.length c1h] 26) := ⟨_, rfl⟩
    have HXH17 := Lib.hid (show Blk w17 w16.heap.size 26 #[.slice a0h 0 0, .slice A1h ps.length c1h] by rw [hw17]; exact Blk.new _ _ _)
    have hb : Below w16.heap.size w16 w17 := by rw [hw17]; exact (Below.refl _ _).alloc (Nat.le_refl _) _
    have hy17 : w16.heap.size + 1 = w17.heap.size := by rw [hw17]; simp
    have Hw17 := Lib.hid hw17
    clear hw17
    have hz16 := hb.size
    have HV17 : Hid (Cod.modr.Sl F w17 (.slice A xs.length cap) xs) := Lib.hid (HV16.out.keep fun b hb' => by have h1 := HF0.out b hb'; exact hb.block b (by omega))
    have HS17 : Hid (ShapeRd (fun b => w2.heap.size ≤ b ∧ b < w3.heap.size) w17 (.slice none 0 0) (.slice A1s ps.length c1s) ⟨[], ps⟩) := Lib.hid (HS16.out.keep fun b hb' => by have h1 := hb'.1; have h2 := hb'.2; exact hb.block b (by omega))
    have HXS17 : Hid (Blk w17 w3.heap.size 26 #[.slice none 0 0, .slice A1s ps.length c1s]) := Lib.hid ((hb.block (w3.heap.size) (by omega)).trans HXS16.out)
    have HXG17 : Hid (Blk w17 w6.heap.size 26 #[.slice a0g 0 0, .slice A1g ps.length c1g]) := Lib.hid ((hb.block (w6.heap.size) (by omega)).trans HXG16.out)
    have HOg17 : Hid (ShapeRo w5.heap.size w6.heap.size w17 (.slice a0g 0 0) (.slice A1g ps.length c1g) (mkShaperT ⟨[], ps⟩ 1).1) := Lib.hid (HOg16.out.keep fun b g1 g2 => hb.block b (by omega))
    have HOh17 : Hid (ShapeRo w15.heap.size w16.heap.size w17 (.slice a0h 0 0) (.slice A1h ps.length c1h) ⟨[], ps⟩) := Lib.hid (HOh16.out.keep fun b g1 g2 => hb.block b (by omega))
    have HE17 := Lib.hid (HE16.out.trans (hb.mono (by omega)))
    clear hb
    have HC := Lib.hid (eqShaper_one (fun b => b < w17.heap.size) a0h none A1h A1s _ 0 _ 0 _ c1h _ c1s ⟨[], ps⟩ w17 (HOh17.out.rd.mono fun b hb => by have := hb.2; omega) (HS17.out.mono fun b hb => by have := hb.2; omega) fun b hb => hb)
    obtain ⟨q0, q1⟩ := HXS16.out.g2
    have hbd1 : w3.heap.size < w16.heap.size := by omega
    go_wp2_with fail
    rw [← Hw17.out]
    refine HC.out.mono ?_
    rintro e w18 ⟨rfl, hb⟩
    clear HC q0 q1 hbd1
    have hz17 := hb.size
    have HV18 : Hid (Cod.modr.Sl F w18 (.slice A xs.length cap) xs) := Lib.hid (HV17.out.keep fun b hb' => by have h1 := HF0.out b hb'; exact hb.block b (by omega))
    have HS18 : Hid (ShapeRd (fun b => w2.heap.size ≤ b ∧ b < w3.heap.size) w18 (.slice none 0 0) (.slice A1s ps.length c1s) ⟨[], ps⟩) := Lib.hid (HS17.out.keep fun b hb' => by have h1 := hb'.1; have h2 := hb'.2; exact hb.block b (by omega))
    have HXS18 : Hid (Blk w18 w3.heap.size 26 #[.slice none 0 0, .slice A1s ps.length c1s]) := Lib.hid ((hb.block (w3.heap.size) (by omega)).trans HXS17.out)
    have HXG18 : Hid (Blk w18 w6.heap.size 26 #[.slice a0g 0 0, .slice A1g ps.length c1g]) := Lib.hid ((hb.block (w6.heap.size) (by omega)).trans HXG17.out)
    have HOg18 : Hid (ShapeRo w5.heap.size w6.heap.size w18 (.slice a0g 0 0) (.slice A1g ps.length c1g) (mkShaperT ⟨[], ps⟩ 1).1) := Lib.hid (HOg17.out.keep fun b g1 g2 => hb.block b (by omega))
    have HOh18 : Hid (ShapeRo w15.heap.size w16.heap.size w18 (.slice a0h 0 0) (.slice A1h ps.length c1h) ⟨[], ps⟩) := Lib.hid (HOh17.out.keep fun b g1 g2 => hb.block b (by omega))
    have HXH18 : Hid (Blk w18 w16.heap.size 26 #[.slice a0h 0 0, .slice A1h ps.length c1h]) := Lib.hid ((hb.block (w16.heap.size) (by omega)).trans HXH17.out)
    have HE18 := Lib.hid (HE17.out.trans (hb.mono (by omega)))
    clear hb
    have HC := Lib.hid (heldShaper_one (fun b => b < w18.heap.size) 1 a0g A1g _ 0 _ c1g ⟨[], ps⟩ w18 (HOg18.out.rd.mono fun b hb => by have := hb.2; omega) (fun b hb => hb) (by omega) HMF.out)
    obtain ⟨p0, p1⟩ := HXG18.out.g2
    go_wp2_with fail
    refine HC.out.mono ?_
    rintro e w19 ⟨rfl, hb⟩
    clear HC p0 p1
    have hz18 := hb.size
    have HV19 : Hid (Cod.modr.Sl F w19 (.slice A xs.length cap) xs) := Lib.hid (HV18.out.keep fun b hb' => by have h1 := HF0.out b hb'; exact hb.block b (by omega))
    have HS19 : Hid (ShapeRd (fun b => w2.heap.size ≤ b ∧ b < w3.heap.size) w19 (.slice none 0 0) (.slice A1s ps.length c1s) ⟨[], ps⟩) := Lib.hid (HS18.out.keep fun b hb' => by have h1 := hb'.1; have h2 := hb'.2; exact hb.block b (by omega))
    have HXS19 : Hid (Blk w19 w3.heap.size 26 #[.slice none 0 0, .slice A1s ps.length c1s]) := Lib.hid ((hb.block (w3.heap.size) (by omega)).trans HXS18.out)
    have HXG19 : Hid (Blk w19 w6.heap.size 26 #[.slice a0g 0 0, .slice A1g ps.length c1g]) := Lib.hid ((hb.block (w6.heap.size) (by omega)).trans HXG18.out)
    have HOg19 : Hid (ShapeRo w5.heap.size w6.heap.size w19 (.slice a0g 0 0) (.slice A1g ps.length c1g) (mkShaperT ⟨[], ps⟩ 1).1) := Lib.hid (HOg18.out.keep fun b g1 g2 => hb.block b (by omega))
    have HOh19 : Hid (ShapeRo w15.heap.size w16.heap.size w19 (.slice a0h 0 0) (.slice A1h ps.length c1h) ⟨[], ps⟩) := Lib.hid (HOh18.out.keep fun b g1 g2 => hb.block b (by omega))
    have HXH19 : Hid (Blk w19 w16.heap.size 26 #[.slice a0h 0 0, .slice A1h ps.length c1h]) := Lib.hid ((hb.block (w16.heap.size) (by omega)).trans HXH18.out)
    have HE19 := Lib.hid (HE18.out.trans (hb.mono (by omega)))
    clear hb
    go_wp2_with fail
    go_ret
    exact ⟨rfl, HE19.out⟩

/-- What the row lists. -/
def laidSf : List (String × DataW Unit) := Rows.fnExactShapeFirstRow.laid
set_option maxRecDepth 100000 in
theorem door_metSf (os : Os) (args : Array Value) : laidMetH Tryd.prog laidSf ((World.doorLaid Tryd.prog 400 os).forCall (fun _ _ => 0) ⟨#[], args, []⟩).memory :=
  laidMetH_of_parts3 (fuel := 8) (laidMet_of_run' 8 (by kernel_rfl) (by kernel_rfl)) (by kernel_rfl) (by kernel_rfl)
set_option maxRecDepth 100000 in
theorem tab_of_laidSf {W : World} (h : laidMetH Tryd.prog laidSf W) : ∃ v, ITab (Old W) W v := by
  rw [MakeChecks.laidMetH_plain _ _ _ (by kernel_rfl)] at h
  exact tab_of_reads (Lib.laidMet.reads h (List.mem_cons_self ..))

set_option maxRecDepth 100000 in
theorem liftShapeFirst (os : Os) (started : os.Started) (H : Type) (enc : TypeId × Value → H) :
    ReturnsInHanded {} Tryd.checked os 3 .any (fun w args => (Rows.fnExactShapeFirstSpec.pre enc Tryd.prog Tryd.f3 [] false w args ∧ laidMetH Tryd.prog laidSf w) ∧ sizedMet enc Tryd.prog Tryd.f3 (OpenSpec.ofChange Rows.fnExactShapeFirstSpec) false w args)
      (Rows.fnExactShapeFirstSpec.post enc Tryd.prog Tryd.f3 false true false false) := by
  refine returnsInHanded_of_change_and (C := Tryd.checked) (X := fun w _ => laidMetH Tryd.prog laidSf w) (fun _ _ _ hh h => h.of_heap hh) own_ started (by kernel_rfl) Tryd.func3
    (ChangeSpec.witness_shaped (enc := enc) (C := Tryd.checked) (os := os) (X := fun w _ => laidMetH Tryd.prog laidSf w) false (World.doorLaid Tryd.prog 400 os) #[.slice none 0 0, .int .i64 0, .int .i64 0] 8 rfl (World.shaped_of_RefB (by kernel_rfl) (by kernel_rfl)) (by kernel_rfl) (by kernel_rfl) (by kernel_rfl) (door_metSf os _)) ?_
  intro W base args ds gs before hval0 hW _ _ hL _
  obtain ⟨tv, htab⟩ := tab_of_laidSf hL
  have hval : ∀ (j : Nat) t v, Tryd.f3.params[j]? = some t → args[j]? = some v → Value.okWide Tryd.prog W .any base t v := hval0
  have hW' := hW
  obtain ⟨p, q, hA0, hV, rfl, _, _⟩ := hW
  have hA : DataW.TrodAll enc Tryd.prog W 0 (fun _ => true) true Tryd.f3.params.toList args.toList ds p := hA0
  rw [Tryd.params3] at hA hval
  obtain ⟨v0, v1, v2, d0, d1, d2, p0, p1, p2, rfl, rfl, rfl, h0, h1, h2⟩ := trodAll_three hA
  obtain ⟨m, rfl, rfl, rfl, u1⟩ := open_int Tryd.underlying3 (hval 1 3 v1 rfl rfl) h1
  obtain ⟨f, rfl, rfl, rfl, u2⟩ := open_int Tryd.underlying3 (hval 2 3 v2 rfl rfl) h2
  obtain ⟨xs, hxs⟩ := open_shelf (hval 0 22 v0 rfl rfl) h0
  have hV0 := hV
  obtain ⟨_, _, _, _, dv, _, rfl, _⟩ := trodVars_one hV0
  clear hA0 hval0
  have hlt0 : ∀ x ∈ p0, x.block < W.heap.size := fun x hx => by simpa using hW'.lt x (by simp [hx])
  refine (lawShapeFirst (Old W) tv (Old W) v0 xs m f W htab (fun b hb => hb) hxs (fun b hb => hb) (wf_I64 u1) (wf_I64 u2)).mono fun e W' ⟨he, hn⟩ => ?_
  subst he
  refine ⟨_, rfl, _, _, _, [], p0 ++ ([] ++ []), q, hW', ?_, ?_, Below.trodVars laidOut_ hn (by kernel_rfl) hV, hn.frame _, fun h => by cases h⟩
  · exact trodAll_mk1 (shut_bool Tryd.underlying4 true)
  · exact trodAll_mk3 (Below.trod laidOut_ (by kernel_rfl) (of_decide_eq_true (by kernel_rfl)) h0 hn hlt0) (shut_int Tryd.underlying3 u1) (shut_int Tryd.underlying3 u2)

theorem ShapeFirst_holds : Rows.FnExactShapeFirstSaid :=
  OpenClaim.holds_of_wide 3 Tryd.f3 rfl rfl rfl rfl rfl rfl rfl ⟨rfl, rfl, rfl, rfl, rfl⟩ rfl rfl rfl rfl rfl (by kernel_rfl) Tryd.func3 (by kernel_rfl)
    (of_decide_eq_true (by kernel_rfl)) (by unfold Func.isWrapper; first | (rw [if_pos (by decide +kernel)]; kernel_rfl) | (rw [if_neg (by decide +kernel)]; exact ⟨rfl, rfl⟩))
    (fun os started H enc _ => liftShapeFirst os started H enc)
theorem ShapeFirst_card : Rows.FnExactShapeFirstCardSaid :=
  Claim7.holds_tied_plain_at .later [] [.widerDeep] true (true, "b4a4b62d8147ed31d9b850f46bdec82352077f7f04506a97395d5a175098ef33") false
    ShapeFirst_holds (fun _ h => by cases h) (by kernel_rfl) (fun _ h => by cases h) fnExactShapeFirst_row_tie rfl ⟨rfl, rfl⟩ (by kernel_rfl) rfl
    (fun f fn hf hfn => by
      obtain rfl : f = 3 := Option.some.inj ((show Tryd.prog.funcNamed Rows.fnExactShapeFirstRow.func = some 3 by kernel_rfl).symm.trans hf) |>.symm
      obtain rfl : fn = Tryd.f3 := (Option.some.inj (Tryd.func3.symm.trans hfn)).symm
      exact ⟨by kernel_rfl, fun j t ht => by
        rw [Tryd.params3] at ht
        have hm : t ∈ [22, 3, 3] := by simpa using Array.mem_of_getElem? ht
        have hall : ([22, 3, 3].all fun u => !Tryd.prog.wantsStandIn u) = true := by kernel_rfl
        exact (show Tryd.prog.wantsStandIn t = false by simpa using List.all_eq_true.1 hall t hm)⟩)
    (by kernel_rfl)
end Go.Proofs.YtmomdflfjcboiaaDoor
