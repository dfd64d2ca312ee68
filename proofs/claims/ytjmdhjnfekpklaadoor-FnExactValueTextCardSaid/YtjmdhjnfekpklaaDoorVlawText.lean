/- Whatever the arguments, the exact law of ValueText answers true: the program's ValueText is the model's, and leaves its arguments alone. -/
import Derived.Test.YtjmdhjnfekpklaaDoorVlk
import Derived.Test.YtjmdhjnfekpklaaDoorVuc
import Derived.Lib.LaidTab
import Derived.LaidMore
import Derived.Stop.Joined
import Derived.Stop.LaidErr
import Derived.LaidByTextLater
import Derived.SevenTiedAt
import Derived.ProofKit
import Derived.OpenShut
import Derived.Test.YtjmdhjnfekpklaaDoorTie
import Derived.Test.YtjmdhjnfekpklaaDoorCards
import Derived.Deep.DeepCutAuto
namespace Go.Proofs.YtjmdhjnfekpklaaDoor
open Go.ChangeShapes Go.WideShapes Go.ChangeAt Go.RowKit Go.Deep
open Go.ChangeMaps (open_string shut_string)

/-- The table of powers of ten, further on. -/
theorem tab_up {P : Program} {B B' : Nat} {w w' : World} {name : String} {k : IntKind} {zs : List Int} (h : Lib.TabBelow P B w name k zs) (hb : Below B w w') (hB : B ≤ B') : Lib.TabBelow P B' w' name k zs := fun w'' h'' => h w'' (hb.trans (h''.mono hB))

set_option maxRecDepth 100000 in
set_option maxHeartbeats 4000000 in
theorem lawValueText {d : Nat} (F : Nat → Prop) (kv : Value) (ks : Ks) (A B : Option Addr) (n m cA cB : Nat) (v : Val) (w : World) (h : Cod.recs.Sl F w kv ks) (hv : VRd (Cod.val d) F w (.slice A n cA) (.slice B m cB) v) (hF : ∀ b, F b → b < w.heap.size) (htab : Lib.TabBelow Tryd.prog w.heap.size w tabN .u64 Lib.pow10Tab) :
    Calls Tryd.prog 3 #[kv, .agg #[.string v.ty, .int .i64 v.n, .slice A n cA, .slice B m cB]] w fun e w' => e = .returned (.bool true) ∧ Below w.heap.size w w' := by
  have HTab := Lib.hid htab
  have HS := Lib.hid h
  have HV := Lib.hid hv
  obtain ⟨Ak, ck, rfl, _⟩ := h
  clear hv htab
  have hk1 : ∀ b, F b → (w.alloc (.cells #[.string v.ty, .int .i64 v.n, .slice A n cA, .slice B m cB] 26)).heap[b]? = w.heap[b]? := fun b hb => Below.heap_alloc _ _ _ (hF b hb)
  have HV1 := Lib.hid (HV.out.keep hk1)
  have HS1 := Lib.hid (HS.out.keep hk1)
  have HF1 := Lib.hid (show ∀ b, F b → b < (w.alloc (.cells #[.string v.ty, .int .i64 v.n, .slice A n cA, .slice B m cB] 26)).heap.size from fun b hb => by have := hF b hb; simp; omega)
  have HB := Lib.hid (Blk.new w 26 #[.string v.ty, .int .i64 v.n, .slice A n cA, .slice B m cB])
  clear hk1
  by_cases hz : szS (szS szRec) ks 1048576 < 0
  · go_enter Tryd.func3, Tryd.ntmps3
    go_wp2_with (go_at_call 4; refine (szRecordSS_any F _ ks _ _ HS1.out HF1.out (by omega) (by omega)).mono ?_; rintro e w1 ⟨rfl, hb1⟩)
    go_ret
    exact ⟨rfl, ((Below.refl _ _).alloc (Nat.le_refl _) _).trans (hb1.mono (by simp))⟩
  · have hle := szS_le (szS_le szRec_le) ks 1048576 (by omega)
    obtain ⟨hn, hm⟩ := sz_kinds (ks := ks) (by omega)
    have Hn := Lib.hid hn
    have Hm := Lib.hid hm
    clear hm hn
    by_cases hz2 : szOf (szVal d) v (szS (szS szRec) ks 1048576) < 0
    · go_enter Tryd.func3, Tryd.ntmps3
      go_wp2_with fail
      refine (szRecordSS_any F _ ks _ _ HS1.out HF1.out (by omega) (by omega)).mono ?_
      rintro e w1 ⟨rfl, hb1⟩
      obtain ⟨x0, x1, x2, x3⟩ := (HB.out.below hb1 (by simp)).c2
      have HV2 := Lib.hid (HV1.out.keep (below_keeps hb1 HF1.out))
      have HF2 := Lib.hid (show ∀ b, F b → b < w1.heap.size from fun b hb => Nat.lt_of_lt_of_le (HF1.out b hb) hb1.size)
      have HE := Lib.hid (((Below.refl w.heap.size w).alloc (Nat.le_refl _) (.cells #[.string v.ty, .int .i64 v.n, .slice A n cA, .slice B m cB] 26)).trans (hb1.mono (by simp)))
      clear hb1
      go_wp2_with (go_at_call 5; refine (szValue_any d F A B n m cA cB v _ w1 HV2.out HF2.out (by omega) (by omega)).mono ?_; rintro e w2 ⟨rfl, hb2⟩)
      go_ret
      exact ⟨rfl, HE.out.trans (hb2.mono HE.out.size)⟩
    · have HSz := Lib.hid (show sizeOf' (fun _ => 1) (sizeV d) v ≤ 2000000 from size_few (d := d) (by omega) (Int.not_lt.1 hz2))
      have HSm := Lib.hid (sz_val (d := d) (v := v) (by omega) (by omega) (Int.not_lt.1 hz2))
      go_enter Tryd.func3, Tryd.ntmps3
      go_wp2_with fail
      refine (szRecordSS_any F _ ks _ _ HS1.out HF1.out (by omega) (by omega)).mono ?_
      rintro e w1 ⟨rfl, hb1⟩
      have HB1 := Lib.hid (HB.out.below hb1 (by simp))
      obtain ⟨x0, x1, x2, x3⟩ := HB1.out.c2
      have HV2 := Lib.hid (HV1.out.keep (below_keeps hb1 HF1.out))
      have HS2 := Lib.hid (HS1.out.keep (below_keeps hb1 HF1.out))
      have HF2 := Lib.hid (show ∀ b, F b → b < w1.heap.size from fun b hb => Nat.lt_of_lt_of_le (HF1.out b hb) hb1.size)
      have HE := Lib.hid (((Below.refl w.heap.size w).alloc (Nat.le_refl _) (.cells #[.string v.ty, .int .i64 v.n, .slice A n cA, .slice B m cB] 26)).trans (hb1.mono (by simp)))
      have hs1 : w.heap.size + 1 ≤ w1.heap.size := by simpa using hb1.size
      clear hb1
      go_wp2_with fail
      refine (szValue_any d F A B n m cA cB v _ w1 HV2.out HF2.out (by omega) (by omega)).mono ?_
      rintro e w2 ⟨rfl, hb2⟩
      have HB2 := Lib.hid (HB1.out.below hb2 (by omega))
      clear x0 x1 x2 x3
      have HV3 := Lib.hid (HV2.out.keep (below_keeps hb2 HF2.out))
      have HS3 := Lib.hid (HS2.out.keep (below_keeps hb2 HF2.out))
      have HF3 := Lib.hid (show ∀ b, F b → b < w2.heap.size from fun b hb => Nat.lt_of_lt_of_le (HF2.out b hb) hb2.size)
      have HE2 := Lib.hid (HE.out.trans (hb2.mono HE.out.size))
      have hs2 := Nat.le_trans hs1 hb2.size
      clear hb2 HV HV1 HV2 HS1 HS2 HF1 HF2 HB HB1 HE hs1
      go_upto_region 8 with fail
      have HF3d := Lib.hid (show ∀ b, F b → b < w2.drew.heap.size from HF3.out)
      have HB2d := Lib.hid (show Blk w2.drew w.heap.size 26 #[.string v.ty, .int .i64 v.n, .slice A n cA, .slice B m cB] from HB2.out)
      have hgd : w.heap.size < w2.drew.heap.size := hs2
      obtain ⟨x0, x1, x2, x3⟩ := HB2.out.c2
      go_cut [6] from 20 to 24 (fun s6 wx => s6 = .string (textVal ks d v) ∧ Hid (Below w2.heap.size w2 wx))
      case first =>
        have HCk0 := Lib.hid (toRecordSS_any F _ ks w2.drew HS3.out.drew HF3d.out Hn.out Hm.out)
        have HCv0 := Lib.hid (toValue_any d F A B n m cA cB v w2.drew HV3.out.drew HF3d.out HSm.out)
        go_region_with (first
          | (go_at_call 7; (with_reducible refine HCk0.out.mono ?_); rintro e wk ⟨Ak1, ck1, rfl, hMk⟩; go_must (have HMk := Lib.hid hMk; obtain ⟨y0, y1, y2, y3⟩ := (HB2d.out.below hMk.2 hgd).c2; have HCv1 := Lib.hid (toValue_any d F A B n m cA cB v wk (VRd.keep (w := w2.drew) (below_keeps HMk.out.2 HF3d.out) HV3.out.drew) (fun b hb => Nat.lt_of_lt_of_le (HF3d.out b hb) HMk.out.2.size) HSm.out); clear hMk))
          | (go_at_call 8; (with_reducible refine HCv0.out.mono ?_); rintro e wv ⟨A1, cA1, B1, cB1, rfl, hMv⟩; go_must (have HMv := Lib.hid hMv; have HCk1 := Lib.hid (toRecordSS_any F _ ks wv (Cod.Sl.keep (w := w2.drew) (below_keeps HMv.out.2 HF3d.out) HS3.out.drew) (fun b hb => Nat.lt_of_lt_of_le (HF3d.out b hb) HMv.out.2.size) Hn.out Hm.out); clear hMv))
          | (go_at_call 8; (with_reducible refine HCv1.out.mono ?_); rintro e wv ⟨A1, cA1, B1, cB1, rfl, hMv⟩; go_must (have HMv := Lib.hid (hMv.back HMk.out.2); have HMk1 := Lib.hid (HMk.out.go hMv.2); have HCs := Lib.hid (specValueText_any (d := d) (Fresh w2.drew wv) _ A1 B1 _ _ cA1 cB1 v wv HMk1.out.1 HMv.out.1 (fun b hb => hb.2) HSz.out); have HQ0 := Lib.hid HMv.out.2; clear hMv))
          | (go_at_call 7; (with_reducible refine HCk1.out.mono ?_); rintro e wk ⟨Ak1, ck1, rfl, hMk⟩; go_must (have HMk := Lib.hid (hMk.back HMv.out.2); have HMv1 := Lib.hid (HMv.out.go hMk.2); have HCs := Lib.hid (specValueText_any (d := d) (Fresh w2.drew wk) _ A1 B1 _ _ cA1 cB1 v wk HMk.out.1 HMv1.out.1 (fun b hb => hb.2) HSz.out); have HQ0 := Lib.hid HMk.out.2; clear hMk))
          | (go_at_call 6; (with_reducible refine HCs.out.mono ?_); rintro e ws ⟨rfl, hs⟩; go_must (have HQ := Lib.hid (HQ0.out.trans (hs.mono HQ0.out.size)); clear hs)))
        all_goals
          go_wp2
          go_meet
          exact ⟨rfl, (below_draw w2).trans HQ.out⟩
      case rest =>
        obtain ⟨rfl, HQ⟩ := hcut
        clear x0 x1 x2 x3
        have HB3 := Lib.hid (HB2.out.below HQ.out hs2)
        have HV4 := Lib.hid (HV3.out.keep (below_keeps HQ.out HF3.out))
        have HS4 := Lib.hid (HS3.out.keep (below_keeps HQ.out HF3.out))
        have HF4 := Lib.hid (show ∀ b, F b → b < wc.heap.size from fun b hb => Nat.lt_of_lt_of_le (HF3.out b hb) HQ.out.size)
        have HE3 := Lib.hid (HE2.out.trans (HQ.out.mono HE2.out.size))
        have hs3 := Nat.le_trans hs2 HQ.out.size
        clear HV3 HS3 HF3 HE2 HQ HB2 HB2d HF3d hs2 hgd
        go_wp2_with fail
        refine (toRecordSS_any F _ ks wc HS4.out HF4.out Hn.out Hm.out).mono ?_
        rintro e w4 ⟨A4, c4, rfl, hM4⟩
        have HM4 := Lib.hid hM4
        have HB4 := Lib.hid (HB3.out.below hM4.2 hs3)
        have HV5 := Lib.hid (HV4.out.keep (below_keeps hM4.2 HF4.out))
        have HS5 := Lib.hid (HS4.out.keep (below_keeps hM4.2 HF4.out))
        have HF5 := Lib.hid (show ∀ b, F b → b < w4.heap.size from fun b hb => Nat.lt_of_lt_of_le (HF4.out b hb) hM4.2.size)
        have HE4 := Lib.hid (HE3.out.trans (hM4.2.mono HE3.out.size))
        have hs4 := Nat.le_trans hs3 hM4.2.size
        obtain ⟨x0, x1, x2, x3⟩ := HB4.out.c2
        clear hM4 HV4 HS4 HF4 HE3 HB3
        go_wp2_with fail
        refine (toValue_any d F A B n m cA cB v w4 HV5.out HF5.out HSm.out).mono ?_
        rintro e w5 ⟨A5, cA5, B5, cB5, rfl, hM5⟩
        have HB5 := Lib.hid (HB4.out.below hM5.2 hs4)
        have HM5k := Lib.hid (HM4.out.go hM5.2)
        have HM5v := Lib.hid (hM5.back HM4.out.2)
        have HV6 := Lib.hid (HV5.out.keep (below_keeps hM5.2 HF5.out))
        have HS6 := Lib.hid (HS5.out.keep (below_keeps hM5.2 HF5.out))
        have HF6 := Lib.hid (show ∀ b, F b → b < w5.heap.size from fun b hb => Nat.lt_of_lt_of_le (HF5.out b hb) hM5.2.size)
        have HE5 := Lib.hid (HE4.out.trans (hM5.2.mono HE4.out.size))
        have hs5 := Nat.le_trans hs4 hM5.2.size
        clear hM5 HV5 HS5 HF5 HE4 HB4 HM4 x0 x1 x2 x3
        have HX := Lib.hid (Blk.new w5 34 #[.string v.ty, .int .i64 v.n, .slice A5 v.parts.length cA5, .slice B5 v.path.length cB5])
        have HA := Lib.hid ((Below.refl w5.heap.size w5).alloc (Nat.le_refl _) (.cells #[.string v.ty, .int .i64 v.n, .slice A5 v.parts.length cA5, .slice B5 v.path.length cB5] 34))
        have hwa : (w5.alloc (.cells #[.string v.ty, .int .i64 v.n, .slice A5 v.parts.length cA5, .slice B5 v.path.length cB5] 34)).heap.size = w5.heap.size + 1 := by simp
        have Hwa := Lib.hid hwa
        clear hwa
        go_wp2_with fail
        refine (implValueText_any (d := d) (Fresh wc (w5.alloc (.cells #[.string v.ty, .int .i64 v.n, .slice A5 v.parts.length cA5, .slice B5 v.path.length cB5] 34))) _ A5 B5 _ _ cA5 cB5 v _ (HM5k.out.go HA.out).1 (HM5v.out.go HA.out).1 (fun b hb => hb.2) HSz.out (tab_up HTab.out (HE5.out.trans (HA.out.mono HE5.out.size)) (HE5.out.trans (HA.out.mono HE5.out.size)).size)).mono ?_
        rintro e w6 ⟨rfl, hb6⟩
        have HA6 := Lib.hid (HA.out.trans (hb6.mono HA.out.size))
        have HX6 := Lib.hid (HX.out.below hb6 (by rw [Hwa.out]; omega))
        have hs56 : w5.heap.size < w6.heap.size := HX6.out.lt
        clear hb6 HA HX Hwa
        have HB6 := Lib.hid (HB5.out.below HA6.out hs5)
        have HM6k := Lib.hid (HM5k.out.go HA6.out)
        have HM6v := Lib.hid (HM5v.out.go HA6.out)
        have HV7 := Lib.hid (HV6.out.keep (below_keeps HA6.out HF6.out))
        have HS7 := Lib.hid (HS6.out.keep (below_keeps HA6.out HF6.out))
        have HF7 := Lib.hid (show ∀ b, F b → b < w6.heap.size from fun b hb => Nat.lt_of_lt_of_le (HF6.out b hb) HA6.out.size)
        have HE6 := Lib.hid (HE5.out.trans (HA6.out.mono HE5.out.size))
        have hs6 := Nat.le_trans hs5 HA6.out.size
        clear HA6 HB5 HM5k HM5v HV6 HS6 HF6 HE5 hs5
        go_wp2_with fail
        refine (toRecordSS_any F _ ks w6 HS7.out HF7.out Hn.out Hm.out).mono ?_
        rintro e w7 ⟨A7, c7, rfl, hM7⟩
        have HM7 := Lib.hid (hM7.back HM6k.out.2)
        have HM7k := Lib.hid (HM6k.out.go hM7.2)
        have HM7v := Lib.hid (HM6v.out.go hM7.2)
        have HX7 := Lib.hid (HX6.out.below hM7.2 hs56)
        have HB7 := Lib.hid (HB6.out.below hM7.2 hs6)
        have HV8 := Lib.hid (HV7.out.keep (below_keeps hM7.2 HF7.out))
        have HF8 := Lib.hid (show ∀ b, F b → b < w7.heap.size from fun b hb => Nat.lt_of_lt_of_le (HF7.out b hb) hM7.2.size)
        have HE7 := Lib.hid (HE6.out.trans (hM7.2.mono HE6.out.size))
        have hs7 := Nat.le_trans hs6 hM7.2.size
        have hs57 := Nat.lt_of_lt_of_le hs56 hM7.2.size
        clear hM7 HB6 HM6k HM6v HV7 HS7 HF7 HE6 hs6 hs56 HX6
        go_wp2_with fail
        refine (eqRecordSS_any (Fresh wc w7) _ _ ks w7 HM7k.out.1 HM7.out.1 (fun b hb => hb.2)).mono ?_
        rintro e w8 ⟨rfl, hb8⟩
        have HM8v := Lib.hid (HM7v.out.go hb8)
        have HX8 := Lib.hid (HX7.out.below hb8 hs57)
        have HB8 := Lib.hid (HB7.out.below hb8 hs7)
        have HV9 := Lib.hid (HV8.out.keep (below_keeps hb8 HF8.out))
        have HF9 := Lib.hid (show ∀ b, F b → b < w8.heap.size from fun b hb => Nat.lt_of_lt_of_le (HF8.out b hb) hb8.size)
        have HE8 := Lib.hid (HE7.out.trans (hb8.mono HE7.out.size))
        have hs8 := Nat.le_trans hs7 hb8.size
        have hs58 := Nat.lt_of_lt_of_le hs57 hb8.size
        clear hb8 HB7 HM7 HM7k HM7v HV8 HF8 HE7 hs7 hs57 HX7
        have HXd := Lib.hid (show Blk w8.drew w5.heap.size _ _ from HX8.out)
        have hs5d : w5.heap.size < w8.drew.heap.size := hs58
        have HMd := Lib.hid (HM8v.out.go (below_draw w8))
        have HEd := Lib.hid (HE8.out.drew)
        have HFd := Lib.hid (show ∀ b, F b → b < w8.drew.heap.size from HF9.out)
        have HCv := Lib.hid (toValue_any d F A B n m cA cB v w8.drew HV9.out.drew HFd.out HSm.out)
        obtain ⟨x0, x1, x2, x3⟩ := HB8.out.c2
        obtain ⟨y0, y1, y2, y3⟩ := HX8.out.c2
        clear HX8 HM8v HE8 HF9
        go_wp2_with fail
        go_region_with (first
          | (go_at_call 8; (with_reducible refine HCv.out.mono ?_); rintro e wv ⟨A9, cA9, B9, cB9, rfl, hMv⟩; go_must (obtain ⟨z0, z1, z2, z3⟩ := (HXd.out.below hMv.2 hs5d).c2; have HCe := Lib.hid (eqValue_any d (Fresh wc wv) (.slice A5 v.parts.length cA5) (.slice B5 v.path.length cB5) (.slice A9 v.parts.length cA9) (.slice B9 v.path.length cB9) v wv (HMd.out.go hMv.2).1 (hMv.back HMd.out.2).1 (fun b hb => hb.2)); have HQ0 := Lib.hid (HEd.out.trans (hMv.2.mono HEd.out.size)); clear hMv))
          | (go_at_call 11; (with_reducible refine HCe.out.mono ?_); rintro e we ⟨rfl, hs⟩; go_must (have HQ := Lib.hid (HQ0.out.trans (hs.mono HQ0.out.size)); clear hs)))
        all_goals
          go_wp2
          go_ret
          exact ⟨rfl, HQ.out⟩

/-- What the row lists. -/
def laid3 : List (String × DataW Unit) := Rows.fnExactValueTextRow.laid
set_option maxRecDepth 100000 in
theorem door_met (os : Os) (args : Array Value) : laidMetH Tryd.prog laid3 ((World.doorLaid Tryd.prog 400 os).forCall (fun _ _ => 0) ⟨#[], args, []⟩).memory :=
  laidMetH_of_parts3 (fuel := 8) (laidMet_of_run' 8 (by kernel_rfl) (by kernel_rfl)) (by kernel_rfl) (by kernel_rfl)
set_option maxRecDepth 100000 in
theorem tab_of_laid {W : World} (h : laidMetH Tryd.prog laid3 W) : Lib.TabBelow Tryd.prog W.heap.size W tabN .u64 Lib.pow10Tab := by
  rw [MakeChecks.laidMetH_plain _ _ _ (by kernel_rfl)] at h
  refine Lib.tabBelow_of_tabIs ?_
  have h2 := laidMet.tail (laidMet.tail h)
  exact Lib.tabIs_of_head (g := 0) (t := 97) (e := 84) (n := 20) (by kernel_rfl) (by kernel_rfl) Tryd.underlying97 Tryd.underlying84 (by kernel_rfl) (by kernel_rfl) h2

set_option maxRecDepth 100000 in
theorem liftValueText (os : Os) (started : os.Started) (H : Type) (enc : TypeId × Value → H) :
    ReturnsInHanded {} Tryd.checked os 3 .any (fun w args => (Rows.fnExactValueTextSpec.pre enc Tryd.prog Tryd.f3 [] false w args ∧ laidMetH Tryd.prog laid3 w) ∧ sizedMet enc Tryd.prog Tryd.f3 (OpenSpec.ofChange Rows.fnExactValueTextSpec) false w args)
      (Rows.fnExactValueTextSpec.post enc Tryd.prog Tryd.f3 false true false false) := by
  refine returnsInHanded_of_change_and (C := Tryd.checked) (X := fun w _ => laidMetH Tryd.prog laid3 w) (fun _ _ _ hh h => h.of_heap hh) own_ started (by kernel_rfl) Tryd.func3
    (ChangeSpec.witness_shaped (enc := enc) (C := Tryd.checked) (os := os) (X := fun w _ => laidMetH Tryd.prog laid3 w) false (World.doorLaid Tryd.prog 400 os) #[.slice none 0 0, .agg #[.string ByteArray.empty, .int .i64 0, .slice none 0 0, .slice none 0 0]] 8 rfl (World.shaped_of_RefB (by kernel_rfl) (by kernel_rfl)) (by kernel_rfl) (by kernel_rfl) (by kernel_rfl) (door_met os _)) ?_
  intro W base args ds gs before hval0 hW _ _ hL _
  have htab := tab_of_laid hL
  have hval : ∀ (j : Nat) t v, Tryd.f3.params[j]? = some t → args[j]? = some v → Value.okWide Tryd.prog W .any base t v := hval0
  have hW' := hW
  obtain ⟨p, q, hA0, hV, rfl, _, _⟩ := hW
  have hA : DataW.TrodAll enc Tryd.prog W 0 (fun _ => true) true Tryd.f3.params.toList args.toList ds p := hA0
  rw [Tryd.params3] at hA hval
  obtain ⟨v0, v1, d0, d1, p0, p1, rfl, rfl, rfl, h0, h1⟩ := trodAll_two hA
  obtain ⟨rfl, rfl⟩ := trodVars_none hV
  obtain ⟨ks, hks⟩ := open_kinds (hval 0 22 v0 rfl rfl) h0
  obtain ⟨D, x, A, B, cA, cB, rfl, hx⟩ := open_value (hval 1 26 v1 rfl rfl) h1
  clear hA0 hval0
  simp only [List.append_nil] at hW'
  have hlt0 : ∀ x ∈ p0, x.block < W.heap.size := fun x hx => by simpa using hW'.lt x (by simp [hx])
  have hlt1 : ∀ x ∈ p1, x.block < W.heap.size := fun x hx => by simpa using hW'.lt x (by simp [hx])
  refine (lawValueText (Old W) v0 ks A B _ _ cA cB x W hks hx (fun b hb => hb) htab).mono fun e W' ⟨he, hn⟩ => ?_
  subst he
  refine ⟨_, rfl, _, _, _, [], p0 ++ p1, [], hW', ?_, ?_, rfl, hn.frame _, fun h => by cases h⟩
  · exact trodAll_mk1 (shut_bool Tryd.underlying4 true)
  · exact trodAll_mk2 (Below.trod laidOut_ (by kernel_rfl) (of_decide_eq_true (by kernel_rfl)) h0 hn hlt0) (Below.trod laidOut_ (by kernel_rfl) (of_decide_eq_true (by kernel_rfl)) h1 hn hlt1)

theorem ValueText_holds : Rows.FnExactValueTextSaid :=
  OpenClaim.holds_of_wide 3 Tryd.f3 rfl rfl rfl rfl rfl rfl rfl ⟨rfl, rfl, rfl, rfl, rfl⟩ rfl rfl rfl rfl rfl (by kernel_rfl) Tryd.func3 (by kernel_rfl)
    (of_decide_eq_true (by kernel_rfl)) (by unfold Func.isWrapper; first | (rw [if_pos (by decide +kernel)]; kernel_rfl) | (rw [if_neg (by decide +kernel)]; exact ⟨rfl, rfl⟩))
    (fun os started H enc _ => liftValueText os started H enc)
theorem ValueText_card : Rows.FnExactValueTextCardSaid :=
  Claim7.holds_tied_plain_at .later [] [.data, .data, .data] true (true, "4c188fe721002842af9895f7689c9c89048b725795d2aed96e732ab4d3f9a313") false
    ValueText_holds (fun _ h => by cases h) (by kernel_rfl) (fun _ h => by cases h) fnExactValueText_row_tie rfl ⟨rfl, rfl⟩ (by kernel_rfl) rfl
    (fun f fn hf hfn => by
      obtain rfl : f = 3 := Option.some.inj ((show Tryd.prog.funcNamed Rows.fnExactValueTextRow.func = some 3 by kernel_rfl).symm.trans hf) |>.symm
      obtain rfl : fn = Tryd.f3 := (Option.some.inj (Tryd.func3.symm.trans hfn)).symm
      exact ⟨by kernel_rfl, fun j t ht => by
        rw [Tryd.params3] at ht
        have hm : t ∈ [22, 26] := by simpa using Array.mem_of_getElem? ht
        have hall : ([22, 26].all fun u => !Tryd.prog.wantsStandIn u) = true := by kernel_rfl
        exact (show Tryd.prog.wantsStandIn t = false by simpa using List.all_eq_true.1 hall t hm)⟩)
    (by kernel_rfl)
end Go.Proofs.YtjmdhjnfekpklaaDoor
