/- Whatever the arguments, the exact law of ValueCount answers true: the program's ValueCount is the model's, and leaves its arguments alone. -/
import Derived.Test.YtjmdhjnfekpklaaVlk
import Derived.Test.YtjmdhjnfekpklaaVnb
import Derived.Deep.DeepCutAuto
namespace Go.Proofs.Ytjmdhjnfekpklaa
open Go.ChangeShapes Go.WideShapes Go.ChangeAt Go.RowKit Go.Deep
open Go.ChangeMaps (open_string shut_string)

set_option maxRecDepth 100000 in
set_option maxHeartbeats 4000000 in
theorem lawValueCount {d : Nat} (F : Nat → Prop) (kv : Value) (ks : Ks) (A B : Option Addr) (n m cA cB : Nat) (v : Val) (kind : ByteArray) (hkd : kind.size ≤ maxLen) (w : World) (h : Cod.recs.Sl F w kv ks) (hv : VRd (Cod.val d) F w (.slice A n cA) (.slice B m cB) v) (hF : ∀ b, F b → b < w.heap.size) :
    Calls Try.prog 11 #[kv, .agg #[.string v.ty, .int .i64 v.n, .slice A n cA, .slice B m cB], .string kind] w fun e w' => e = .returned (.bool true) ∧ Below w.heap.size w w' := by
  unfold maxLen at hkd
  have HS := Lib.hid h
  have HV := Lib.hid hv
  obtain ⟨Ak, ck, rfl, _⟩ := h
  clear hv
  have hk1 : ∀ b, F b → (w.alloc (.cells #[.string v.ty, .int .i64 v.n, .slice A n cA, .slice B m cB] 43)).heap[b]? = w.heap[b]? := fun b hb => Below.heap_alloc _ _ _ (hF b hb)
  have HV1 := Lib.hid (HV.out.keep hk1)
  have HS1 := Lib.hid (HS.out.keep hk1)
  have HF1 := Lib.hid (show ∀ b, F b → b < (w.alloc (.cells #[.string v.ty, .int .i64 v.n, .slice A n cA, .slice B m cB] 43)).heap.size from fun b hb => by have := hF b hb; simp; omega)
  have HB := Lib.hid (Blk.new w 43 #[.string v.ty, .int .i64 v.n, .slice A n cA, .slice B m cB])
  clear hk1
  by_cases hkl : 1048576 < kind.size
  · go_enter Try.func11, Try.ntmps11
    go_wp2
    go_ret
    exact ⟨rfl, (Below.refl _ _).alloc (Nat.le_refl _) _⟩
  by_cases hz : szS (szS szRec) ks 1048576 < 0
  · go_enter Try.func11, Try.ntmps11
    go_wp2_with (go_at_call 32; refine (szRecordSS_any F _ ks _ _ HS1.out HF1.out (by omega) (by omega)).mono ?_; rintro e w1 ⟨rfl, hb1⟩)
    go_ret
    exact ⟨rfl, ((Below.refl _ _).alloc (Nat.le_refl _) _).trans (hb1.mono (by simp))⟩
  · have hle := szS_le (szS_le szRec_le) ks 1048576 (by omega)
    obtain ⟨hn, hm⟩ := sz_kinds (ks := ks) (by omega)
    have Hn := Lib.hid hn
    have Hm := Lib.hid hm
    clear hm hn
    by_cases hz2 : szOf (szVal d) v (szS (szS szRec) ks 1048576) < 0
    · go_enter Try.func11, Try.ntmps11
      go_wp2_with fail
      refine (szRecordSS_any F _ ks _ _ HS1.out HF1.out (by omega) (by omega)).mono ?_
      rintro e w1 ⟨rfl, hb1⟩
      obtain ⟨x0, x1, x2, x3⟩ := (HB.out.below hb1 (by simp)).c2
      have HV2 := Lib.hid (HV1.out.keep (below_keeps hb1 HF1.out))
      have HF2 := Lib.hid (show ∀ b, F b → b < w1.heap.size from fun b hb => Nat.lt_of_lt_of_le (HF1.out b hb) hb1.size)
      have HE := Lib.hid (((Below.refl w.heap.size w).alloc (Nat.le_refl _) (.cells #[.string v.ty, .int .i64 v.n, .slice A n cA, .slice B m cB] 43)).trans (hb1.mono (by simp)))
      clear hb1
      go_wp2_with (go_at_call 33; refine (szValue_any d F A B n m cA cB v _ w1 HV2.out HF2.out (by omega) (by omega)).mono ?_; rintro e w2 ⟨rfl, hb2⟩)
      go_ret
      exact ⟨rfl, HE.out.trans (hb2.mono HE.out.size)⟩
    · have HSz := Lib.hid (show sizeOf' (isK kind) (cntV kind d) v ≤ 2000000 from cnt_few (kind := kind) (d := d) (by omega) (Int.not_lt.1 hz2))
      have HSm := Lib.hid (sz_val (d := d) (v := v) (by omega) (by omega) (Int.not_lt.1 hz2))
      go_enter Try.func11, Try.ntmps11
      go_wp2_with fail
      refine (szRecordSS_any F _ ks _ _ HS1.out HF1.out (by omega) (by omega)).mono ?_
      rintro e w1 ⟨rfl, hb1⟩
      have HB1 := Lib.hid (HB.out.below hb1 (by simp))
      obtain ⟨x0, x1, x2, x3⟩ := HB1.out.c2
      have HV2 := Lib.hid (HV1.out.keep (below_keeps hb1 HF1.out))
      have HS2 := Lib.hid (HS1.out.keep (below_keeps hb1 HF1.out))
      have HF2 := Lib.hid (show ∀ b, F b → b < w1.heap.size from fun b hb => Nat.lt_of_lt_of_le (HF1.out b hb) hb1.size)
      have HE := Lib.hid (((Below.refl w.heap.size w).alloc (Nat.le_refl _) (.cells #[.string v.ty, .int .i64 v.n, .slice A n cA, .slice B m cB] 43)).trans (hb1.mono (by simp)))
      have hs1 : w.heap.size + 1 ≤ w1.heap.size := by simpa using hb1.size
      clear hb1
      go_wp2_with fail
      refine (szValue_any d F A B n m cA cB v _ w1 HV2.out HF2.out (by omega) (by omega)).mono ?_
      rintro e w2 ⟨rfl, hb2⟩
      have HB2 := Lib.hid (HB1.out.below hb2 (by omega))
      clear x0 x1 x2 x3
      have HV3 := Lib.hid (HV2.out.keep (below_keeps hb2 HF2.out))
      have HS3 := Lib.hid (HS2.out.keep (below_keeps hb2 HF2.out))
      have HF3 := Lib.hid (show ∀ b, F b → b < w2.heap.size from fun b hb => Nat.lt_of_lt_of_le (HF2.out b hb) hb2.size)
      have HE2 := Lib.hid (HE.out.trans (hb2.mono HE.out.size))
      have hs2 := Nat.le_trans hs1 hb2.size
      clear hb2 HV HV1 HV2 HS1 HS2 HF1 HF2 HB HB1 HE hs1
      go_upto_region 10 with fail
      have HF3d := Lib.hid (show ∀ b, F b → b < w2.drew.heap.size from HF3.out)
      have HB2d := Lib.hid (show Blk w2.drew w.heap.size 43 #[.string v.ty, .int .i64 v.n, .slice A n cA, .slice B m cB] from HB2.out)
      have hgd : w.heap.size < w2.drew.heap.size := hs2
      obtain ⟨x0, x1, x2, x3⟩ := HB2.out.c2
      go_cut [8] from 25 to 30 (fun s6 wx => s6 = .int .i64 (cntVal ks d v kind) ∧ Hid (Below w2.heap.size w2 wx))
      case first =>
        have HCk0 := Lib.hid (toRecordSS_any F _ ks w2.drew HS3.out.drew HF3d.out Hn.out Hm.out)
        have HCv0 := Lib.hid (toValue_any d F A B n m cA cB v w2.drew HV3.out.drew HF3d.out HSm.out)
        go_region_with (first
          | (go_at_call 35; (with_reducible refine HCk0.out.mono ?_); rintro e wk ⟨Ak1, ck1, rfl, hMk⟩; go_must (have HMk := Lib.hid hMk; obtain ⟨y0, y1, y2, y3⟩ := (HB2d.out.below hMk.2 hgd).c2; have HCv1 := Lib.hid (toValue_any d F A B n m cA cB v wk (VRd.keep (w := w2.drew) (below_keeps HMk.out.2 HF3d.out) HV3.out.drew) (fun b hb => Nat.lt_of_lt_of_le (HF3d.out b hb) HMk.out.2.size) HSm.out); clear hMk))
          | (go_at_call 36; (with_reducible refine HCv0.out.mono ?_); rintro e wv ⟨A1, cA1, B1, cB1, rfl, hMv⟩; go_must (have HMv := Lib.hid hMv; have HCk1 := Lib.hid (toRecordSS_any F _ ks wv (Cod.Sl.keep (w := w2.drew) (below_keeps HMv.out.2 HF3d.out) HS3.out.drew) (fun b hb => Nat.lt_of_lt_of_le (HF3d.out b hb) HMv.out.2.size) Hn.out Hm.out); clear hMv))
          | (go_at_call 36; (with_reducible refine HCv1.out.mono ?_); rintro e wv ⟨A1, cA1, B1, cB1, rfl, hMv⟩; go_must (have HMv := Lib.hid (hMv.back HMk.out.2); have HMk1 := Lib.hid (HMk.out.go hMv.2); have HCs := Lib.hid (specValueCount_any (d := d) (Fresh w2.drew wv) _ A1 B1 _ _ cA1 cB1 v kind wv HMk1.out.1 HMv.out.1 (fun b hb => hb.2) HSz.out); have HQ0 := Lib.hid HMv.out.2; clear hMv))
          | (go_at_call 35; (with_reducible refine HCk1.out.mono ?_); rintro e wk ⟨Ak1, ck1, rfl, hMk⟩; go_must (have HMk := Lib.hid (hMk.back HMv.out.2); have HMv1 := Lib.hid (HMv.out.go hMk.2); have HCs := Lib.hid (specValueCount_any (d := d) (Fresh w2.drew wk) _ A1 B1 _ _ cA1 cB1 v kind wk HMk.out.1 HMv1.out.1 (fun b hb => hb.2) HSz.out); have HQ0 := Lib.hid HMk.out.2; clear hMk))
          | (go_at_call 45; (with_reducible refine HCs.out.mono ?_); rintro e ws ⟨rfl, hs⟩; go_must (have HQ := Lib.hid (HQ0.out.trans (hs.mono HQ0.out.size)); clear hs)))
        all_goals
          go_wp2
          go_meet
          exact ⟨rfl, (below_draw w2).trans HQ.out⟩
      case rest =>
        obtain ⟨rfl, HQ⟩ := hcut
        clear x0 x1 x2 x3
        have HB3 := Lib.hid (HB2.out.below HQ.out hs2)
        have HV4 := Lib.hid (HV3.out.keep (below_keeps HQ.out HF3.out))
        have HS4 := Lib.hid (HS3.out.keep (below_keeps HQ.out HF3.out))
        have HF4 := Lib.hid (show ∀ b, F b → b < wc.heap.size from fun b hb => Nat.lt_of_lt_of_le (HF3.out b hb) HQ.out.size)
        have HE3 := Lib.hid (HE2.out.trans (HQ.out.mono HE2.out.size))
        have hs3 := Nat.le_trans hs2 HQ.out.size
        clear HV3 HS3 HF3 HE2 HQ HB2 HB2d HF3d hs2 hgd
        go_wp2_with fail
        refine (toRecordSS_any F _ ks wc HS4.out HF4.out Hn.out Hm.out).mono ?_
        rintro e w4 ⟨A4, c4, rfl, hM4⟩
        have HM4 := Lib.hid hM4
        have HB4 := Lib.hid (HB3.out.below hM4.2 hs3)
        have HV5 := Lib.hid (HV4.out.keep (below_keeps hM4.2 HF4.out))
        have HS5 := Lib.hid (HS4.out.keep (below_keeps hM4.2 HF4.out))
        have HF5 := Lib.hid (show ∀ b, F b → b < w4.heap.size from fun b hb => Nat.lt_of_lt_of_le (HF4.out b hb) hM4.2.size)
        have HE4 := Lib.hid (HE3.out.trans (hM4.2.mono HE3.out.size))
        have hs4 := Nat.le_trans hs3 hM4.2.size
        obtain ⟨x0, x1, x2, x3⟩ := HB4.out.c2
        clear hM4 HV4 HS4 HF4 HE3 HB3
        go_wp2_with fail
        refine (toValue_any d F A B n m cA cB v w4 HV5.out HF5.out HSm.out).mono ?_
        rintro e w5 ⟨A5, cA5, B5, cB5, rfl, hM5⟩
        have HB5 := Lib.hid (HB4.out.below hM5.2 hs4)
        have HM5k := Lib.hid (HM4.out.go hM5.2)
        have HM5v := Lib.hid (hM5.back HM4.out.2)
        have HV6 := Lib.hid (HV5.out.keep (below_keeps hM5.2 HF5.out))
        have HS6 := Lib.hid (HS5.out.keep (below_keeps hM5.2 HF5.out))
        have HF6 := Lib.hid (show ∀ b, F b → b < w5.heap.size from fun b hb => Nat.lt_of_lt_of_le (HF5.out b hb) hM5.2.size)
        have HE5 := Lib.hid (HE4.out.trans (hM5.2.mono HE4.out.size))
        have hs5 := Nat.le_trans hs4 hM5.2.size
        clear hM5 HV5 HS5 HF5 HE4 HB4 HM4 x0 x1 x2 x3
        have HX := Lib.hid (Blk.new w5 50 #[.string v.ty, .int .i64 v.n, .slice A5 v.parts.length cA5, .slice B5 v.path.length cB5])
        have HA := Lib.hid ((Below.refl w5.heap.size w5).alloc (Nat.le_refl _) (.cells #[.string v.ty, .int .i64 v.n, .slice A5 v.parts.length cA5, .slice B5 v.path.length cB5] 50))
        have hwa : (w5.alloc (.cells #[.string v.ty, .int .i64 v.n, .slice A5 v.parts.length cA5, .slice B5 v.path.length cB5] 50)).heap.size = w5.heap.size + 1 := by simp
        have Hwa := Lib.hid hwa
        clear hwa
        go_wp2_with fail
        refine (implValueCount_any (d := d) (Fresh wc (w5.alloc (.cells #[.string v.ty, .int .i64 v.n, .slice A5 v.parts.length cA5, .slice B5 v.path.length cB5] 50))) _ A5 B5 _ _ cA5 cB5 v kind _ (HM5k.out.go HA.out).1 (HM5v.out.go HA.out).1 (fun b hb => hb.2) HSz.out).mono ?_
        rintro e w6 ⟨rfl, hb6⟩
        have HA6 := Lib.hid (HA.out.trans (hb6.mono HA.out.size))
        have HX6 := Lib.hid (HX.out.below hb6 (by rw [Hwa.out]; omega))
        have hs56 : w5.heap.size < w6.heap.size := HX6.out.lt
        clear hb6 HA HX Hwa
        have HB6 := Lib.hid (HB5.out.below HA6.out hs5)
        have HM6k := Lib.hid (HM5k.out.go HA6.out)
        have HM6v := Lib.hid (HM5v.out.go HA6.out)
        have HV7 := Lib.hid (HV6.out.keep (below_keeps HA6.out HF6.out))
        have HS7 := Lib.hid (HS6.out.keep (below_keeps HA6.out HF6.out))
        have HF7 := Lib.hid (show ∀ b, F b → b < w6.heap.size from fun b hb => Nat.lt_of_lt_of_le (HF6.out b hb) HA6.out.size)
        have HE6 := Lib.hid (HE5.out.trans (HA6.out.mono HE5.out.size))
        have hs6 := Nat.le_trans hs5 HA6.out.size
        clear HA6 HB5 HM5k HM5v HV6 HS6 HF6 HE5 hs5
        go_wp2_with fail
        refine (toRecordSS_any F _ ks w6 HS7.out HF7.out Hn.out Hm.out).mono ?_
        rintro e w7 ⟨A7, c7, rfl, hM7⟩
        have HM7 := Lib.hid (hM7.back HM6k.out.2)
        have HM7k := Lib.hid (HM6k.out.go hM7.2)
        have HM7v := Lib.hid (HM6v.out.go hM7.2)
        have HX7 := Lib.hid (HX6.out.below hM7.2 hs56)
        have HB7 := Lib.hid (HB6.out.below hM7.2 hs6)
        have HV8 := Lib.hid (HV7.out.keep (below_keeps hM7.2 HF7.out))
        have HF8 := Lib.hid (show ∀ b, F b → b < w7.heap.size from fun b hb => Nat.lt_of_lt_of_le (HF7.out b hb) hM7.2.size)
        have HE7 := Lib.hid (HE6.out.trans (hM7.2.mono HE6.out.size))
        have hs7 := Nat.le_trans hs6 hM7.2.size
        have hs57 := Nat.lt_of_lt_of_le hs56 hM7.2.size
        clear hM7 HB6 HM6k HM6v HV7 HS7 HF7 HE6 hs6 hs56 HX6
        go_wp2_with fail
        refine (eqRecordSS_any (Fresh wc w7) _ _ ks w7 HM7k.out.1 HM7.out.1 (fun b hb => hb.2)).mono ?_
        rintro e w8 ⟨rfl, hb8⟩
        have HM8v := Lib.hid (HM7v.out.go hb8)
        have HX8 := Lib.hid (HX7.out.below hb8 hs57)
        have HB8 := Lib.hid (HB7.out.below hb8 hs7)
        have HV9 := Lib.hid (HV8.out.keep (below_keeps hb8 HF8.out))
        have HF9 := Lib.hid (show ∀ b, F b → b < w8.heap.size from fun b hb => Nat.lt_of_lt_of_le (HF8.out b hb) hb8.size)
        have HE8 := Lib.hid (HE7.out.trans (hb8.mono HE7.out.size))
        have hs8 := Nat.le_trans hs7 hb8.size
        have hs58 := Nat.lt_of_lt_of_le hs57 hb8.size
        clear hb8 HB7 HM7 HM7k HM7v HV8 HF8 HE7 hs7 hs57 HX7
        have HXd := Lib.hid (show Blk w8.drew w5.heap.size _ _ from HX8.out)
        have hs5d : w5.heap.size < w8.drew.heap.size := hs58
        have HMd := Lib.hid (HM8v.out.go (below_draw w8))
        have HEd := Lib.hid (HE8.out.drew)
        have HFd := Lib.hid (show ∀ b, F b → b < w8.drew.heap.size from HF9.out)
        have HCv := Lib.hid (toValue_any d F A B n m cA cB v w8.drew HV9.out.drew HFd.out HSm.out)
        obtain ⟨x0, x1, x2, x3⟩ := HB8.out.c2
        obtain ⟨y0, y1, y2, y3⟩ := HX8.out.c2
        clear HX8 HM8v HE8 HF9
        go_wp2_with fail
        go_region_with (first
          | (go_at_call 36; (with_reducible refine HCv.out.mono ?_); rintro e wv ⟨A9, cA9, B9, cB9, rfl, hMv⟩; go_must (obtain ⟨z0, z1, z2, z3⟩ := (HXd.out.below hMv.2 hs5d).c2; have HCe := Lib.hid (eqValue_any d (Fresh wc wv) (.slice A5 v.parts.length cA5) (.slice B5 v.path.length cB5) (.slice A9 v.parts.length cA9) (.slice B9 v.path.length cB9) v wv (HMd.out.go hMv.2).1 (hMv.back HMd.out.2).1 (fun b hb => hb.2)); have HQ0 := Lib.hid (HEd.out.trans (hMv.2.mono HEd.out.size)); clear hMv))
          | (go_at_call 39; (with_reducible refine HCe.out.mono ?_); rintro e we ⟨rfl, hs⟩; go_must (have HQ := Lib.hid (HQ0.out.trans (hs.mono HQ0.out.size)); clear hs)))
        all_goals
          go_wp2
          go_ret
          exact ⟨rfl, HQ.out⟩

set_option maxRecDepth 100000 in
theorem liftValueCount (os : Os) (started : os.Started) (H : Type) (enc : TypeId × Value → H) :
    ReturnsInHanded {} Try.checked os 11 .any (Rows.fnExactValueCountSpec.pre6 enc Try.prog Try.f11 Rows.fnExactValueCountRow.domain false) (Rows.fnExactValueCountSpec.post enc Try.prog Try.f11 false true false false) := by
  refine returnsInHanded_of_change (C := Try.checked) own_ started (by kernel_rfl) Try.func11
    (ChangeSpec.witness6 (enc := enc) (C := Try.checked) false ⟨#[], #[.slice none 0 0, .agg #[.string ByteArray.empty, .int .i64 0, .slice none 0 0, .slice none 0 0], .string ByteArray.empty], []⟩ 8 (by kernel_rfl) (by kernel_rfl) (by kernel_rfl) (by kernel_rfl)) ?_
  intro W base args ds gs before hval0 hW _ _
  have hval : ∀ (j : Nat) t v, Try.f11.params[j]? = some t → args[j]? = some v → Value.okWide Try.prog W .any base t v := hval0
  have hW' := hW
  obtain ⟨p, q, hA0, hV, rfl, _, _⟩ := hW
  have hA : DataW.TrodAll enc Try.prog W 0 (fun _ => true) true Try.f11.params.toList args.toList ds p := hA0
  rw [Try.params11] at hA hval
  obtain ⟨v0, v1, v2, d0, d1, d2, p0, p1, p2, rfl, rfl, rfl, h0, h1, h2⟩ := trodAll_three hA
  obtain ⟨rfl, rfl⟩ := trodVars_none hV
  obtain ⟨ks, hks⟩ := open_kinds (hval 0 39 v0 rfl rfl) h0
  obtain ⟨t, rfl, rfl, rfl, wt⟩ := open_string Try.underlying9 (hval 2 9 v2 rfl rfl) h2
  obtain ⟨D, x, A, B, cA, cB, rfl, hx⟩ := open_value (hval 1 43 v1 rfl rfl) h1
  clear hA0 hval0
  simp only [List.append_nil] at hW'
  have hlt0 : ∀ x ∈ p0, x.block < W.heap.size := fun x hx => by simpa using hW'.lt x (by simp [hx])
  have hlt1 : ∀ x ∈ p1, x.block < W.heap.size := fun x hx => by simpa using hW'.lt x (by simp [hx])
  refine (lawValueCount (Old W) v0 ks A B _ _ cA cB x t wt W hks hx (fun b hb => hb)).mono fun e W' ⟨he, hn⟩ => ?_
  subst he
  refine ⟨_, rfl, _, _, _, [], p0 ++ (p1 ++ []), [], hW', ?_, ?_, rfl, hn.frame _, fun h => by cases h⟩
  · exact trodAll_mk1 (shut_bool Try.underlying4 true)
  · exact trodAll_mk3 (Below.trod laidOut_ (by kernel_rfl) (of_decide_eq_true (by kernel_rfl)) h0 hn hlt0) (Below.trod laidOut_ (by kernel_rfl) (of_decide_eq_true (by kernel_rfl)) h1 hn hlt1) (shut_string Try.underlying9 wt)

theorem ValueCount_holds : Rows.FnExactValueCountSaid :=
  OpenClaim.holds_of_wide 11 Try.f11 rfl rfl rfl rfl rfl rfl rfl ⟨rfl, rfl, rfl, rfl, rfl⟩ rfl rfl rfl rfl rfl (by kernel_rfl) Try.func11 (by kernel_rfl)
    (of_decide_eq_true (by kernel_rfl)) (by unfold Func.isWrapper; first | (rw [if_pos (by decide +kernel)]; kernel_rfl) | (rw [if_neg (by decide +kernel)]; exact ⟨rfl, rfl⟩))
    (fun os started H enc _ => liftValueCount os started H enc)
end Go.Proofs.Ytjmdhjnfekpklaa
