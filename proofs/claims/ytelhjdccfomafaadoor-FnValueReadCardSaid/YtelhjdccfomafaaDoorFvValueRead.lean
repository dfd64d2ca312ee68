/- What is drawn for the law of ValueRead. -/
import Derived.Test.YtelhjdccfomafaaDoorFw
import Derived.Test.YtelhjdccfomafaaDoorVuc
namespace Go.Proofs.YtelhjdccfomafaaDoor
open Go.ChangeShapes Go.WideShapes Go.ChangeAt Go.RowKit Go.Deep

/-- Drawn kinds and a text. -/
def DrawnKt (W : World) (e : Ending) (w' : World) : Prop :=
  ∃ (ad cap : Nat) (ks : Ks) (s : ByteArray), e = .returned (.tuple #[.slice (some ⟨ad, 0, none⟩) ks.length cap, .string s]) ∧ s.size ≤ 600000 ∧ Made Cod.recs W w' (.slice (some ⟨ad, 0, none⟩) ks.length cap) ks

set_option maxRecDepth 100000 in
set_option maxHeartbeats 2000000 in
theorem drawValueRead_any (F : Nat → Prop) (v : Value) (xs : List Nat) (w : World) (hv : Cod.u8.Sl F w v xs) (hF : ∀ b, F b → b < w.heap.size) :
    Calls Tryd.prog 14 #[v] w (DrawnKt w) := by
  go_enter Tryd.func14, Tryd.ntmps14
  go_wp2_with fail
  refine (open_any F v xs w hv hF).mono ?_
  rintro e w1 ⟨g, rfl, hg, hr, hb⟩
  have HR := Lib.hid hr
  have HB := Lib.hid hb
  have hgl := hr.lt
  clear hr hb
  go_wp2_with fail
  refine (kinds_any g 0 w1 HR.out (by omega)).mono ?_
  rintro e w2 ⟨ad, cap, ks, rfl, h3, h4, hs, hst, he⟩
  obtain ⟨⟨q, hq, hrq⟩, _⟩ := id hst
  have HO := Lib.hid (hst.old HB.out hg)
  have HS := Lib.hid hs
  have Hz12 := Lib.hid hst.grown.size
  have hg2 : g < w2.heap.size := Nat.lt_of_lt_of_le hgl hst.grown.size
  have HF2 := Lib.hid (show ∀ b, Fresh w1 w2 b → b < w2.heap.size ∧ b ≠ g from fun b hb => ⟨hb.2, by have := hb.1; omega⟩)
  have H4 := Lib.hid (show ∀ r ∈ ks, r.length ≤ 10 from fun r hr => by have := h4 r hr; omega)
  have HL := Lib.hid (show Lens ks from ⟨h3, h4⟩)
  have HE := Lib.hid he
  have HS2 := Lib.hid (show Step g q 0 w2 w2 from Step.start hrq)
  clear hs hst h4 hrq he
  go_wp2_with fail
  refine (type_step HS2.out (by omega) HS.out HF2.out (by omega) H4.out).mono ?_
  rintro e w3 ⟨t, ⟨ht, _⟩, rfl, hS3, hg3⟩
  obtain ⟨⟨q3, hq3, hr3⟩, _⟩ := id hS3
  have HS3 := Lib.hid hS3
  have HV3 := Lib.hid (HS.out.keep (HS3.out.keeps HF2.out))
  have HF3 := Lib.hid (HS3.out.ups HF2.out)
  have hR := Lib.hid (rank3_le HL.out t)
  have hvm := vmax_le 9 (by omega)
  have HVA := Lib.hid (value_any HL.out HE.out (Fresh w1 w2) g _ 9 t w3 q3 hR.out (by omega) hr3 (by omega) (by omega) HV3.out HF3.out)
  clear hS3 hg3 hr3
  go_wp2_with fail
  with_reducible refine HVA.out.mono ?_
  rintro e w4 ⟨⟨ty, n, ps, pa⟩, A, c, rfl, hpa, hlen, hrd, hsz, hS4⟩
  obtain rfl : pa = [] := hpa
  obtain ⟨⟨q4, hq4, hr4⟩, _⟩ := id hS4
  have HS4 := Lib.hid hS4
  have HV4 := Lib.hid (HV3.out.keep (HS4.out.keeps HF3.out))
  have hb4 : ∀ b, Fresh w1 w2 b → b < w4.heap.size := fun b hb => by have := hb.2; have := HS3.out.size; have := hS4.size; omega
  have hvs : VRd (Cod.val 9) (fun b => b < w4.heap.size) w4 (.slice A ps.length c) (.slice none 0 0) (.mk ty n ps []) := hrd.mono fun b hb => hb.2
  have HT := Lib.hid (specValueText_any (ks := ks) (d := 9) (fun b => b < w4.heap.size) (.slice (some ⟨ad, 0, none⟩) ks.length cap) A none _ _ c 0 (.mk ty n ps []) w4 (HV4.out.mono hb4) hvs (fun b hb => hb) (Int.le_trans hsz (by decide +kernel)))
  have hts := textVal_small ks 9 (.mk ty n ps [])
  have hO4 := Lib.hid (hS4.old (HS3.out.old HO.out hg) hg)
  have HZ := Lib.hid (show w1.heap.size ≤ w2.heap.size ∧ w2.heap.size ≤ w3.heap.size ∧ w3.heap.size ≤ w4.heap.size ∧ w.heap.size ≤ w1.heap.size from ⟨by have := HS.out; have := HO.out.size; have := HB.out.size; exact Hz12.out, HS3.out.size, hS4.size, HB.out.size⟩)
  have HR4 := Lib.hid hr4
  have hqb : q4 ≤ 1000000 := by omega
  clear hS4 hr4 hrd hsz hvm hlen hvs hb4
  go_wp2_with fail
  refine HT.out.mono ?_
  rintro e w5 ⟨rfl, hb5⟩
  generalize textVal ks 9 (.mk ty n ps []) = s at *
  have hr5 := HR4.out.keep (w' := w5) (fun b hb => hb5.block b hb) hb5.size
  have HS5 := Lib.hid (Step.start (N := 0) hr5)
  have HFin := Lib.hid (show ∀ (wx : World) (s' : ByteArray), w5.grownBy wx (some g) → s'.size ≤ 600000 → DrawnKt w (.returned (.tuple #[.slice (some ⟨ad, 0, none⟩) ks.length cap, .string s'])) wx from fun wx s' hgx hs' => by
    obtain ⟨z1, z2, z3, z4⟩ := HZ.out
    have z5 := hb5.size
    have z6 := hgx.size
    refine ⟨ad, cap, ks, s', rfl, hs', ⟨(((HV4.out.keep fun b hb => hb5.block b (by have := hb.2; omega)).keep fun b hb => hgx.block b (by have := hb.2; omega) (by have := hb.1; simp; omega)).mono fun b hb => ⟨by have := hb.1; omega, by have := hb.2; omega⟩), (hO4.out.trans (hb5.mono (by have := hO4.out.size; omega))).trans (below_grown hgx hg (by omega))⟩⟩)
  have HG5 := Lib.hid (grown_refl w5 (some g))
  have HC5 := Lib.hid (pick_at (n := 5) HS5.out (by omega) (by omega))
  clear hb5 hr5 HT
  go_wp2_with fail
  refine HC5.out.mono ?_
  rintro e w6 ⟨k, rfl, hk, hS6, hg6⟩
  have HS6 := Lib.hid hS6
  have HG6 := Lib.hid hg6
  clear hS6 hg6 HC5
  by_cases k0 : (k : Int) = 0
  · have u0 : ((k : Int) == 0) = true := by simpa using k0
    clear k0 hk
    go_wp2_with fail
    refine (of_step (w := w6) (xs := [⟨#[32]⟩, ⟨#[41]⟩, ⟨#[48]⟩, ⟨#[40]⟩]) HS6.out (by omega) (by simp) rfl (by simp) (by simp) (by intro x hx; simp at hx; rcases hx with rfl | rfl | rfl | rfl <;> decide)).mono ?_
    rintro e w7 ⟨s1, hs1, rfl, hS7, hg7⟩
    have hl1 : s1.size ≤ 1 := by simp at hs1; rcases hs1 with rfl | rfl | rfl | rfl <;> decide
    have hsz2 : (s ++ s1).size ≤ 600000 := by rw [ByteArray.size_append]; omega
    have HS7 := Lib.hid hS7
    have HG7 := Lib.hid (grown_trans HG6.out (grown_trans (World.grownBy_alloc w6 _ _) hg7))
    clear hs1 hS7 hg7
    have HC := Lib.hid (pick_at (n := 10) HS7.out (by omega) (by omega))
    go_wp2_with fail
    refine HC.out.mono ?_
    rintro e wp ⟨kp, rfl, hkp, hSp, hgp⟩
    have HSp := Lib.hid hSp
    have HGp := Lib.hid (grown_trans HG7.out hgp)
    clear hSp hgp HC
    by_cases kp0 : (kp : Int) = 0
    · have t0 : ((kp : Int) == 0) = true := by simpa using kp0
      clear kp0 hkp
      go_wp2_with fail
      refine (of_step (w := wp) (xs := [⟨#[]⟩, ⟨#[48, 49]⟩, ⟨#[64, 52]⟩, ⟨#[64]⟩, ⟨#[83, 48, 48]⟩, ⟨#[83, 48, 48, 40, 49, 32, 32, 50, 41]⟩, ⟨#[49, 48, 48, 48, 48, 48, 49]⟩, ⟨#[83, 48, 48, 40, 41]⟩]) HSp.out (by omega) (by simp) rfl (by simp) (by simp) (by intro x hx; simp at hx; rcases hx with rfl | rfl | rfl | rfl | rfl | rfl | rfl | rfl <;> decide)).mono ?_
      rintro e wz ⟨s2, hs2, rfl, hSz, hgz⟩
      have hl2 : s2.size ≤ 600000 := by simp at hs2; rcases hs2 with rfl | rfl | rfl | rfl | rfl | rfl | rfl | rfl <;> decide
      have HQ := Lib.hid (HFin.out wz s2 (grown_trans HGp.out (grown_trans (World.grownBy_alloc wp _ _) hgz)) hl2)
      clear hs2 hSz hgz
      go_wp2
      exact bodyPost_ret (v := .tuple #[.slice (some ⟨ad, 0, none⟩) ks.length cap, .string s2]) (by simp [results, Tryd.results14, go_sem]) rfl HQ.out
    · have t0 : ((kp : Int) == 0) = false := by simpa using kp0
      clear kp0 hkp
      have HQ := Lib.hid (HFin.out wp (s ++ s1) HGp.out (hsz2))
      go_wp2
      exact bodyPost_ret (v := .tuple #[.slice (some ⟨ad, 0, none⟩) ks.length cap, .string (s ++ s1)]) (by simp [results, Tryd.results14, go_sem]) rfl HQ.out
  · have u0 : ((k : Int) == 0) = false := by simpa using k0
    clear k0 hk
    have HC := Lib.hid (pick_at (n := 10) HS6.out (by omega) (by omega))
    go_wp2_with fail
    refine HC.out.mono ?_
    rintro e wp ⟨kp, rfl, hkp, hSp, hgp⟩
    have HSp := Lib.hid hSp
    have HGp := Lib.hid (grown_trans HG6.out hgp)
    clear hSp hgp HC
    by_cases kp0 : (kp : Int) = 0
    · have t0 : ((kp : Int) == 0) = true := by simpa using kp0
      clear kp0 hkp
      go_wp2_with fail
      refine (of_step (w := wp) (xs := [⟨#[]⟩, ⟨#[48, 49]⟩, ⟨#[64, 52]⟩, ⟨#[64]⟩, ⟨#[83, 48, 48]⟩, ⟨#[83, 48, 48, 40, 49, 32, 32, 50, 41]⟩, ⟨#[49, 48, 48, 48, 48, 48, 49]⟩, ⟨#[83, 48, 48, 40, 41]⟩]) HSp.out (by omega) (by simp) rfl (by simp) (by simp) (by intro x hx; simp at hx; rcases hx with rfl | rfl | rfl | rfl | rfl | rfl | rfl | rfl <;> decide)).mono ?_
      rintro e wz ⟨s2, hs2, rfl, hSz, hgz⟩
      have hl2 : s2.size ≤ 600000 := by simp at hs2; rcases hs2 with rfl | rfl | rfl | rfl | rfl | rfl | rfl | rfl <;> decide
      have HQ := Lib.hid (HFin.out wz s2 (grown_trans HGp.out (grown_trans (World.grownBy_alloc wp _ _) hgz)) hl2)
      clear hs2 hSz hgz
      go_wp2
      exact bodyPost_ret (v := .tuple #[.slice (some ⟨ad, 0, none⟩) ks.length cap, .string s2]) (by simp [results, Tryd.results14, go_sem]) rfl HQ.out
    · have t0 : ((kp : Int) == 0) = false := by simpa using kp0
      clear kp0 hkp
      have HQ := Lib.hid (HFin.out wp s HGp.out (by omega))
      go_wp2
      exact bodyPost_ret (v := .tuple #[.slice (some ⟨ad, 0, none⟩) ks.length cap, .string s]) (by simp [results, Tryd.results14, go_sem]) rfl HQ.out
end Go.Proofs.YtelhjdccfomafaaDoor
