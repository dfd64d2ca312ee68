/- What is drawn for the law of ValueText. -/
import Derived.Test.YtelhjdccfomafaaDoorFv
namespace Go.Proofs.YtelhjdccfomafaaDoor
open Go.ChangeShapes Go.WideShapes Go.ChangeAt Go.RowKit Go.Deep

set_option maxRecDepth 100000 in
set_option maxHeartbeats 2000000 in
theorem drawValueText_any (F : Nat → Prop) (v : Value) (xs : List Nat) (w : World) (hv : Cod.u8.Sl F w v xs) (hF : ∀ b, F b → b < w.heap.size) :
    Calls Tryd.prog 10 #[v] w (DrawnKv w) := by
  obtain ⟨w0, hw0⟩ : ∃ w0, w0 = w.alloc (.cells #[.string ⟨#[]⟩, .int .i64 0, .slice none 0 0, .slice none 0 0] 27) := ⟨_, rfl⟩
  have hb0 : Below w.heap.size w w0 := by rw [hw0]; exact (Below.refl _ _).alloc (Nat.le_refl _) _
  have HR0 := Lib.hid (show Blk w0 w.heap.size 27 #[.string ⟨#[]⟩, .int .i64 0, .slice none 0 0, .slice none 0 0] by rw [hw0]; exact Blk.new _ _ _)
  have hv0 := hv.keep (fun b hb => hb0.block b (hF b hb))
  have hF0 : ∀ b, F b → b < w0.heap.size := fun b hb => Nat.lt_of_lt_of_le (hF b hb) hb0.size
  have hlw : w.heap.size < w0.heap.size := by rw [hw0]; simp
  have HE0 := Lib.hid hb0
  have Hw0 := Lib.hid hw0
  clear hv hF hb0 hw0
  go_enter Tryd.func10, Tryd.ntmps10
  go_upto_region 1 with fail
  rw [← Hw0.out]
  go_wp2_with fail
  refine (open_any F v xs w0 hv0 hF0).mono ?_
  rintro e w1 ⟨g, rfl, hg, hr, hb⟩
  have HR := Lib.hid hr
  have HB := Lib.hid hb
  have hgl := hr.lt
  clear hr hb
  go_wp2_with fail
  refine (kinds_any g 0 w1 HR.out (by omega)).mono ?_
  rintro e w2 ⟨ad, cap, ks, rfl, h3, h4, hs, hst, he⟩
  obtain ⟨⟨q, hq, hrq⟩, _⟩ := id hst
  have HO := Lib.hid (hst.old HB.out hg)
  have HS := Lib.hid hs
  have hg2 : g < w2.heap.size := Nat.lt_of_lt_of_le hgl hst.grown.size
  have HF2 := Lib.hid (show ∀ b, Fresh w1 w2 b → b < w2.heap.size ∧ b ≠ g from fun b hb => ⟨hb.2, by have := hb.1; omega⟩)
  have H4 := Lib.hid (show ∀ r ∈ ks, r.length ≤ 10 from fun r hr => by have := h4 r hr; omega)
  have HL := Lib.hid (show Lens ks from ⟨h3, h4⟩)
  have HE := Lib.hid he
  have HS2 := Lib.hid (show Step g q 0 w2 w2 from Step.start hrq)
  clear hs hst h4 hrq he
  go_wp2_with fail
  refine (type_step HS2.out (by omega) HS.out HF2.out (by omega) H4.out).mono ?_
  rintro e w3 ⟨t, ⟨ht, _⟩, rfl, hS3, hg3⟩
  obtain ⟨⟨q3, hq3, hr3⟩, _⟩ := id hS3
  have HS3 := Lib.hid hS3
  have HV3 := Lib.hid (HS.out.keep (HS3.out.keeps HF2.out))
  have HF3 := Lib.hid (HS3.out.ups HF2.out)
  have hR := Lib.hid (rank3_le HL.out t)
  have hvm := vmax_le 9 (by omega)
  have HVA := Lib.hid (value_any HL.out HE.out (Fresh w1 w2) g _ 9 t w3 q3 hR.out (by omega) hr3 (by omega) (by omega) HV3.out HF3.out)
  clear hS3 hg3 hr3
  go_wp2_with fail
  with_reducible refine HVA.out.mono ?_
  rintro e w4 ⟨⟨ty, n, ps, pa⟩, A, c, rfl, hpa, hlen, hrd, hsz, hS4⟩
  obtain rfl : pa = [] := hpa
  obtain ⟨⟨q4, hq4, hr4⟩, _⟩ := id hS4
  have HS4 := Lib.hid hS4
  have HV4 := Lib.hid (HV3.out.keep (HS4.out.keeps HF3.out))
  have HF4 := Lib.hid (show ∀ b, Fresh w3 w4 b → b < w4.heap.size ∧ b ≠ g from fun b hb => ⟨hb.2, by have := hb.1; have := HS3.out.size; omega⟩)
  have HBD := Lib.hid (bad_any (Fresh w3 w4) g q4 9 (vmax 9 : Nat) ty n ps A c w4 hr4 (by omega) hrd HF4.out hlen hsz)
  clear hS4 hr4 hrd hsz hvm hlen
  go_wp2_with fail
  refine HBD.out.mono ?_
  rintro e w5 ⟨v5, A5, c5, B5, c5', rfl, hrd, hsz, hlen, hS5⟩
  have HS5 := Lib.hid hS5
  have HQ0 := Lib.hid (show DrawnKv w0 (.returned (.tuple #[.slice (some ⟨ad, 0, none⟩) ks.length cap, .agg #[.string v5.ty, .int .i64 v5.n, .slice A5 v5.parts.length c5, .slice B5 v5.path.length c5']])) w5 from by
    have hO3 := HS3.out.old HO.out hg
    have hO4 := HS4.out.old hO3 hg
    have hO5 := hS5.old hO4 hg
    have hz1 := HB.out.size
    have hz2 := HS3.out.size
    have hz3 := HS4.out.size
    have hz4 := hS5.size
    have hz0 := HO.out.size
    refine ⟨ad, cap, ks, v5, A5, c5, B5, c5', rfl, ⟨(HV4.out.keep fun b hb => hS5.grown.block b (by have := hb.2; omega) (by have := hb.1; simp; omega)).mono fun b hb => ⟨by have := hb.1; omega, by have := hb.2; omega⟩, hO5⟩, hrd.mono fun b hb => ?_, Int.le_trans hsz (by decide +kernel), hlen⟩
    rcases hb with hb | hb
    · exact ⟨by have := hb.1; omega, by have := hb.2; omega⟩
    · exact ⟨by have := hb.1; omega, hb.2⟩)
  have hE5 : Below w0.heap.size w0 w5 := by obtain ⟨_, _, _, _, _, _, _, _, _, h, _⟩ := HQ0.out; exact h.2
  obtain ⟨w6, hw6⟩ : ∃ w6, w6 = w5.alloc (.cells #[.string v5.ty, .int .i64 v5.n, .slice A5 v5.parts.length c5, .slice B5 v5.path.length c5'] 27) := ⟨_, rfl⟩
  have hb6 : Below w5.heap.size w5 w6 := by rw [hw6]; exact (Below.refl _ _).alloc (Nat.le_refl _) _
  have HB6 := Lib.hid (show Blk w6 w5.heap.size 27 #[.string v5.ty, .int .i64 v5.n, .slice A5 v5.parts.length c5, .slice B5 v5.path.length c5'] by rw [hw6]; exact Blk.new _ _ _)
  have hR6 := (HR0.out.below hE5 hlw).below hb6 (Nat.lt_of_lt_of_le hlw hE5.size)
  have HQ := Lib.hid (HQ0.out.end_ (a0 := .string v5.ty) (a1 := .int .i64 v5.n) (a2 := .slice A5 v5.parts.length c5) (a3 := .slice B5 v5.path.length c5') HE0.out hlw hE5 hb6 hR6)
  have Hw6 := Lib.hid hw6
  have hlt6 : w.heap.size < w6.heap.size := Nat.lt_of_lt_of_le (Nat.lt_of_lt_of_le hlw hE5.size) hb6.size
  obtain ⟨x0, x1, x2, x3⟩ := HB6.out.c2
  obtain ⟨y0, y1, y2, y3⟩ := hR6.c2
  obtain ⟨f0, f1, f2, f3⟩ := hR6.f4
  clear hrd hsz hlen hS5 hE5 hw6 hb6 hR6
  go_upto_region 4 with fail
  rw [← Hw6.out]
  go_region
  go_wp2
  obtain ⟨hre, hq⟩ := HQ.out
  obtain ⟨r0, r1, r2, r3⟩ := hre.c2
  exact bodyPost_ret (v := .tuple #[.slice (some ⟨ad, 0, none⟩) ks.length cap, .agg #[.string v5.ty, .int .i64 v5.n, .slice A5 v5.parts.length c5, .slice B5 v5.path.length c5']]) (by simp [results, Tryd.results10, go_sem, r0, r1, r2, r3]) rfl hq.drew
end Go.Proofs.YtelhjdccfomafaaDoor
