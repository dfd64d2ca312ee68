/- What is drawn for the law of ValueCount. -/
import Derived.Test.YtelhjdccfomafaaFv
namespace Go.Proofs.Ytelhjdccfomafaa
open Go.ChangeShapes Go.WideShapes Go.ChangeAt Go.RowKit Go.Deep

/-- Drawn kinds and a value, as they lie. -/
structure KvIn (W w : World) (ad cap : Nat) (ks : Ks) (v : Val) (A : Option Addr) (c : Nat) (B : Option Addr) (c' : Nat) : Prop where
  ks : Made Cod.recs W w (.slice (some ⟨ad, 0, none⟩) ks.length cap) ks
  rd : VRd (Cod.val 9) (Fresh W w) w (.slice A v.parts.length c) (.slice B v.path.length c') v
  size : sizeOf' (fun _ => 1) (sizeV 9) v ≤ 2000000
  len : v.parts.length ≤ 4
theorem KvIn.drew {W w : World} {ad cap : Nat} {ks : Ks} {v : Val} {A : Option Addr} {c : Nat} {B : Option Addr} {c' : Nat} (h : KvIn W w ad cap ks v A c B c') : KvIn W w.drew ad cap ks v A c B c' := ⟨⟨h.ks.1.drew, h.ks.2.drew⟩, h.rd.drew, h.size, h.len⟩
theorem KvIn.end_ {W w0 w6 : World} {ad cap : Nat} {ks : Ks} {v : Val} {A : Option Addr} {c : Nat} {B : Option Addr} {c' : Nat} (h : KvIn w0 w6 ad cap ks v A c B c') (hb0 : Below W.heap.size W w0) (hl : W.heap.size < w0.heap.size) {a0 a1 a2 a3 z0 z1 z2 z3 : Value} (hR : Blk w6 W.heap.size 32 #[z0, z1, z2, z3]) :
    Blk ((((w6.setCell ⟨W.heap.size, 0, none⟩ a0).setCell ⟨W.heap.size, 1, none⟩ a1).setCell ⟨W.heap.size, 2, none⟩ a2).setCell ⟨W.heap.size, 3, none⟩ a3) W.heap.size 32 #[a0, a1, a2, a3] ∧
    KvIn W ((((w6.setCell ⟨W.heap.size, 0, none⟩ a0).setCell ⟨W.heap.size, 1, none⟩ a1).setCell ⟨W.heap.size, 2, none⟩ a2).setCell ⟨W.heap.size, 3, none⟩ a3) ad cap ks v A c B c' := by
  obtain ⟨hB, h'⟩ := DrawnKv.end_ (W := W) (w0 := w0) (w5 := w6) (w6 := w6) (e := .returned (.tuple #[.slice (some ⟨ad, 0, none⟩) ks.length cap, .agg #[.string v.ty, .int .i64 v.n, .slice A v.parts.length c, .slice B v.path.length c']])) (a0 := a0) (a1 := a1) (a2 := a2) (a3 := a3) ⟨ad, cap, ks, v, A, c, B, c', rfl, h.ks, h.rd, h.size, h.len⟩ hb0 hl h.ks.2 (Below.refl _ _) hR
  refine ⟨hB, ?_⟩
  have hk : ∀ b, b ≠ W.heap.size → ((((w6.setCell ⟨W.heap.size, 0, none⟩ a0).setCell ⟨W.heap.size, 1, none⟩ a1).setCell ⟨W.heap.size, 2, none⟩ a2).setCell ⟨W.heap.size, 3, none⟩ a3).heap[b]? = w6.heap[b]? := fun b hb => by rw [Below.heap_setCell _ _ _ _ hb, Below.heap_setCell _ _ _ _ hb, Below.heap_setCell _ _ _ _ hb, Below.heap_setCell _ _ _ _ hb]
  obtain ⟨_, _, _, _, _, _, _, _, _, ⟨_, hW⟩, _⟩ := h'
  have hz : ∀ b, Fresh w0 w6 b → Fresh W ((((w6.setCell ⟨W.heap.size, 0, none⟩ a0).setCell ⟨W.heap.size, 1, none⟩ a1).setCell ⟨W.heap.size, 2, none⟩ a2).setCell ⟨W.heap.size, 3, none⟩ a3) b := fun b hb => ⟨by have := hb.1; omega, by rw [size_setCell, size_setCell, size_setCell, size_setCell]; exact hb.2⟩
  exact ⟨⟨(h.ks.1.keep fun b hb => hk b (by have := hb.1; omega)).mono hz, hW⟩, (h.rd.keep fun b hb => hk b (by have := hb.1; omega)).mono hz, h.size, h.len⟩
/-- Drawn kinds, a value, and a text. -/
def DrawnKvk (W : World) (e : Ending) (w' : World) : Prop :=
  ∃ (ad cap : Nat) (ks : Ks) (v : Val) (A : Option Addr) (c : Nat) (B : Option Addr) (c' : Nat) (kd : ByteArray), e = .returned (.tuple #[.slice (some ⟨ad, 0, none⟩) ks.length cap, .agg #[.string v.ty, .int .i64 v.n, .slice A v.parts.length c, .slice B v.path.length c'], .string kd]) ∧ kd.size ≤ 50 ∧ KvIn W w' ad cap ks v A c B c'

set_option maxRecDepth 100000 in
set_option maxHeartbeats 2000000 in
theorem drawValueCount_any (F : Nat → Prop) (v : Value) (xs : List Nat) (w : World) (hv : Cod.u8.Sl F w v xs) (hF : ∀ b, F b → b < w.heap.size) :
    Calls Try.prog 10 #[v] w (DrawnKvk w) := by
  obtain ⟨w0, hw0⟩ : ∃ w0, w0 = w.alloc (.cells #[.string ⟨#[]⟩, .int .i64 0, .slice none 0 0, .slice none 0 0] 32) := ⟨_, rfl⟩
  have hb0 : Below w.heap.size w w0 := by rw [hw0]; exact (Below.refl _ _).alloc (Nat.le_refl _) _
  have HR0 := Lib.hid (show Blk w0 w.heap.size 32 #[.string ⟨#[]⟩, .int .i64 0, .slice none 0 0, .slice none 0 0] by rw [hw0]; exact Blk.new _ _ _)
  have hv0 := hv.keep (fun b hb => hb0.block b (hF b hb))
  have hF0 : ∀ b, F b → b < w0.heap.size := fun b hb => Nat.lt_of_lt_of_le (hF b hb) hb0.size
  have hlw : w.heap.size < w0.heap.size := by rw [hw0]; simp
  have HE0 := Lib.hid hb0
  have Hw0 := Lib.hid hw0
  clear hv hF hb0 hw0
  go_enter Try.func10, Try.ntmps10
  go_upto_region 1 with fail
  rw [← Hw0.out]
  go_wp2_with fail
  refine (open_any F v xs w0 hv0 hF0).mono ?_
  rintro e w1 ⟨g, rfl, hg, hr, hb⟩
  have HR := Lib.hid hr
  have HB := Lib.hid hb
  have hgl := hr.lt
  clear hr hb
  go_wp2_with fail
  refine (kinds_any g 0 w1 HR.out (by omega)).mono ?_
  rintro e w2 ⟨ad, cap, ks, rfl, h3, h4, hs, hst, he⟩
  obtain ⟨⟨q, hq, hrq⟩, _⟩ := id hst
  have HO := Lib.hid (hst.old HB.out hg)
  have HS := Lib.hid hs
  have hg2 : g < w2.heap.size := Nat.lt_of_lt_of_le hgl hst.grown.size
  have HF2 := Lib.hid (show ∀ b, Fresh w1 w2 b → b < w2.heap.size ∧ b ≠ g from fun b hb => ⟨hb.2, by have := hb.1; omega⟩)
  have H4 := Lib.hid (show ∀ r ∈ ks, r.length ≤ 10 from fun r hr => by have := h4 r hr; omega)
  have HL := Lib.hid (show Lens ks from ⟨h3, h4⟩)
  have HE := Lib.hid he
  have HS2 := Lib.hid (show Step g q 0 w2 w2 from Step.start hrq)
  clear hs hst h4 hrq he
  go_wp2_with fail
  refine (type_step HS2.out (by omega) HS.out HF2.out (by omega) H4.out).mono ?_
  rintro e w3 ⟨t, ⟨ht, _⟩, rfl, hS3, hg3⟩
  obtain ⟨⟨q3, hq3, hr3⟩, _⟩ := id hS3
  have HS3 := Lib.hid hS3
  have HV3 := Lib.hid (HS.out.keep (HS3.out.keeps HF2.out))
  have HF3 := Lib.hid (HS3.out.ups HF2.out)
  have hR := Lib.hid (rank3_le HL.out t)
  have hvm := vmax_le 9 (by omega)
  have HVA := Lib.hid (value_any HL.out HE.out (Fresh w1 w2) g _ 9 t w3 q3 hR.out (by omega) hr3 (by omega) (by omega) HV3.out HF3.out)
  clear hS3 hg3 hr3
  go_wp2_with fail
  with_reducible refine HVA.out.mono ?_
  rintro e w4 ⟨⟨ty, n, ps, pa⟩, A, c, rfl, hpa, hlen, hrd, hsz, hS4⟩
  obtain rfl : pa = [] := hpa
  obtain ⟨⟨q4, hq4, hr4⟩, _⟩ := id hS4
  have HS4 := Lib.hid hS4
  have HV4 := Lib.hid (HV3.out.keep (HS4.out.keeps HF3.out))
  have HF4 := Lib.hid (show ∀ b, Fresh w3 w4 b → b < w4.heap.size ∧ b ≠ g from fun b hb => ⟨hb.2, by have := hb.1; have := HS3.out.size; omega⟩)
  have HBD := Lib.hid (bad_any (Fresh w3 w4) g q4 9 (vmax 9 : Nat) ty n ps A c w4 hr4 (by omega) hrd HF4.out hlen hsz)
  clear hS4 hr4 hrd hsz hvm hlen
  go_wp2_with fail
  refine HBD.out.mono ?_
  rintro e w5 ⟨v5, A5, c5, B5, c5', rfl, hrd, hsz, hlen, hS5⟩
  have HS5 := Lib.hid hS5
  obtain ⟨⟨q5, hq5, hr5⟩, _⟩ := id hS5
  obtain ⟨w6, hw6⟩ : ∃ w6, w6 = w5.alloc (.cells #[.string v5.ty, .int .i64 v5.n, .slice A5 v5.parts.length c5, .slice B5 v5.path.length c5'] 32) := ⟨_, rfl⟩
  have hb6 : Below w5.heap.size w5 w6 := by rw [hw6]; exact (Below.refl _ _).alloc (Nat.le_refl _) _
  have HB6 := Lib.hid (show Blk w6 w5.heap.size 32 #[.string v5.ty, .int .i64 v5.n, .slice A5 v5.parts.length c5, .slice B5 v5.path.length c5'] by rw [hw6]; exact Blk.new _ _ _)
  have hz2 := HS3.out.size
  have hz3 := HS4.out.size
  have hz4 := hS5.size
  have hO5 := Lib.hid (hS5.old (HS4.out.old (HS3.out.old HO.out hg) hg) hg)
  have HV6 := Lib.hid ((HV4.out.keep fun b hb => hS5.grown.block b (by have := hb.2; omega) (by have := hb.1; simp; omega)).keep fun b hb => hb6.block b (by have := hb.2; omega))
  have HD6 := Lib.hid (VRd.keep (w := w5) (w' := w6) (fun b hb => hb6.block b (by rcases hb with hb | hb <;> · have := hb.2; omega)) hrd)
  have hr6 := hr5.keep (w' := w6) (fun b hb => hb6.block b hb) hb6.size
  have hvm := vmax_le 9 (by omega)
  have HK6 := Lib.hid (kind_step (p := q5) (N := 0) (w0 := w6) (w := w6) (F := Fresh w1 w2) (Step.start hr6) (by omega) HV6.out (fun b hb => ⟨by have := hb.2; have := hb6.size; omega, by have := hb.1; omega⟩) (by omega) H4.out)
  have Hw6 := Lib.hid hw6
  have HE6 := Lib.hid hb6
  have Hz := Lib.hid hsz
  have Hz0 := Lib.hid HO.out.size
  clear hrd hsz hS5 hw6 hb6 hr5 hr6 hvm
  go_upto_region 4 with fail
  rw [← Hw6.out]
  go_wp2_with fail
  refine HK6.out.mono ?_
  rintro e w7 ⟨kd, hkd, rfl, hS7, hg7⟩
  have hz6 := HE6.out.size
  have hz7 := hg7.size
  have hzO := Hz0.out
  have hlg : w0.heap.size ≤ g := hg
  have hB7 := Lib.hid (show Blk w7 w5.heap.size 32 #[.string v5.ty, .int .i64 v5.n, .slice A5 v5.parts.length c5, .slice B5 v5.path.length c5'] from (hg7.block _ HB6.out.lt (by simp; omega)).trans HB6.out)
  have hE7 : Below w0.heap.size w0 w7 := (hO5.out.trans (HE6.out.mono (by omega))).trans (below_grown hg7 hlg (by omega))
  have hR7 : Blk w7 w.heap.size 32 #[.string ⟨#[]⟩, .int .i64 0, .slice none 0 0, .slice none 0 0] := HR0.out.below hE7 hlw
  have hI7 : KvIn w0 w7 ad cap ks v5 A5 c5 B5 c5' := ⟨⟨(HV6.out.keep fun b hb => hg7.block b (by have := hb.2; omega) (by have := hb.1; simp; omega)).mono fun b hb => ⟨by have := hb.1; have := HB.out.size; omega, by have := hb.2; omega⟩, hE7⟩,
    (VRd.keep (w := w6) (w' := w7) (fun b hb => hg7.block b (by rcases hb with hb | hb <;> · have := hb.2; omega) (by rcases hb with hb | hb <;> · have := hb.1; simp; omega)) HD6.out).mono (fun b hb => by rcases hb with hb | hb <;> exact ⟨by have := hb.1; have := HB.out.size; omega, by have := hb.2; omega⟩), Int.le_trans Hz.out (by decide +kernel), hlen⟩
  have HQ := Lib.hid (hI7.end_ (a0 := .string v5.ty) (a1 := .int .i64 v5.n) (a2 := .slice A5 v5.parts.length c5) (a3 := .slice B5 v5.path.length c5') HE0.out hlw hR7)
  obtain ⟨x0, x1, x2, x3⟩ := hB7.out.c2
  obtain ⟨y0, y1, y2, y3⟩ := hR7.c2
  obtain ⟨f0, f1, f2, f3⟩ := hR7.f4
  have hlw7 : w.heap.size < w7.heap.size := hR7.lt
  clear hS7 hg7 hE7 hR7 hI7 hz6 hz7 hzO hlg hz2 hz3 hz4
  go_upto_region 5 with fail
  go_region
  go_wp2
  obtain ⟨hre, hq⟩ := HQ.out
  obtain ⟨r0, r1, r2, r3⟩ := hre.c2
  exact bodyPost_ret (v := .tuple #[.slice (some ⟨ad, 0, none⟩) ks.length cap, .agg #[.string v5.ty, .int .i64 v5.n, .slice A5 v5.parts.length c5, .slice B5 v5.path.length c5'], .string kd]) (by simp [results, Try.results10, go_sem, r0, r1, r2, r3]) rfl ⟨ad, cap, ks, v5, A5, c5, B5, c5', kd, rfl, hkd, hq.drew⟩
end Go.Proofs.Ytelhjdccfomafaa
