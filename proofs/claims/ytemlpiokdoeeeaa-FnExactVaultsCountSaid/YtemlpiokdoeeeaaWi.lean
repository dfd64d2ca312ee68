/- The model's VaultsGet. -/
import Derived.Test.YtemlpiokdoeeeaaWf
namespace Go.Proofs.Ytemlpiokdoeeeaa
open Go.RowKit

def idxK (ks : Ks) (d : Nat) (xs : List KepR) (o : Int) (t : ByteArray) : Option Nat := if vOk ks d xs = true then (if 0 ≤ findK o t xs 0 then some (findK o t xs 0).toNat else none) else none
theorem idxK_no {ks : Ks} {d : Nat} {xs : List KepR} {o : Int} {t : ByteArray} (h : vOk ks d xs = false) : idxK ks d xs o t = none := by unfold idxK; rw [h]; rfl
theorem idxK_neg {ks : Ks} {d : Nat} {xs : List KepR} {o : Int} {t : ByteArray} (h : findK o t xs 0 < 0) : idxK ks d xs o t = none := by unfold idxK; rw [if_neg (show ¬ 0 ≤ findK o t xs 0 by omega)]; split <;> rfl
theorem idxK_yes {ks : Ks} {d : Nat} {xs : List KepR} {o : Int} {t : ByteArray} (h : vOk ks d xs = true) (h0 : ¬ findK o t xs 0 < 0) : ∃ j, idxK ks d xs o t = some j ∧ findK o t xs 0 = (j : Int) ∧ j < xs.length := by
  rcases findK_at (o := o) (t := t) xs 0 with h1 | ⟨j, hj, h2, -⟩
  · omega
  · refine ⟨j, ?_, by omega, hj⟩
    unfold idxK
    rw [if_pos h, if_pos (by omega), h2]
    simp
theorem idxK_some {ks : Ks} {d : Nat} {xs : List KepR} {o : Int} {t : ByteArray} {j : Nat} (h : idxK ks d xs o t = some j) : vOk ks d xs = true ∧ findK o t xs 0 = (j : Int) ∧ j < xs.length := by
  cases hv : vOk ks d xs with
  | false => rw [idxK_no hv] at h; cases h
  | true =>
    by_cases h0 : findK o t xs 0 < 0
    · rw [idxK_neg h0] at h; cases h
    · obtain ⟨j', h1, h2, h3⟩ := idxK_yes hv h0
      rw [h1] at h
      cases h
      exact ⟨rfl, h2, h3⟩
def zeroV5 : Val := .mk ⟨#[]⟩ 0 [] []
def getR (ks : Ks) (d : Nat) (xs : List KepR) (o : Int) (t : ByteArray) : Val × Bool := match idxK ks d xs o t with | some j => ((xs.getD j zeroK).v, true) | none => (zeroV5, false)
def GetD (d : Nat) (r : Val × Bool) (w : World) (e : Ending) (w' : World) : Prop :=
  ∃ A cA B cB, e = .returned (.tuple #[.agg #[.string r.1.ty, .int .i64 r.1.n, .slice A r.1.parts.length cA, .slice B r.1.path.length cB], .bool r.2]) ∧ MadeV (Cod.val d) w w' (.slice A r.1.parts.length cA) (.slice B r.1.path.length cB) r.1
theorem zero_made {d : Nat} {w w' : World} (h : Below w.heap.size w w') : MadeV (Cod.val d) w w' (.slice none 0 0) (.slice none 0 0) zeroV5 := ⟨⟨(by show (0 : Nat) ≤ maxLen; unfold maxLen; omega), (by show I64 0; unfold I64; omega), Cod.Sl.nil_, Cod.Sl.nil_⟩, h⟩
theorem set4_below {w w' : World} {B g : Nat} (hb : Below B w w') (hg : B ≤ g) (a b c d : Value) : Below B w ((((w'.setCell ⟨g, 0, none⟩ a).setCell ⟨g, 1, none⟩ b).setCell ⟨g, 2, none⟩ c).setCell ⟨g, 3, none⟩ d) := (((hb.setCell hg _).setCell hg _).setCell hg _).setCell hg _
theorem set4_blk {w : World} {g : Nat} {t : TypeId} {a0 b0 c0 d0 : Value} (h : Blk w g t #[a0, b0, c0, d0]) (a b c d : Value) : Blk ((((w.setCell ⟨g, 0, none⟩ a).setCell ⟨g, 1, none⟩ b).setCell ⟨g, 2, none⟩ c).setCell ⟨g, 3, none⟩ d) g t #[a, b, c, d] := (((h.set_ 0 _).set_ 1 _).set_ 2 _).set_ 3 _
theorem set4_heap {w : World} {g : Nat} (a b c d : Value) {i : Nat} (h : i ≠ g) : ((((w.setCell ⟨g, 0, none⟩ a).setCell ⟨g, 1, none⟩ b).setCell ⟨g, 2, none⟩ c).setCell ⟨g, 3, none⟩ d).heap[i]? = w.heap[i]? := by
  rw [Below.heap_setCell _ _ _ _ h, Below.heap_setCell _ _ _ _ h, Below.heap_setCell _ _ _ _ h, Below.heap_setCell _ _ _ _ h]
theorem set4_size {w : World} {g : Nat} (a b c d : Value) : ((((w.setCell ⟨g, 0, none⟩ a).setCell ⟨g, 1, none⟩ b).setCell ⟨g, 2, none⟩ c).setCell ⟨g, 3, none⟩ d).heap.size = w.heap.size := by simp [World.setCell]

set_option maxRecDepth 100000 in
set_option maxHeartbeats 4000000 in
theorem specVaultsGet_any {ks : Ks} (d : Nat) (F : Nat → Prop) (kv v : Value) (xs : List KepR) (o : Int) (t : ByteArray) (w : World) (hks : Cod.recs.Sl F w kv ks) (h : (Cod.kept (Cod.val d)).Sl F w v xs) (hF : ∀ b, F b → b < w.heap.size) (hsm : ∀ x ∈ xs, SmolKep d x) :
    Calls Try.prog 21 #[kv, v, .int .i64 o, .string t] w (GetD d (getR ks d xs o t) w) := by
  obtain ⟨w0, hw0⟩ : ∃ w0, w0 = w.alloc (.cells #[.string ⟨#[]⟩, .int .i64 0, .slice none 0 0, .slice none 0 0] 31) := ⟨_, rfl⟩
  have hb0 : Below w.heap.size w w0 := by rw [hw0]; exact (Below.refl _ _).alloc (Nat.le_refl _) _
  have hs0 : w0.heap.size = w.heap.size + 1 := by rw [hw0]; simp
  have HR0 := Lib.hid (show Blk w0 w.heap.size 31 #[.string ⟨#[]⟩, .int .i64 0, .slice none 0 0, .slice none 0 0] by rw [hw0]; exact Blk.new _ _ _)
  have hk0 : ∀ b, F b → w0.heap[b]? = w.heap[b]? := fun b hb => hb0.block b (hF b hb)
  have hF0 : ∀ b, F b → b < w0.heap.size := fun b hb => by have := hF b hb; omega
  have HV := Lib.hid (h.keep hk0)
  have HFd := Lib.hid (l9Find_any d F v xs o t w0 HV.out)
  have HVo := Lib.hid (specVaultsOk_any d F kv v xs w0 (hks.keep hk0) HV.out hF0)
  have HF := Lib.hid hF0
  have HE := Lib.hid hb0
  have Hw0 := Lib.hid hw0
  have HSm := Lib.hid hsm
  have hr0 : w.heap.size < w0.heap.size := by omega
  have Hs0 := Lib.hid hs0
  obtain ⟨Ak, ck, rfl, _⟩ := hks
  obtain ⟨A, cap, rfl, hlc, hcm, _⟩ := h
  unfold maxLen at hcm
  obtain ⟨z, hz⟩ : ∃ z, z = findK o t xs 0 := ⟨_, rfl⟩
  rw [← hz] at HFd
  clear hb0 hs0 hk0 hF0 hw0 hF hsm
  cases hv : vOk ks d xs with
  | false =>
    rw [hv] at HVo
    have HG := Lib.hid (show getR ks d xs o t = (zeroV5, false) by unfold getR; rw [idxK_no hv])
    clear hv hz
    go_enter Try.func21, Try.ntmps21
    go_wp2_with fail
    rw [← Hw0.out]
    go_at_call 57
    with_reducible refine HFd.out.mono ?_
    rintro e w1 ⟨rfl, rfl⟩
    go_wp2_with fail
    go_at_call 12
    with_reducible refine HVo.out.mono ?_
    rintro e w2 ⟨rfl, hb2⟩
    have hR2 := HR0.out.below hb2 hr0
    obtain ⟨x0, x1, x2, x3⟩ := hR2.c2
    obtain ⟨y0, y1, y2, y3⟩ := hR2.f4
    obtain ⟨wE, hwE⟩ : ∃ wE, wE = (((w2.setCell ⟨w.heap.size, 0, none⟩ (.string ⟨#[]⟩)).setCell ⟨w.heap.size, 1, none⟩ (.int .i64 0)).setCell ⟨w.heap.size, 2, none⟩ (.slice none 0 0)).setCell ⟨w.heap.size, 3, none⟩ (.slice none 0 0) := ⟨_, rfl⟩
    have HRE := Lib.hid (show Blk wE w.heap.size 31 #[.string ⟨#[]⟩, .int .i64 0, .slice none 0 0, .slice none 0 0] by rw [hwE]; exact set4_blk hR2 _ _ _ _)
    have HQ := Lib.hid (show GetD d (getR ks d xs o t) w (.returned (.tuple #[.agg #[.string ⟨#[]⟩, .int .i64 0, .slice none 0 0, .slice none 0 0], .bool false])) wE by
      rw [HG.out]
      exact ⟨none, 0, none, 0, rfl, zero_made (by rw [hwE]; exact set4_below (HE.out.trans (hb2.mono HE.out.size)) (Nat.le_refl _) _ _ _ _)⟩)
    have HwE := Lib.hid hwE
    clear hwE hb2 hR2 HVo HFd
    go_wp2
    rw [← HwE.out]
    obtain ⟨r0, r1, r2, r3⟩ := HRE.out.c2
    exact bodyPost_ret (v := .tuple #[.agg #[.string ⟨#[]⟩, .int .i64 0, .slice none 0 0, .slice none 0 0], .bool false]) (by simp [results, Try.results21, go_sem, r0, r1, r2, r3]) rfl HQ.out
  | true =>
    rw [hv] at HVo
    by_cases hz0 : z < 0
    · have HG := Lib.hid (show getR ks d xs o t = (zeroV5, false) by unfold getR; rw [idxK_neg (by rw [← hz]; exact hz0)])
      clear hv hz
      go_enter Try.func21, Try.ntmps21
      go_wp2_with fail
      rw [← Hw0.out]
      go_at_call 57
      with_reducible refine HFd.out.mono ?_
      rintro e w1 ⟨rfl, rfl⟩
      go_wp2_with fail
      go_at_call 12
      with_reducible refine HVo.out.mono ?_
      rintro e w2 ⟨rfl, hb2⟩
      have hR2 := HR0.out.below hb2 hr0
      obtain ⟨x0, x1, x2, x3⟩ := hR2.c2
      obtain ⟨y0, y1, y2, y3⟩ := hR2.f4
      obtain ⟨wE, hwE⟩ : ∃ wE, wE = (((w2.setCell ⟨w.heap.size, 0, none⟩ (.string ⟨#[]⟩)).setCell ⟨w.heap.size, 1, none⟩ (.int .i64 0)).setCell ⟨w.heap.size, 2, none⟩ (.slice none 0 0)).setCell ⟨w.heap.size, 3, none⟩ (.slice none 0 0) := ⟨_, rfl⟩
      have HRE := Lib.hid (show Blk wE w.heap.size 31 #[.string ⟨#[]⟩, .int .i64 0, .slice none 0 0, .slice none 0 0] by rw [hwE]; exact set4_blk hR2 _ _ _ _)
      have HQ := Lib.hid (show GetD d (getR ks d xs o t) w (.returned (.tuple #[.agg #[.string ⟨#[]⟩, .int .i64 0, .slice none 0 0, .slice none 0 0], .bool false])) wE by
        rw [HG.out]
        exact ⟨none, 0, none, 0, rfl, zero_made (by rw [hwE]; exact set4_below (HE.out.trans (hb2.mono HE.out.size)) (Nat.le_refl _) _ _ _ _)⟩)
      have HwE := Lib.hid hwE
      clear hwE hb2 hR2 HVo HFd
      go_wp2
      rw [← HwE.out]
      obtain ⟨r0, r1, r2, r3⟩ := HRE.out.c2
      exact bodyPost_ret (v := .tuple #[.agg #[.string ⟨#[]⟩, .int .i64 0, .slice none 0 0, .slice none 0 0], .bool false]) (by simp [results, Try.results21, go_sem, r0, r1, r2, r3]) rfl HQ.out
    · obtain ⟨j, hj1, hj2, hj3⟩ := idxK_yes (o := o) (t := t) hv (by rw [← hz]; exact hz0)
      obtain rfl : z = (j : Int) := by rw [hz, hj2]
      have HG := Lib.hid (show getR ks d xs o t = (xs[j].v, true) by unfold getR; rw [hj1]; simp only [getK hj3])
      obtain ⟨b, off, cap', A2, cA2, B2, cB2, hvv, hFb, _, _, hc0, hc1, hc2, hc3, hc4, -, hV⟩ := HV.out.kept_at hj3
      obtain ⟨rfl, rfl⟩ : A = some ⟨b, off, none⟩ ∧ cap = cap' := by simpa using hvv
      have hbl := HF.out b hFb
      have hsx := HSm.out _ (List.getElem_mem hj3)
      have HCp := Lib.hid (fun (W : World) (hb : Below w0.heap.size w0 W) => l2Copy_any d F A2 B2 _ _ cA2 cB2 xs[j].v W (hV.keep (below_keeps hb HF.out)) (below_goF HF.out hb) hsx)
      have i0 : (0 : Int) ≤ j := by omega
      have i1 : (j : Int) < xs.length := by omega
      clear hv hz hj1 hj2 hvv hV hsx
      generalize xs[j] = x at *
      go_enter Try.func21, Try.ntmps21
      go_wp2_with fail
      rw [← Hw0.out]
      go_at_call 57
      with_reducible refine HFd.out.mono ?_
      rintro e w1 ⟨rfl, rfl⟩
      go_wp2_with fail
      go_at_call 12
      with_reducible refine HVo.out.mono ?_
      rintro e w2 ⟨rfl, hb2⟩
      have HC := Lib.hid (HCp.out w2 hb2)
      have z1 := (hb2.cell (p := ⟨b, off + j * 5 + 1, none⟩) hbl).trans hc1
      have z2 := (hb2.cell (p := ⟨b, off + j * 5 + 2, none⟩) hbl).trans hc2
      have z3 := (hb2.cell (p := ⟨b, off + j * 5 + 3, none⟩) hbl).trans hc3
      have z4 := (hb2.cell (p := ⟨b, off + j * 5 + 4, none⟩) hbl).trans hc4
      have HB2 := Lib.hid hb2
      clear hb2 hc0 hc1 hc2 hc3 hc4 HVo HFd
      go_wp2_with fail
      go_at_call 58
      with_reducible refine HC.out.mono ?_
      rintro e w3 ⟨A1, cA1, B1, cB1, rfl, hMV⟩
      have hb3 := HB2.out.trans (hMV.2.mono HB2.out.size)
      have hR2 := HR0.out.below hb3 hr0
      obtain ⟨x0, x1, x2, x3⟩ := hR2.c2
      obtain ⟨y0, y1, y2, y3⟩ := hR2.f4
      obtain ⟨wE, hwE⟩ : ∃ wE, wE = (((w3.setCell ⟨w.heap.size, 0, none⟩ (.string x.v.ty)).setCell ⟨w.heap.size, 1, none⟩ (.int .i64 x.v.n)).setCell ⟨w.heap.size, 2, none⟩ (.slice A1 x.v.parts.length cA1)).setCell ⟨w.heap.size, 3, none⟩ (.slice B1 x.v.path.length cB1) := ⟨_, rfl⟩
      have HRE := Lib.hid (show Blk wE w.heap.size 31 #[.string x.v.ty, .int .i64 x.v.n, .slice A1 x.v.parts.length cA1, .slice B1 x.v.path.length cB1] by rw [hwE]; exact set4_blk hR2 _ _ _ _)
      have hs2 := HB2.out.size
      have hs3 := Hs0.out
      have HQ := Lib.hid (show GetD d (getR ks d xs o t) w (.returned (.tuple #[.agg #[.string x.v.ty, .int .i64 x.v.n, .slice A1 x.v.parts.length cA1, .slice B1 x.v.path.length cB1], .bool true])) wE by
        rw [HG.out]
        refine ⟨A1, cA1, B1, cB1, rfl, (hMV.1.keep (w' := wE) fun b hb => ?_).mono fun b hb => ⟨?_, ?_⟩, ?_⟩
        · rw [hwE]; exact set4_heap _ _ _ _ (by have := hb.1; omega)
        · have := hb.1; omega
        · rw [hwE, set4_size]; exact hb.2
        · rw [hwE]; exact set4_below (HE.out.trans (hb3.mono HE.out.size)) (Nat.le_refl _) _ _ _ _)
      have HwE := Lib.hid hwE
      clear hwE hb3 hR2 hMV hs2 hs3 z1 z2 z3 z4
      go_wp2
      rw [← HwE.out]
      obtain ⟨r0, r1, r2, r3⟩ := HRE.out.c2
      exact bodyPost_ret (v := .tuple #[.agg #[.string x.v.ty, .int .i64 x.v.n, .slice A1 x.v.parts.length cA1, .slice B1 x.v.path.length cB1], .bool true]) (by simp [results, Try.results21, go_sem, r0, r1, r2, r3]) rfl HQ.out
end Go.Proofs.Ytemlpiokdoeeeaa
