/- The model's VaultsTake. -/
import Derived.Test.YtemlpiokdoeeeaaWj
import Derived.Test.YtemlpiokdoeeeaaWh
namespace Go.Proofs.Ytemlpiokdoeeeaa
open Go.RowKit

def takeR (ks : Ks) (d : Nat) (xs : List KepR) (o : Int) (t : ByteArray) : List KepR × Val × Bool := match idxK ks d xs o t with | some j => (xs.take j ++ xs.drop (j + 1), (xs.getD j zeroK).v, true) | none => ([], zeroV5, false)
theorem takeR_no {ks : Ks} {d : Nat} {xs : List KepR} {o : Int} {t : ByteArray} (h : idxK ks d xs o t = none) : takeR ks d xs o t = ([], zeroV5, false) := by unfold takeR; rw [h]
def TakeD (d : Nat) (r : List KepR × Val × Bool) (w : World) (e : Ending) (w' : World) : Prop :=
  ∃ A cap A1 cA B cB, e = .returned (.tuple #[.slice A r.1.length cap, .agg #[.string r.2.1.ty, .int .i64 r.2.1.n, .slice A1 r.2.1.parts.length cA, .slice B r.2.1.path.length cB], .bool r.2.2]) ∧ Made (Cod.kept (Cod.val d)) w w' (.slice A r.1.length cap) r.1 ∧ MadeV (Cod.val d) w w' (.slice A1 r.2.1.parts.length cA) (.slice B r.2.1.path.length cB) r.2.1

theorem TakeEnd {ks : Ks} {d : Nat} {xs : List KepR} {o : Int} {t : ByteArray} {w w0 wl wE : World} {ys : List KepR} {x : Val} {Av A1 B1 : Option Addr} {cv cA1 cB1 : Nat} (hr0 : w.heap.size < w0.heap.size) (hE : Below w.heap.size w w0) (hl : Below w0.heap.size w0 wl) (hG : takeR ks d xs o t = (ys, x, true)) (hrow : (Cod.kept (Cod.val d)).Sl (fun b => w0.heap.size ≤ b ∧ b < wl.heap.size) wl (.slice Av ys.length cv) ys) (hval : VRd (Cod.val d) (fun b => w0.heap.size ≤ b ∧ b < wl.heap.size) wl (.slice A1 x.parts.length cA1) (.slice B1 x.path.length cB1) x)
    (hwE : wE = (((wl.setCell ⟨w.heap.size, 0, none⟩ (.string x.ty)).setCell ⟨w.heap.size, 1, none⟩ (.int .i64 x.n)).setCell ⟨w.heap.size, 2, none⟩ (.slice A1 x.parts.length cA1)).setCell ⟨w.heap.size, 3, none⟩ (.slice B1 x.path.length cB1)) :
    TakeD d (takeR ks d xs o t) w (.returned (.tuple #[.slice Av ys.length cv, .agg #[.string x.ty, .int .i64 x.n, .slice A1 x.parts.length cA1, .slice B1 x.path.length cB1], .bool true])) wE := by
  have hk : ∀ b, w0.heap.size ≤ b ∧ b < wl.heap.size → wE.heap[b]? = wl.heap[b]? := fun b hb => by rw [hwE]; exact set4_heap _ _ _ _ (by have := hb.1; omega)
  have hs : wE.heap.size = wl.heap.size := by rw [hwE, set4_size]
  have hb : Below w.heap.size w wE := by rw [hwE]; exact set4_below (hE.trans (hl.mono hE.size)) (Nat.le_refl _) _ _ _ _
  have hu : ∀ b, w0.heap.size ≤ b ∧ b < wl.heap.size → Fresh w wE b := fun b hb => ⟨by have := hb.1; omega, by rw [hs]; exact hb.2⟩
  rw [hG]
  exact ⟨Av, cv, A1, cA1, B1, cB1, rfl, ⟨(hrow.keep hk).mono hu, hb⟩, ⟨(hval.keep hk).mono hu, hb⟩⟩

set_option maxRecDepth 100000 in
set_option maxHeartbeats 4000000 in
theorem specVaultsTake_any {ks : Ks} (d : Nat) (F : Nat → Prop) (kv v : Value) (xs : List KepR) (o : Int) (t : ByteArray) (w : World) (hks : Cod.recs.Sl F w kv ks) (h : (Cod.kept (Cod.val d)).Sl F w v xs) (hF : ∀ b, F b → b < w.heap.size) (hsm : ∀ x ∈ xs, SmolKep d x) :
    Calls Try.prog 32 #[kv, v, .int .i64 o, .string t] w (TakeD d (takeR ks d xs o t) w) := by
  obtain ⟨w0, hw0⟩ : ∃ w0, w0 = w.alloc (.cells #[.string ⟨#[]⟩, .int .i64 0, .slice none 0 0, .slice none 0 0] 31) := ⟨_, rfl⟩
  have hb0 : Below w.heap.size w w0 := by rw [hw0]; exact (Below.refl _ _).alloc (Nat.le_refl _) _
  have hs0 : w0.heap.size = w.heap.size + 1 := by rw [hw0]; simp
  have HR0 := Lib.hid (show Blk w0 w.heap.size 31 #[.string ⟨#[]⟩, .int .i64 0, .slice none 0 0, .slice none 0 0] by rw [hw0]; exact Blk.new _ _ _)
  have hk0 : ∀ b, F b → w0.heap[b]? = w.heap[b]? := fun b hb => hb0.block b (hF b hb)
  have hF0 : ∀ b, F b → b < w0.heap.size := fun b hb => by have := hF b hb; omega
  have HV := Lib.hid (h.keep hk0)
  have HFd := Lib.hid (l9Find_any d F v xs o t w0 HV.out)
  have HVo := Lib.hid (specVaultsOk_any d F kv v xs w0 (hks.keep hk0) HV.out hF0)
  have HF := Lib.hid hF0
  have HE := Lib.hid hb0
  have Hw0 := Lib.hid hw0
  have HSm := Lib.hid hsm
  have hr0 : w.heap.size < w0.heap.size := by omega
  have Hs0 := Lib.hid hs0
  obtain ⟨Ak, ck, rfl, _⟩ := hks
  obtain ⟨A, cap, rfl, hlc, hcm, _⟩ := h
  unfold maxLen at hcm
  obtain ⟨z, hz⟩ : ∃ z, z = findK o t xs 0 := ⟨_, rfl⟩
  rw [← hz] at HFd
  clear hb0 hs0 hk0 hF0 hw0 hF hsm
  cases hv : vOk ks d xs with
  | false =>
    rw [hv] at HVo
    have HG := Lib.hid (takeR_no (ks := ks) (d := d) (xs := xs) (o := o) (t := t) (idxK_no hv))
    clear hv hz
    go_enter Try.func32, Try.ntmps32
    go_wp2_with fail
    rw [← Hw0.out]
    go_at_call 57
    with_reducible refine HFd.out.mono ?_
    rintro e w1 ⟨rfl, rfl⟩
    go_wp2_with fail
    go_at_call 12
    with_reducible refine HVo.out.mono ?_
    rintro e w2 ⟨rfl, hb2⟩
    obtain ⟨w3, hw3⟩ : ∃ w3, w3 = w2.alloc (.cells #[] 35) := ⟨_, rfl⟩
    have hb3 : Below w1.heap.size w1 w3 := by rw [hw3]; exact hb2.alloc hb2.size _
    have hs3 : w2.heap.size < w3.heap.size := by rw [hw3]; simp
    have hR3 := HR0.out.below hb3 hr0
    obtain ⟨x0, x1, x2, x3⟩ := hR3.c2
    obtain ⟨y0, y1, y2, y3⟩ := hR3.f4
    obtain ⟨wE, hwE⟩ : ∃ wE, wE = (((w3.setCell ⟨w.heap.size, 0, none⟩ (.string ⟨#[]⟩)).setCell ⟨w.heap.size, 1, none⟩ (.int .i64 0)).setCell ⟨w.heap.size, 2, none⟩ (.slice none 0 0)).setCell ⟨w.heap.size, 3, none⟩ (.slice none 0 0) := ⟨_, rfl⟩
    have HRE := Lib.hid (show Blk wE w.heap.size 31 #[.string ⟨#[]⟩, .int .i64 0, .slice none 0 0, .slice none 0 0] by rw [hwE]; exact set4_blk hR3 _ _ _ _)
    have hbE : Below w.heap.size w wE := by rw [hwE]; exact set4_below (HE.out.trans (hb3.mono HE.out.size)) (Nat.le_refl _) _ _ _ _
    have HQ := Lib.hid (show TakeD d (takeR ks d xs o t) w (.returned (.tuple #[.slice (some ⟨w2.heap.size, 0, none⟩) 0 0, .agg #[.string ⟨#[]⟩, .int .i64 0, .slice none 0 0, .slice none 0 0], .bool false])) wE by
      rw [HG.out]
      exact ⟨_, 0, none, 0, none, 0, rfl, ⟨Cod.Sl.none_len5 (Nat.zero_le _), hbE⟩, zero_made hbE⟩)
    have HwE := Lib.hid hwE
    have Hw3 := Lib.hid hw3
    clear hwE hb2 hb3 hR3 HVo HFd hbE hw3
    rw [Hw3.out] at x0 x1 x2 x3 y0 y1 y2 y3
    go_wp2
    rw [← Hw3.out, ← HwE.out]
    obtain ⟨r0, r1, r2, r3⟩ := HRE.out.c2
    exact bodyPost_ret (v := .tuple #[.slice (some ⟨w2.heap.size, 0, none⟩) 0 0, .agg #[.string ⟨#[]⟩, .int .i64 0, .slice none 0 0, .slice none 0 0], .bool false]) (by simp [results, Try.results32, go_sem, r0, r1, r2, r3]) rfl HQ.out
  | true =>
    rw [hv] at HVo
    by_cases hz0 : z < 0
    · have HG := Lib.hid (takeR_no (ks := ks) (d := d) (xs := xs) (o := o) (t := t) (idxK_neg (by rw [← hz]; exact hz0)))
      clear hv hz
      go_enter Try.func32, Try.ntmps32
      go_wp2_with fail
      rw [← Hw0.out]
      go_at_call 57
      with_reducible refine HFd.out.mono ?_
      rintro e w1 ⟨rfl, rfl⟩
      go_wp2_with fail
      go_at_call 12
      with_reducible refine HVo.out.mono ?_
      rintro e w2 ⟨rfl, hb2⟩
      obtain ⟨w3, hw3⟩ : ∃ w3, w3 = w2.alloc (.cells #[] 35) := ⟨_, rfl⟩
      have hb3 : Below w1.heap.size w1 w3 := by rw [hw3]; exact hb2.alloc hb2.size _
      have hs3 : w2.heap.size < w3.heap.size := by rw [hw3]; simp
      have hR3 := HR0.out.below hb3 hr0
      obtain ⟨x0, x1, x2, x3⟩ := hR3.c2
      obtain ⟨y0, y1, y2, y3⟩ := hR3.f4
      obtain ⟨wE, hwE⟩ : ∃ wE, wE = (((w3.setCell ⟨w.heap.size, 0, none⟩ (.string ⟨#[]⟩)).setCell ⟨w.heap.size, 1, none⟩ (.int .i64 0)).setCell ⟨w.heap.size, 2, none⟩ (.slice none 0 0)).setCell ⟨w.heap.size, 3, none⟩ (.slice none 0 0) := ⟨_, rfl⟩
      have HRE := Lib.hid (show Blk wE w.heap.size 31 #[.string ⟨#[]⟩, .int .i64 0, .slice none 0 0, .slice none 0 0] by rw [hwE]; exact set4_blk hR3 _ _ _ _)
      have hbE : Below w.heap.size w wE := by rw [hwE]; exact set4_below (HE.out.trans (hb3.mono HE.out.size)) (Nat.le_refl _) _ _ _ _
      have HQ := Lib.hid (show TakeD d (takeR ks d xs o t) w (.returned (.tuple #[.slice (some ⟨w2.heap.size, 0, none⟩) 0 0, .agg #[.string ⟨#[]⟩, .int .i64 0, .slice none 0 0, .slice none 0 0], .bool false])) wE by
        rw [HG.out]
        exact ⟨_, 0, none, 0, none, 0, rfl, ⟨Cod.Sl.none_len5 (Nat.zero_le _), hbE⟩, zero_made hbE⟩)
      have HwE := Lib.hid hwE
      have Hw3 := Lib.hid hw3
      clear hwE hb2 hb3 hR3 HVo HFd hbE hw3
      rw [Hw3.out] at x0 x1 x2 x3 y0 y1 y2 y3
      go_wp2
      rw [← Hw3.out, ← HwE.out]
      obtain ⟨r0, r1, r2, r3⟩ := HRE.out.c2
      exact bodyPost_ret (v := .tuple #[.slice (some ⟨w2.heap.size, 0, none⟩) 0 0, .agg #[.string ⟨#[]⟩, .int .i64 0, .slice none 0 0, .slice none 0 0], .bool false]) (by simp [results, Try.results32, go_sem, r0, r1, r2, r3]) rfl HQ.out
    · obtain ⟨j, hj1, hj2, hj3⟩ := idxK_yes (o := o) (t := t) hv (by rw [← hz]; exact hz0)
      obtain rfl : z = (j : Int) := by rw [hz, hj2]
      obtain ⟨-, h36⟩ := vOk_ables hv
      have HG := Lib.hid (show takeR ks d xs o t = (xs.take j ++ xs.drop (j + 1), xs[j].v, true) by unfold takeR; rw [hj1]; simp only [getK hj3])
      obtain ⟨b, off, cap', A2, cA2, B2, cB2, hvv, hFb, _, _, hc0, hc1, hc2, hc3, hc4, -, hV⟩ := HV.out.kept_at hj3
      obtain ⟨rfl, rfl⟩ : A = some ⟨b, off, none⟩ ∧ cap = cap' := by simpa using hvv
      have hbl := HF.out b hFb
      have hsx := HSm.out _ (List.getElem_mem hj3)
      have HCp := Lib.hid (fun (W : World) (hb : Below w0.heap.size w0 W) => l2Copy_any d F A2 B2 _ _ cA2 cB2 xs[j].v W (hV.keep (below_keeps hb HF.out)) (below_goF HF.out hb) hsx)
      have HCo := Lib.hid (fun (W : World) (hb : Below w0.heap.size w0 W) => l9Copy_any d F (.slice (some ⟨b, off, none⟩) xs.length cap) xs W (HV.out.keep (below_keeps hb HF.out)) (below_goF HF.out hb) (by omega) HSm.out)
      have HLe := Lib.hid (fun (W : World) (M g c : Nat) (hM : M ≤ W.heap.size) (hr : OwnRow (Cod.kept (Cod.val d)) 35 M M W (.slice (some ⟨g, 0, none⟩) xs.length c) xs) => l9Less_any d M g c j xs W hr hM (by omega) hj3)
      have HCell := Lib.hid (fun (W : World) (hb : Below w0.heap.size w0 W) => show W.cell? ⟨b, off + j * 5 + 1, none⟩ = some (.string xs[j].v.ty) ∧ W.cell? ⟨b, off + j * 5 + 2, none⟩ = some (.int .i64 xs[j].v.n) ∧ W.cell? ⟨b, off + j * 5 + 3, none⟩ = some (.slice A2 xs[j].v.parts.length cA2) ∧ W.cell? ⟨b, off + j * 5 + 4, none⟩ = some (.slice B2 xs[j].v.path.length cB2) from
        ⟨(hb.cell (p := ⟨b, off + j * 5 + 1, none⟩) hbl).trans hc1, (hb.cell (p := ⟨b, off + j * 5 + 2, none⟩) hbl).trans hc2, (hb.cell (p := ⟨b, off + j * 5 + 3, none⟩) hbl).trans hc3, (hb.cell (p := ⟨b, off + j * 5 + 4, none⟩) hbl).trans hc4⟩)
      have i0 : (0 : Int) ≤ j := by omega
      have i1 : (j : Int) < xs.length := by omega
      clear hv hz hj1 hj2 hvv hV hsx hc0 hc1 hc2 hc3 hc4
      generalize xs[j] = x at *
      go_enter Try.func32, Try.ntmps32
      go_wp2_with fail
      rw [← Hw0.out]
      go_at_call 57
      with_reducible refine HFd.out.mono ?_
      rintro e w1 ⟨rfl, hw1⟩
      subst hw1
      go_wp2_with fail
      go_at_call 12
      with_reducible refine HVo.out.mono ?_
      rintro e w2 ⟨rfl, hb2⟩
      go_upto_region 4 with fail
      have HBd := Lib.hid (show Below w1.heap.size w1 w2.drew from hb2.drew)
      have HCa0 := Lib.hid (HCo.out w2.drew HBd.out)
      have HCc0 := Lib.hid (HCp.out w2.drew HBd.out)
      obtain ⟨z1, z2, z3, z4⟩ := HCell.out w2 hb2
      have hsd := HBd.out.size
      clear hb2 HVo
      go_region_with (first
        | (go_at_call 72; (with_reducible refine HCa0.out.mono ?_); rintro e w6 ⟨g6, c6, rfl, hO6, hb6⟩; go_must (
            have HB6 := Lib.hid (HBd.out.trans (hb6.mono HBd.out.size));
            have HO6 := Lib.hid hO6;
            have hm6 := hb6.size;
            obtain ⟨z1, z2, z3, z4⟩ := HCell.out w6 HB6.out;
            have HCb1 := Lib.hid (HLe.out w6 _ g6 c6 hb6.size hO6);
            have HCc1 := Lib.hid (HCp.out w6 HB6.out);
            clear hO6 hb6 HCa0 HCc0))
        | (go_at_call 78; (with_reducible refine HCb1.out.mono ?_); rintro e w7 ⟨A7, c7, rfl, hO7, hb7⟩; go_must (
            have HB7 := Lib.hid (HB6.out.trans (hb7.mono HB6.out.size));
            have HO7 := Lib.hid hO7;
            obtain ⟨z1, z2, z3, z4⟩ := HCell.out w7 HB7.out;
            have HCc2 := Lib.hid (HCp.out w7 HB7.out);
            clear hO7 hb7 HCb1 HCc1))
        | (go_at_call 58; (with_reducible refine HCc2.out.mono ?_); rintro e wl ⟨A1, cA1, B1, cB1, rfl, hMV⟩; go_must (
            have hbl7 := HB7.out.trans (hMV.2.mono HB7.out.size);
            have hrow := (HO7.out.below hm6 hMV.2).sl hm6;
            obtain ⟨wE, hwE⟩ : ∃ wE, wE = (((wl.setCell ⟨w.heap.size, 0, none⟩ (.string x.v.ty)).setCell ⟨w.heap.size, 1, none⟩ (.int .i64 x.v.n)).setCell ⟨w.heap.size, 2, none⟩ (.slice A1 x.v.parts.length cA1)).setCell ⟨w.heap.size, 3, none⟩ (.slice B1 x.v.path.length cB1) := ⟨_, rfl⟩;
            have hR7 := HR0.out.below hbl7 hr0;
            have x0 := hR7.cell 0; have x1 := hR7.cell 1; have x2 := hR7.cell 2; have x3 := hR7.cell 3;
            have y0 := hR7.frozen 0; have y1 := hR7.frozen 1; have y2 := hR7.frozen 2; have y3 := hR7.frozen 3;
            have HRE := Lib.hid (show Blk wE w.heap.size 31 #[.string x.v.ty, .int .i64 x.v.n, .slice A1 x.v.parts.length cA1, .slice B1 x.v.path.length cB1] by rw [hwE]; exact set4_blk hR7 _ _ _ _);
            have HwE := Lib.hid hwE;
            have HQ := Lib.hid (TakeEnd hr0 HE.out hbl7 HG.out (hrow.mono (fun b hb => ⟨Nat.le_trans hsd hb.1, hb.2⟩)) (hMV.1.mono (fun b hb => ⟨Nat.le_trans HB7.out.size hb.1, hb.2⟩)) hwE);
            clear hMV hrow hwE hR7 hbl7))
        | (go_at_call 58; (with_reducible refine HCc1.out.mono ?_); rintro e w8 ⟨A1, cA1, B1, cB1, rfl, hMV⟩; go_must (
            have HB8 := Lib.hid (HB6.out.trans (hMV.2.mono HB6.out.size));
            have HMV := Lib.hid hMV;
            have hm8 := hMV.2.size;
            have HCb2 := Lib.hid (HLe.out w8 _ g6 c6 (Nat.le_trans hm6 hMV.2.size) (HO6.out.below (Nat.le_refl _) hMV.2));
            clear hMV HCc1 HCb1))
        | (go_at_call 78; (with_reducible refine HCb2.out.mono ?_); rintro e wl ⟨A7, c7, rfl, hO7, hb7⟩; go_must (
            have hbl7 := HB8.out.trans (hb7.mono HB8.out.size);
            have hrow := hO7.sl (Nat.le_trans hm6 hm8);
            obtain ⟨wE, hwE⟩ : ∃ wE, wE = (((wl.setCell ⟨w.heap.size, 0, none⟩ (.string x.v.ty)).setCell ⟨w.heap.size, 1, none⟩ (.int .i64 x.v.n)).setCell ⟨w.heap.size, 2, none⟩ (.slice A1 x.v.parts.length cA1)).setCell ⟨w.heap.size, 3, none⟩ (.slice B1 x.v.path.length cB1) := ⟨_, rfl⟩;
            have hR7 := HR0.out.below hbl7 hr0;
            have x0 := hR7.cell 0; have x1 := hR7.cell 1; have x2 := hR7.cell 2; have x3 := hR7.cell 3;
            have y0 := hR7.frozen 0; have y1 := hR7.frozen 1; have y2 := hR7.frozen 2; have y3 := hR7.frozen 3;
            have HRE := Lib.hid (show Blk wE w.heap.size 31 #[.string x.v.ty, .int .i64 x.v.n, .slice A1 x.v.parts.length cA1, .slice B1 x.v.path.length cB1] by rw [hwE]; exact set4_blk hR7 _ _ _ _);
            have HwE := Lib.hid hwE;
            have HQ := Lib.hid (TakeEnd hr0 HE.out hbl7 HG.out (hrow.mono (fun b hb => ⟨Nat.le_trans hsd hb.1, hb.2⟩)) ((HMV.out.1.keep (w' := wl) fun b hb => hb7.block b hb.2).mono (fun b hb => ⟨Nat.le_trans HB6.out.size hb.1, Nat.lt_of_lt_of_le hb.2 hb7.size⟩)) hwE);
            clear hO7 hb7 hrow hwE hR7 hbl7))
        | (go_at_call 58; (with_reducible refine HCc0.out.mono ?_); rintro e w9 ⟨A1, cA1, B1, cB1, rfl, hMV⟩; go_must (
            have HB9 := Lib.hid (HBd.out.trans (hMV.2.mono HBd.out.size));
            have HMV := Lib.hid hMV;
            have HCa1 := Lib.hid (HCo.out w9 HB9.out);
            clear hMV HCa0 HCc0))
        | (go_at_call 72; (with_reducible refine HCa1.out.mono ?_); rintro e w6 ⟨g6, c6, rfl, hO6, hb6⟩; go_must (
            have HB6 := Lib.hid (HB9.out.trans (hb6.mono HB9.out.size));
            have hm6 := hb6.size;
            have HMV6 := Lib.hid ((HMV.out.1.keep (w' := w6) fun b hb => hb6.block b hb.2).mono (G := fun b => w2.drew.heap.size ≤ b ∧ b < w6.heap.size) (fun b hb => ⟨hb.1, Nat.lt_of_lt_of_le hb.2 hb6.size⟩));
            have hn9 := HB9.out.size;
            have HCb3 := Lib.hid (HLe.out w6 _ g6 c6 hb6.size hO6);
            clear hO6 hb6 HCa1))
        | (go_at_call 78; (with_reducible refine HCb3.out.mono ?_); rintro e wl ⟨A7, c7, rfl, hO7, hb7⟩; go_must (
            have hbl7 := HB6.out.trans (hb7.mono HB6.out.size);
            have hrow := hO7.sl hm6;
            obtain ⟨wE, hwE⟩ : ∃ wE, wE = (((wl.setCell ⟨w.heap.size, 0, none⟩ (.string x.v.ty)).setCell ⟨w.heap.size, 1, none⟩ (.int .i64 x.v.n)).setCell ⟨w.heap.size, 2, none⟩ (.slice A1 x.v.parts.length cA1)).setCell ⟨w.heap.size, 3, none⟩ (.slice B1 x.v.path.length cB1) := ⟨_, rfl⟩;
            have hR7 := HR0.out.below hbl7 hr0;
            have x0 := hR7.cell 0; have x1 := hR7.cell 1; have x2 := hR7.cell 2; have x3 := hR7.cell 3;
            have y0 := hR7.frozen 0; have y1 := hR7.frozen 1; have y2 := hR7.frozen 2; have y3 := hR7.frozen 3;
            have HRE := Lib.hid (show Blk wE w.heap.size 31 #[.string x.v.ty, .int .i64 x.v.n, .slice A1 x.v.parts.length cA1, .slice B1 x.v.path.length cB1] by rw [hwE]; exact set4_blk hR7 _ _ _ _);
            have HwE := Lib.hid hwE;
            have HQ := Lib.hid (TakeEnd hr0 HE.out hbl7 HG.out (hrow.mono (fun b hb => ⟨Nat.le_trans hn9 hb.1, hb.2⟩)) ((HMV6.out.keep (w' := wl) fun b hb => hb7.block b hb.2).mono (fun b hb => ⟨Nat.le_trans hsd hb.1, Nat.lt_of_lt_of_le hb.2 hb7.size⟩)) hwE);
            clear hO7 hb7 hrow hwE hR7 hbl7)))
      all_goals
        go_wp2
        rw [← HwE.out]
        obtain ⟨r0, r1, r2, r3⟩ := HRE.out.c2
        exact bodyPost_ret (v := .tuple #[.slice A7 (xs.take j ++ xs.drop (j + 1)).length c7, .agg #[.string x.v.ty, .int .i64 x.v.n, .slice A1 x.v.parts.length cA1, .slice B1 x.v.path.length cB1], .bool true]) (by simp [results, Try.results32, go_sem, r0, r1, r2, r3]) rfl HQ.out
end Go.Proofs.Ytemlpiokdoeeeaa
