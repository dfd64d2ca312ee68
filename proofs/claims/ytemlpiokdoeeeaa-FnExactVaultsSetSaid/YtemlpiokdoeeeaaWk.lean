/- The model's VaultsSet. -/
import Derived.Test.YtemlpiokdoeeeaaWj
import Derived.Test.YtemlpiokdoeeeaaWh
namespace Go.Proofs.Ytemlpiokdoeeeaa
open Go.RowKit

theorem setK_length (xs : List KepR) (j : Nat) (v : Val) : (setK xs j v).length = xs.length := by unfold setK; rw [List.length_set]
theorem setR_no {ks : Ks} {d : Nat} {xs : List KepR} {o : Int} {v : Val} (h : idxK ks d xs o v.ty = none) : setR ks d xs o v = ([], false) := by unfold setR; rw [h]
theorem setR_bad {ks : Ks} {d : Nat} {xs : List KepR} {o : Int} {v : Val} (h : keptB ks d v = false) : setR ks d xs o v = ([], false) := by
  unfold setR
  split
  · rw [h]; rfl
  · rfl
theorem setR_yes {ks : Ks} {d : Nat} {xs : List KepR} {o : Int} {v : Val} {j : Nat} (h : idxK ks d xs o v.ty = some j) (hk : keptB ks d v = true) : setR ks d xs o v = (setK xs j v, true) := by unfold setR; rw [h]; simp only [hk, if_true]
theorem OwnRow.setV {d M : Nat} {w : World} {g n cap : Nat} {xs : List KepR} (h : OwnRow (Cod.kept (Cod.val d)) 35 M M w (.slice (some ⟨g, 0, none⟩) n cap) xs) {j : Nat} (hj : j < xs.length) {G : Nat → Prop} {A B : Option Addr} {cA cB : Nat} {v : Val} (hV : VRd (Cod.val d) G w (.slice A v.parts.length cA) (.slice B v.path.length cB) v) (hG : ∀ b, G b → M ≤ b ∧ b < w.heap.size ∧ b ≠ g) {w' : World}
    (hw : w' = (((w.setCell ⟨g, j * 5 + 1, none⟩ (.string v.ty)).setCell ⟨g, j * 5 + 2, none⟩ (.int .i64 v.n)).setCell ⟨g, j * 5 + 3, none⟩ (.slice A v.parts.length cA)).setCell ⟨g, j * 5 + 4, none⟩ (.slice B v.path.length cB)) :
    OwnRow (Cod.kept (Cod.val d)) 35 M M w' (.slice (some ⟨g, 0, none⟩) n cap) (setK xs j v) := by
  obtain ⟨us, ho, h1, hx⟩ := h
  have hne : ∀ b, b ≠ g → w'.heap[b]? = w.heap[b]? := fun b hb => by rw [hw, Below.heap_setCell _ _ _ _ hb, Below.heap_setCell _ _ _ _ hb, Below.heap_setCell _ _ _ _ hb, Below.heap_setCell _ _ _ _ hb]
  have hsz : w'.heap.size = w.heap.size := by rw [hw]; simp [World.setCell]
  rcases ho.2 with ⟨hv, _⟩ | ⟨g', cap', cur, hv, hg, hh, hn, hc, hs, ht⟩
  · cases hv
  · obtain ⟨rfl, rfl, rfl⟩ : g = g' ∧ n = xs.length ∧ cap = cap' := by simpa using hv
    have hB : Blk w g 35 cur := hh
    have hB2 : Blk w' g 35 ((((cur.setIfInBounds (j * 5 + 1) (.string v.ty)).setIfInBounds (j * 5 + 2) (.int .i64 v.n)).setIfInBounds (j * 5 + 3) (.slice A v.parts.length cA)).setIfInBounds (j * 5 + 4) (.slice B v.path.length cB)) := by
      rw [hw]; exact (((hB.set_ _ _).set_ _ _).set_ _ _).set_ _ _
    have e5 : (Cod.kept (Cod.val d)).size = 5 := rfl
    have hul : us.length = xs.length * 5 := ho.1
    have hk1 : ∀ b, (M ≤ b ∧ b < w.heap.size ∧ (Value.slice (some ⟨g, 0, none⟩) xs.length cap).ownBlock ≠ some b) → w'.heap[b]? = w.heap[b]? := fun b hb => hne b fun e => hb.2.2 (by rw [e]; rfl)
    have hup : ∀ b, (M ≤ b ∧ b < w.heap.size ∧ (Value.slice (some ⟨g, 0, none⟩) xs.length cap).ownBlock ≠ some b) → M ≤ b ∧ b < w'.heap.size ∧ (Value.slice (some ⟨g, 0, none⟩) xs.length cap).ownBlock ≠ some b := fun b hb => ⟨hb.1, by rw [hsz]; exact hb.2.1, hb.2.2⟩
    refine ⟨(((us.set (j * 5 + 1) (.string v.ty)).set (j * 5 + 2) (.int .i64 v.n)).set (j * 5 + 3) (.slice A v.parts.length cA)).set (j * 5 + 4) (.slice B v.path.length cB), ⟨?_, .inr ⟨g, cap, _, by rw [setK_length], hg, hB2, by rw [setK_length]; exact hn, hc, by simpa only [Array.size_setIfInBounds] using hs, ?_⟩⟩, fun u hu => ?_, fun i x hi => ?_⟩
    · rw [setK_length, e5]; simp only [List.length_set]; exact hul
    · rw [setK_length, e5]
      simp only [Array.toList_setIfInBounds, List.take_set]
      rw [show cur.toList.take (xs.length * 5) = us from ht]
    · rcases List.mem_or_eq_of_mem_set hu with hu | rfl
      · rcases List.mem_or_eq_of_mem_set hu with hu | rfl
        · rcases List.mem_or_eq_of_mem_set hu with hu | rfl
          · rcases List.mem_or_eq_of_mem_set hu with hu | rfl
            · exact h1 u hu
            · rfl
          · rfl
        · rfl
      · rfl
    · unfold setK at hi
      by_cases he : i = j
      · subst he
        rw [List.getElem?_set_self hj] at hi
        simp only [Option.some.injEq] at hi
        subst hi
        obtain ⟨cs, hcs, a, p, rfl, h64, -⟩ := hx i xs[i] (List.getElem?_eq_getElem hj)
        have c0 := hcs 0 _ rfl
        rw [e5] at c0
        refine ⟨[.int .i64 xs[i].o, .string v.ty, .int .i64 v.n, .slice A v.parts.length cA, .slice B v.path.length cB], fun q u hu => ?_, _, _, by rw [getK hj], by rw [getK hj]; exact h64, (hV.keep fun b hb => hne b (hG b hb).2.2).mono fun b hb => hup b ⟨(hG b hb).1, (hG b hb).2.1, fun e => (hG b hb).2.2 (by simpa [Value.ownBlock] using e.symm)⟩⟩
        rw [e5]
        match q, hu with
        | 0, hu => simp at hu; subst hu; rw [List.getElem?_set_ne (by omega), List.getElem?_set_ne (by omega), List.getElem?_set_ne (by omega), List.getElem?_set_ne (by omega)]; exact c0
        | 1, hu => simp at hu; subst hu; rw [List.getElem?_set_ne (by omega), List.getElem?_set_ne (by omega), List.getElem?_set_ne (by omega), List.getElem?_set_self (by omega)]
        | 2, hu => simp at hu; subst hu; rw [List.getElem?_set_ne (by omega), List.getElem?_set_ne (by omega), List.getElem?_set_self (by simp; omega)]
        | 3, hu => simp at hu; subst hu; rw [List.getElem?_set_ne (by omega), List.getElem?_set_self (by simp; omega)]
        | 4, hu => simp at hu; subst hu; rw [List.getElem?_set_self (by simp; omega)]
        | q + 5, hu => simp at hu
      · rw [List.getElem?_set_ne (Ne.symm he)] at hi
        obtain ⟨cs, hcs, hrd⟩ := hx i x hi
        have hcl := (Cod.kept (Cod.val d)).len hrd
        refine ⟨cs, fun q u hu => ?_, (Cod.kept (Cod.val d)).mono hup ((Cod.kept (Cod.val d)).keep hk1 hrd)⟩
        have hq : q < cs.length := (List.getElem?_eq_some_iff.1 hu).1
        have := hcs q u hu
        rw [e5] at this hcl ⊢
        rw [List.getElem?_set_ne (by omega), List.getElem?_set_ne (by omega), List.getElem?_set_ne (by omega), List.getElem?_set_ne (by omega)]
        exact this

set_option maxRecDepth 100000 in
set_option maxHeartbeats 4000000 in
theorem specVaultsSet_any {ks : Ks} (d : Nat) (F : Nat → Prop) (kv vl : Value) (xs : List KepR) (o : Int) (A B : Option Addr) (n m cA cB : Nat) (v : Val) (w : World) (hks : Cod.recs.Sl F w kv ks) (h : (Cod.kept (Cod.val d)).Sl F w vl xs) (hvv : VRd (Cod.val d) F w (.slice A n cA) (.slice B m cB) v) (hF : ∀ b, F b → b < w.heap.size) (hsm : ∀ x ∈ xs, SmolKep d x) (hsv : Smol (SmolD d) v) (ho : I64 o) :
    Calls Try.prog 34 #[kv, vl, .int .i64 o, .agg #[.string v.ty, .int .i64 v.n, .slice A n cA, .slice B m cB]] w (RowKD d (setR ks d xs o v) w) := by
  obtain ⟨w0, hw0⟩ : ∃ w0, w0 = w.alloc (.cells #[.string v.ty, .int .i64 v.n, .slice A n cA, .slice B m cB] 31) := ⟨_, rfl⟩
  have hb0 : Below w.heap.size w w0 := by rw [hw0]; exact (Below.refl _ _).alloc (Nat.le_refl _) _
  have hs0 : w0.heap.size = w.heap.size + 1 := by rw [hw0]; simp
  have hB0 : Blk w0 w.heap.size 31 #[.string v.ty, .int .i64 v.n, .slice A n cA, .slice B m cB] := by rw [hw0]; exact Blk.new _ _ _
  have hk0 : ∀ b, F b → w0.heap[b]? = w.heap[b]? := fun b hb => hb0.block b (hF b hb)
  have hF0 : ∀ b, F b → b < w0.heap.size := fun b hb => by have := hF b hb; omega
  have HS := Lib.hid (hks.keep hk0)
  have HL := Lib.hid (h.keep hk0)
  have HV := Lib.hid (hvv.keep hk0)
  have HVo := Lib.hid (specVaultsOk_any d F kv vl xs w0 HS.out HL.out hF0)
  have HF := Lib.hid hF0
  have HE := Lib.hid hb0
  have HBx := Lib.hid hB0
  have Hw0 := Lib.hid hw0
  have HSm := Lib.hid hsm
  have HSv := Lib.hid hsv
  have Ho := Lib.hid ho
  have hr0 : w.heap.size < w0.heap.size := by omega
  have hty := hvv.ty
  unfold maxLen at hty
  obtain ⟨y0, y1, y2, y3⟩ := hB0.c2
  obtain ⟨Ak, ck, rfl, _⟩ := hks
  obtain ⟨Al, cap, rfl, hlc, hcm, _⟩ := h
  unfold maxLen at hcm
  have HFi := Lib.hid (l9Find_any d F (.slice Al xs.length cap) xs o v.ty w0 HL.out)
  obtain ⟨z, hz⟩ : ∃ z, z = findK o v.ty xs 0 := ⟨_, rfl⟩
  rw [← hz] at HFi
  clear hb0 hs0 hB0 hk0 hF0 hw0 hF hsm hsv ho hvv
  cases hv : vOk ks d xs with
  | false =>
    rw [hv] at HVo
    have HN := Lib.hid (setR_no (ks := ks) (d := d) (xs := xs) (o := o) (v := v) (idxK_no hv))
    clear hv hz
    go_enter Try.func34, Try.ntmps34
    rw [Hw0.out] at y0 y1 y2 y3
    go_wp2_with fail
    rw [← Hw0.out]
    rw [← Hw0.out] at y0 y1 y2 y3
    go_at_call 57
    with_reducible refine HFi.out.mono ?_
    rintro e w1 ⟨rfl, rfl⟩
    have HVo1 := HVo
    clear HVo
    go_wp2_with fail
    go_at_call 12
    with_reducible refine HVo1.out.mono ?_
    rintro e w2 ⟨rfl, hb2⟩
    have HB2 := Lib.hid hb2
    clear hb2
    clear y0 y1 y2 y3
    have HQ := Lib.hid (show RowKD d (setR ks d xs o v) w (.returned (.tuple #[.slice (some ⟨w2.heap.size, 0, none⟩) 0 0, .bool false])) (w2.alloc (.cells #[] 35)) by
      rw [HN.out]
      exact ⟨_, 0, rfl, made_lit (HE.out.trans (HB2.out.mono HE.out.size))⟩)
    go_wp2
    go_ret2
    exact HQ.out
  | true =>
    rw [hv] at HVo
    obtain ⟨hab, h36⟩ := vOk_ables hv
    by_cases hz0 : z < 0
    · have HN := Lib.hid (setR_no (ks := ks) (d := d) (xs := xs) (o := o) (v := v) (idxK_neg (by rw [← hz]; exact hz0)))
      clear hv hz hab
      go_enter Try.func34, Try.ntmps34
      rw [Hw0.out] at y0 y1 y2 y3
      go_wp2_with fail
      rw [← Hw0.out]
      rw [← Hw0.out] at y0 y1 y2 y3
      go_at_call 57
      with_reducible refine HFi.out.mono ?_
      rintro e w1 ⟨rfl, rfl⟩
      have HVo1 := HVo
      clear HVo
      go_wp2_with fail
      go_at_call 12
      with_reducible refine HVo1.out.mono ?_
      rintro e w2 ⟨rfl, hb2⟩
      have HB2 := Lib.hid hb2
      clear hb2
      clear y0 y1 y2 y3
      have HQ := Lib.hid (show RowKD d (setR ks d xs o v) w (.returned (.tuple #[.slice (some ⟨w2.heap.size, 0, none⟩) 0 0, .bool false])) (w2.alloc (.cells #[] 35)) by
        rw [HN.out]
        exact ⟨_, 0, rfl, made_lit (HE.out.trans (HB2.out.mono HE.out.size))⟩)
      go_wp2
      go_ret2
      exact HQ.out
    · obtain ⟨j, hj1, hj2, hj3⟩ := idxK_yes (o := o) (t := v.ty) hv (by rw [← hz]; exact hz0)
      obtain rfl : z = (j : Int) := by rw [hz, hj2]
      have HKd := Lib.hid (fun (W : World) (hb : Below w0.heap.size w0 W) => l9Kind_any d F (.slice Ak ks.length ck) A B n m cA cB v W (HS.out.keep (below_keeps hb HF.out)) (HV.out.keep (below_keeps hb HF.out)) (below_goF HF.out hb) hab)
      have HCo := Lib.hid (fun (W : World) (hb : Below w0.heap.size w0 W) => l9Copy_any d F (.slice Al xs.length cap) xs W (HL.out.keep (below_keeps hb HF.out)) (below_goF HF.out hb) (by omega) HSm.out)
      have HC2 := Lib.hid (fun (W : World) (hb : Below w0.heap.size w0 W) => l2Copy_any d F A B n m cA cB v W (HV.out.keep (below_keeps hb HF.out)) (below_goF HF.out hb) HSv.out)
      cases hkb : keptB ks d v with
      | false =>
        rw [hkb] at HKd
        have HN := Lib.hid (setR_bad (ks := ks) (d := d) (xs := xs) (o := o) (v := v) hkb)
        clear hv hz hab hkb hj1 hj2
        go_enter Try.func34, Try.ntmps34
        rw [Hw0.out] at y0 y1 y2 y3
        go_wp2_with fail
        rw [← Hw0.out]
        rw [← Hw0.out] at y0 y1 y2 y3
        go_at_call 57
        with_reducible refine HFi.out.mono ?_
        rintro e w1 ⟨rfl, rfl⟩
        have HVo1 := HVo
        clear HVo
        go_wp2_with fail
        go_at_call 12
        with_reducible refine HVo1.out.mono ?_
        rintro e w2 ⟨rfl, hb2⟩
        have HB2 := Lib.hid hb2
        clear hb2
        have HK2 := Lib.hid (HKd.out w2 HB2.out)
        clear y0 y1 y2 y3
        obtain ⟨y0, y1, y2, y3⟩ := (HBx.out.below HB2.out hr0).c2
        go_wp2_with fail
        go_at_call 70
        with_reducible refine HK2.out.mono ?_
        rintro e w4 ⟨rfl, hb4⟩
        have HB4 := Lib.hid (HB2.out.trans (hb4.mono HB2.out.size))
        clear hb4 y0 y1 y2 y3
        have HQ := Lib.hid (show RowKD d (setR ks d xs o v) w (.returned (.tuple #[.slice (some ⟨w4.heap.size, 0, none⟩) 0 0, .bool false])) (w4.alloc (.cells #[] 35)) by
          rw [HN.out]
          exact ⟨_, 0, rfl, made_lit (HE.out.trans (HB4.out.mono HE.out.size))⟩)
        go_wp2
        go_ret2
        exact HQ.out
      | true =>
        rw [hkb] at HKd
        have HN := Lib.hid (setR_yes (ks := ks) (d := d) (xs := xs) (o := o) (v := v) hj1 hkb)
        have i0 : (0 : Int) ≤ j := by omega
        have i1 : (j : Int) < xs.length := by omega
        clear hv hz hab hkb hj1 hj2
        go_enter Try.func34, Try.ntmps34
        rw [Hw0.out] at y0 y1 y2 y3
        go_wp2_with fail
        rw [← Hw0.out]
        rw [← Hw0.out] at y0 y1 y2 y3
        go_at_call 57
        with_reducible refine HFi.out.mono ?_
        rintro e w1 ⟨rfl, rfl⟩
        have HVo1 := HVo
        clear HVo
        go_wp2_with fail
        go_at_call 12
        with_reducible refine HVo1.out.mono ?_
        rintro e w2 ⟨rfl, hb2⟩
        have HB2 := Lib.hid hb2
        clear hb2
        have HK2 := Lib.hid (HKd.out w2 HB2.out)
        clear y0 y1 y2 y3
        obtain ⟨y0, y1, y2, y3⟩ := (HBx.out.below HB2.out hr0).c2
        go_wp2_with fail
        go_at_call 70
        with_reducible refine HK2.out.mono ?_
        rintro e w4 ⟨rfl, hb4⟩
        have HB4 := Lib.hid (HB2.out.trans (hb4.mono HB2.out.size))
        have HC4 := Lib.hid (HCo.out w4 HB4.out)
        clear hb4
        go_wp2_with fail
        go_at_call 72
        with_reducible refine HC4.out.mono ?_
        rintro e w5 ⟨g, cg, rfl, hO5, hb5⟩
        have HB5 := Lib.hid (HB4.out.trans (hb5.mono HB4.out.size))
        have HO5 := Lib.hid hO5
        have hm5 := hb5.size
        have hgg := hO5.own_lt5 g rfl
        have HC5 := Lib.hid (HC2.out w5 HB5.out)
        clear hb5 hO5 y0 y1 y2 y3
        obtain ⟨y0, y1, y2, y3⟩ := (HBx.out.below HB5.out hr0).c2
        go_wp2_with fail
        go_at_call 58
        with_reducible refine HC5.out.mono ?_
        rintro e w6 ⟨A1, cA1, B1, cB1, rfl, hMV⟩
        have hO6 := HO5.out.below (Nat.le_refl _) hMV.2
        have hm6 := hMV.2.size
        obtain ⟨-, hlc6, hcm6, us, hul, -, hcell, -⟩ := hO6.flat5
        unfold maxLen at hcm6
        have hg6 : ∃ cur, Blk w6 g 35 cur := by
          obtain ⟨us, ho, _⟩ := hO6
          rcases ho.2 with ⟨hv, _⟩ | ⟨g', cap', cur, hv, hg, hh, _⟩
          · cases hv
          · obtain ⟨rfl, _⟩ : g = g' ∧ _ := by simpa using hv
            exact ⟨cur, hh⟩
        obtain ⟨cur, hBg⟩ := hg6
        have hat : ∀ q, q < 5 → ∃ u, w6.cell? ⟨g, j * 5 + q, none⟩ = some u := fun q hq => by
          have : j * 5 + q < us.length := by rw [hul]; show j * 5 + q < xs.length * 5; omega
          exact ⟨us[j * 5 + q], hcell _ _ (List.getElem?_eq_getElem this)⟩
        obtain ⟨u1, k1⟩ := hat 1 (by omega)
        obtain ⟨u2, k2⟩ := hat 2 (by omega)
        obtain ⟨u3, k3⟩ := hat 3 (by omega)
        obtain ⟨u4, k4⟩ := hat 4 (by omega)
        have f1 := hBg.frozen (j * 5 + 1)
        have f2 := hBg.frozen (j * 5 + 2)
        have f3 := hBg.frozen (j * 5 + 3)
        have f4 := hBg.frozen (j * 5 + 4)
        obtain ⟨wE, hwE⟩ : ∃ wE, wE = (((w6.setCell ⟨g, j * 5 + 1, none⟩ (.string v.ty)).setCell ⟨g, j * 5 + 2, none⟩ (.int .i64 v.n)).setCell ⟨g, j * 5 + 3, none⟩ (.slice A1 v.parts.length cA1)).setCell ⟨g, j * 5 + 4, none⟩ (.slice B1 v.path.length cB1) := ⟨_, rfl⟩
        have hOE := hO6.setV hj3 hMV.1 (fun b hb => ⟨by have := hb.1; omega, hb.2, by have := hb.1; omega⟩) hwE
        have HQ := Lib.hid (show RowKD d (setR ks d xs o v) w (.returned (.tuple #[.slice (some ⟨g, 0, none⟩) xs.length cg, .bool true])) wE by
          rw [HN.out]
          refine ⟨some ⟨g, 0, none⟩, cg, by simp only [setK_length], ?_⟩
          simp only [setK_length]
          refine made_row hOE (Nat.le_trans HE.out.size HB4.out.size) ?_
          rw [hwE]
          have h9 := HE.out.size
          have h8 := HB4.out.size
          exact ((((HE.out.trans ((HB5.out.trans (hMV.2.mono HB5.out.size)).mono HE.out.size)).setCell (by show w.heap.size ≤ g; omega) _).setCell (by show w.heap.size ≤ g; omega) _).setCell (by show w.heap.size ≤ g; omega) _).setCell (by show w.heap.size ≤ g; omega) _)
        have HwE := Lib.hid hwE
        clear hOE hO6 hat hcell hMV hwE hBg hul HK2 HC4 HC5 HKd HCo HC2
        go_wp2
        rw [← HwE.out]
        go_ret2
        exact HQ.out
end Go.Proofs.Ytemlpiokdoeeeaa
