/- The program's VaultsSet. -/
import Derived.Test.YtemlpiokdoeeeaaYj
import Derived.Test.YtemlpiokdoeeeaaWk
namespace Go.Proofs.Ytemlpiokdoeeeaa
open Go.RowKit

theorem findK_is {o : Int} {t : ByteArray} {xs : List KepR} {j : Nat} (h : findK o t xs 0 = (j : Int)) (hj : j < xs.length) : xs[j].o = o ∧ xs[j].v.ty = t := by
  rcases findK_at (o := o) (t := t) xs 0 with h1 | ⟨i, hi, h2, h3⟩
  · omega
  · obtain rfl : i = j := by omega
    unfold isK2 at h3
    simp only [Bool.and_eq_true, beq_iff_eq] at h3
    exact ⟨h3.1, ext_toList h3.2⟩
theorem kept_at5 {ks : Ks} {d : Nat} {xs : List KepR} {o : Int} {t : ByteArray} {j : Nat} (h : idxK ks d xs o t = some j) : ∃ hj : j < xs.length, keptB ks d xs[j].v = true ∧ xs[j].o = o ∧ xs[j].v.ty = t := by
  obtain ⟨h1, h2, h3⟩ := idxK_some h
  have h4 := findK_is h2 h3
  unfold vOk at h1
  simp only [Bool.and_eq_true] at h1
  have := okList_at h1.2 h3
  unfold okAtK at this
  rw [getK h3] at this
  simp only [Bool.and_eq_true] at this
  exact ⟨h3, this.1.2, h4⟩
theorem keptB_same {ks : Ks} {d : Nat} {u v : Val} (h : keptB ks d u = true) (ht : u.ty = v.ty) : keptB ks d v = okOf ks (okV ks d) v := by
  unfold keptB at h ⊢
  simp only [Bool.and_eq_true] at h
  rw [← ht, h.1, h.2.2, Bool.true_and, Bool.and_true]
  rfl
theorem setK_split {xs : List KepR} {j : Nat} {v : Val} {o : Int} (hj : j < xs.length) (ho : xs[j].o = o) : setK xs j v = xs.take j ++ ⟨o, v⟩ :: xs.drop (j + 1) := by
  unfold setK
  rw [getK hj, ho, List.set_eq_take_append_cons_drop, if_pos hj]

set_option maxRecDepth 100000 in
set_option maxHeartbeats 4000000 in
theorem implVaultsSet_any {ks : Ks} (d : Nat) (F : Nat → Prop) (kv vl : Value) (xs : List KepR) (o : Int) (A B : Option Addr) (n m cA cB : Nat) (x : Val) (w : World) (hks : Cod.recs.Sl F w kv ks) (h : (Cod.kept (Cod.val d)).Sl F w vl xs) (hx : VRd (Cod.val d) F w (.slice A n cA) (.slice B m cB) x) (hF : ∀ b, F b → b < w.heap.size) (hsm : ∀ x ∈ xs, SmolKep d x) (hsx : Smol (SmolD d) x) (ho : I64 o) :
    Calls Try.prog 35 #[kv, vl, .int .i64 o, .agg #[.string x.ty, .int .i64 x.n, .slice A n cA, .slice B m cB]] w fun e w' => ∃ Y cy, e = .returned (.tuple #[.slice Y (setR ks d xs o x).1.length cy, .bool (setR ks d xs o x).2]) ∧ Own (OKept d) 35 w.heap.size w'.heap.size w' (.slice Y (setR ks d xs o x).1.length cy) (setR ks d xs o x).1 ∧ Below w.heap.size w w' := by
  obtain ⟨w0, hw0⟩ : ∃ w0, w0 = w.alloc (.cells #[.string x.ty, .int .i64 x.n, .slice A n cA, .slice B m cB] 31) := ⟨_, rfl⟩
  have hb0 : Below w.heap.size w w0 := by rw [hw0]; exact (Below.refl _ _).alloc (Nat.le_refl _) _
  have hs0 : w0.heap.size = w.heap.size + 1 := by rw [hw0]; simp
  have HX0 := Lib.hid (show Blk w0 w.heap.size 31 #[.string x.ty, .int .i64 x.n, .slice A n cA, .slice B m cB] by rw [hw0]; exact Blk.new _ _ _)
  have hF0 : ∀ b, F b → b < w0.heap.size := fun b hb => by have := hF b hb; omega
  have HV0 := Lib.hid (h.keep (w' := w0) (below_keeps hb0 hF))
  have HS0 := Lib.hid (hks.keep (w' := w0) (below_keeps hb0 hF))
  have HXv := Lib.hid (hx.keep (w' := w0) (below_keeps hb0 hF))
  have HC := Lib.hid (recordAt_any (ks := ks) d F kv vl xs o x.ty w0 HS0.out HV0.out hF0)
  have HF0 := Lib.hid hF0
  have HE := Lib.hid hb0
  have Hw0 := Lib.hid hw0
  obtain ⟨Ak, ck, rfl, _⟩ := hks
  obtain ⟨Al, cap, rfl, hlc, hcm, _⟩ := h
  unfold maxLen at hcm
  have HNo := Lib.hid (fun (hn : setR ks d xs o x = ([], false)) (w' : World) (hb : Below w.heap.size w w') => show ∃ Y cy, Ending.returned (.tuple #[.slice none 0 0, .bool false]) = .returned (.tuple #[.slice Y (setR ks d xs o x).1.length cy, .bool (setR ks d xs o x).2]) ∧ Own (OKept d) 35 w.heap.size w'.heap.size w' (.slice Y (setR ks d xs o x).1.length cy) (setR ks d xs o x).1 ∧ Below w.heap.size w w' from
    ⟨none, 0, by rw [hn]; rfl, by rw [hn]; exact own_nil5, hb⟩)
  clear hF hb0 hw0 hF0
  obtain ⟨x0, x1, x2, x3⟩ := HX0.out.c2
  cases hi : idxK ks d xs o x.ty with
  | none =>
    have HN := Lib.hid (setR_no hi)
    have HC2 : Hid (Calls Try.prog 47 #[.slice Ak ks.length ck, .slice Al xs.length cap, .int .i64 o, .string x.ty] w0 fun e w' => ∃ p : Nat, e = .returned (.tuple #[.int .i64 p, .bool false]) ∧ Below w0.heap.size w0 w') := Lib.hid (HC.out.mono fun e w' ⟨p, h1, _, h3⟩ => ⟨p, by rw [h1, hi]; rfl, h3⟩)
    clear hi HC
    go_enter Try.func35, Try.ntmps35
    rw [Hw0.out] at x0 x1 x2 x3
    go_wp2_with fail
    rw [← Hw0.out]
    go_at_call 47
    with_reducible refine HC2.out.mono ?_
    rintro e w1 ⟨p, rfl, hb⟩
    have HB := Lib.hid hb
    clear hb x0 x1 x2 x3
    go_wp2
    go_ret2
    exact HNo.out HN.out _ (HE.out.trans (HB.out.mono HE.out.size))
  | some j =>
    obtain ⟨hj, hkj, hoj, htj⟩ := kept_at5 hi
    have hVo := (idxK_some hi).1
    have hks2 : kindsOk ks = true := by unfold vOk at hVo; simp only [Bool.and_eq_true] at hVo; exact hVo.1
    have HC2 : Hid (Calls Try.prog 47 #[.slice Ak ks.length ck, .slice Al xs.length cap, .int .i64 o, .string x.ty] w0 fun e w' => e = .returned (.tuple #[.int .i64 j, .bool true]) ∧ Below w0.heap.size w0 w') := Lib.hid (HC.out.mono fun e w' ⟨p, h1, h2, h3⟩ => ⟨by rw [h1, ← h2 j hi, hi]; rfl, h3⟩)
    have hsame := keptB_same (v := x) hkj htj
    have HVk := Lib.hid (fun (w1 : World) (hb : Below w0.heap.size w0 w1) => implValueOk_any (ks := ks) (d := d) F (.slice Ak ks.length ck) A B n m cA cB x w1 (HS0.out.keep (below_keeps hb HF0.out)) (HXv.out.keep (below_keeps hb HF0.out)) (below_goF HF0.out hb))
    have hvk : valOk ks d x = keptB ks d x := by rw [hsame]; unfold valOk; rw [hks2]; rfl
    cases hkx : keptB ks d x with
    | false =>
      have HN := Lib.hid (setR_bad (d := d) (xs := xs) (o := o) hkx)
      rw [hvk, hkx] at HVk
      clear hi HC hsame hkx hvk hkj hoj htj hVo
      go_enter Try.func35, Try.ntmps35
      rw [Hw0.out] at x0 x1 x2 x3
      go_wp2_with fail
      rw [← Hw0.out]
      go_at_call 47
      with_reducible refine HC2.out.mono ?_
      rintro e w1 ⟨rfl, hb⟩
      clear x0 x1 x2 x3
      obtain ⟨x0, x1, x2, x3⟩ := (HX0.out.below hb HX0.out.lt).c2
      go_wp2_with (go_at_call 79; (with_reducible refine (HVk.out _ hb).mono ?_); rintro e w2 ⟨rfl, hb2⟩)
      go_ret2
      exact HNo.out HN.out _ (HE.out.trans ((hb.trans (hb2.mono hb.size)).mono HE.out.size))
    | true =>
      have HG := Lib.hid (show setR ks d xs o x = (xs.take j ++ ⟨o, x⟩ :: xs.drop (j + 1), true) by rw [setR_yes hi hkx, setK_split hj hoj])
      rw [hvk, hkx] at HVk
      have HVo := Lib.hid hVo
      have HKx := Lib.hid hkx
      have hlcap : (xs.length : Int) ≤ cap := by omega
      have hp1 : ((j : Nat) : Int) ≤ xs.length := by omega
      have hp2 : (0 : Int) ≤ (j : Nat) := by omega
      have hp3 : ((j : Nat) : Int) ≤ cap := by omega
      have hp4 : ((j : Nat) : Int) + 1 ≤ xs.length := by omega
      have hp5 : ((j : Nat) : Int) + 1 ≤ cap := by omega
      have hp6 : (0 : Int) ≤ (j : Nat) + 1 := by omega
      have hp7 : (((j : Nat) : Int) + 1).toNat = j + 1 := by omega
      have hp8 : (j : Int) + 1 ≤ 9223372036854775807 := by omega
      have hp9 : IntKind.i64.wrap ((j : Int) + 1) = (j : Int) + 1 := by
        simp only [IntKind.wrap, IntKind.bits, IntKind.signed]
        simp
        omega
      have Hj := Lib.hid hj
      clear hi HC hsame hkx hvk hkj hoj htj hVo hj
      go_enter Try.func35, Try.ntmps35
      rw [Hw0.out] at x0 x1 x2 x3
      go_wp2_with fail
      rw [← Hw0.out]
      go_at_call 47
      with_reducible refine HC2.out.mono ?_
      rintro e w1 ⟨rfl, hb⟩
      clear x0 x1 x2 x3
      obtain ⟨x0, x1, x2, x3⟩ := (HX0.out.below hb HX0.out.lt).c2
      go_wp2_with (go_at_call 79; (with_reducible refine (HVk.out _ hb).mono ?_); rintro e w4 ⟨rfl, hb2⟩)
      have hb04 : Below w0.heap.size w0 w4 := hb.trans (hb2.mono hb.size)
      clear x0 x1 x2 x3
      obtain ⟨x0, x1, x2, x3⟩ := (HX0.out.below hb04 HX0.out.lt).c2
      have hbW : Below w.heap.size w w4 := HE.out.trans (hb04.mono HE.out.size)
      have HB4 := Lib.hid hbW
      have HV4 := Lib.hid (HV0.out.keep (below_keeps hb04 HF0.out))
      have HF4 := Lib.hid (below_goF HF0.out hb04)
      have HX4 := Lib.hid (HXv.out.keep (below_keeps hb04 HF0.out))
      obtain ⟨D, hD⟩ : ∃ D, (if cap = j + 1 then Al else Option.map (fun x => x.add ((j + 1) * 5)) Al) = D := ⟨_, rfl⟩
      obtain ⟨w6, hw6⟩ : ∃ u, u = ((w4.alloc (.cells #[.int .i64 o, .string x.ty, .int .i64 x.n, .slice A n cA, .slice B m cB] 35)).alloc (.cells #[.slice Al j cap, .slice (some ⟨w4.heap.size, 0, none⟩) 1 1, .slice D (xs.length - (j + 1)) (cap - (j + 1))] 24)).drew := ⟨_, rfl⟩
      have hb46 : Below w4.heap.size w4 w6 := by rw [hw6]; exact (((Below.refl _ _).alloc (Nat.le_refl _) _).alloc (by simp) _).drew
      have hs6 : w6.heap.size = w4.heap.size + 2 := by
        rw [hw6]
        show ((w4.alloc _).alloc _).heap.size = _
        simp
      have hBk := Blk.of2 w4 35 24 #[.int .i64 o, .string x.ty, .int .i64 x.n, .slice A n cA, .slice B m cB] #[.slice Al j cap, .slice (some ⟨w4.heap.size, 0, none⟩) 1 1, .slice D (xs.length - (j + 1)) (cap - (j + 1))]
      have hB6 : Blk w6 w4.heap.size 35 #[.int .i64 o, .string x.ty, .int .i64 x.n, .slice A n cA, .slice B m cB] := by rw [hw6]; exact hBk.1
      have hP6 : Blk w6 (w4.heap.size + 1) 24 #[.slice Al j cap, .slice (some ⟨w4.heap.size, 0, none⟩) 1 1, .slice D (xs.length - (j + 1)) (cap - (j + 1))] := by rw [hw6]; exact hBk.2
      have hV6 := (HV4.out.keep (below_keeps hb46 HF4.out)).mono (G := fun b' => F b' ∨ b' = w4.heap.size) (fun b' h => .inl h)
      have hX6 := (HX4.out.keep (below_keeps hb46 HF4.out)).mono (G := fun b' => F b' ∨ b' = w4.heap.size) (fun b' h => .inl h)
      obtain ⟨An, an, hAn, _⟩ := id hX6.parts
      obtain ⟨Bn, bn, hBn, _⟩ := id hX6.path
      simp only [Value.slice.injEq] at hAn hBn
      obtain ⟨-, rfl, -⟩ := hAn
      obtain ⟨-, rfl, -⟩ := hBn
      have hpc : Pieces d (fun b' => F b' ∨ b' = w4.heap.size) w6 (w4.heap.size + 1) [xs.take j, [⟨o, x⟩], xs.drop (j + 1)] := pieces_of (vs := [.slice Al j cap, .slice (some ⟨w4.heap.size, 0, none⟩) 1 1, .slice D (xs.length - (j + 1)) (cap - (j + 1))]) hP6 (fun i hi => by
        have : i = 0 ∨ i = 1 ∨ i = 2 := by simp at hi; omega
        rcases this with rfl | rfl | rfl
        · exact ⟨_, rfl, sl_take5 hV6 (by omega)⟩
        · exact ⟨_, rfl, sl_one5 hB6 ho hX6 (.inr rfl)⟩
        · exact ⟨_, rfl, by rw [← hD]; exact sl_dropG hV6 (by omega)⟩)
      have hfl : [xs.take j, [(⟨o, x⟩ : KepR)], xs.drop (j + 1)].flatten = xs.take j ++ ⟨o, x⟩ :: xs.drop (j + 1) := by simp
      have hln : (xs.take j ++ (⟨o, x⟩ : KepR) :: xs.drop (j + 1)).length = xs.length := by simp; omega
      have hC := copyKept_any (ks := ks) d (fun b' => F b' ∨ b' = w4.heap.size) (w4.heap.size + 1) 3 [xs.take j, [⟨o, x⟩], xs.drop (j + 1)] w6 hpc (by omega) (fun b' hb' => by rcases hb' with h | h; have := HF4.out b' h; omega; omega) (by simp) (by omega) (by simp)
        (good_put (o := o) HVo.out HKx.out hsm hsx _ (fun y hy => by
          rw [hfl] at hy
          rcases List.mem_append.1 hy with h | h
          · exact .inl (List.mem_of_mem_take h)
          · rcases List.mem_cons.1 h with h | h
            · exact .inr h
            · exact .inl (List.mem_of_mem_drop h)))
        (by rw [hfl, hln]; have := (vOk_ables HVo.out).2; omega)
      rw [hfl] at hC
      have HW6 := Lib.hid hw6
      have HB6 := Lib.hid (HB4.out.trans (hb46.mono HB4.out.size))
      obtain ⟨ys, hys⟩ : ∃ ys, ys = xs.take j ++ (⟨o, x⟩ : KepR) :: xs.drop (j + 1) := ⟨_, rfl⟩
      rw [← hys] at hC HG
      have HC6 : Hid (Calls Try.prog 77 #[.slice (some ⟨w4.heap.size + 1, 0, none⟩) 3 3] w6 fun e w' => ∃ Y cy, e = .returned (.slice Y ys.length cy) ∧ Own (OKept d) 35 w6.heap.size w'.heap.size w' (.slice Y ys.length cy) ys ∧ Below w6.heap.size w6 w') := Lib.hid hC
      rw [hw6] at HC6
      have hs4 := HB4.out.size
      clear hb hb2 hb04 hbW hC hpc hX6 hV6 hP6 hB6 hBk hb46 hw6 hys hfl hln
      go_region_with (go_at_call 77; (with_reducible refine HC6.out.mono ?_); rintro e w7 ⟨Y, cy, rfl, hO, hb7⟩)
      all_goals
        go_wp2
        go_ret2
        rw [HG.out]
        have hb7' : Below w6.heap.size w6 w7 := by rw [HW6.out]; exact hb7
        exact ⟨Y, cy, rfl, (by rw [← HW6.out] at hO; exact hO.mono (by omega) (Nat.le_refl _)), HB6.out.trans (hb7'.mono HB6.out.size)⟩
end Go.Proofs.Ytemlpiokdoeeeaa
