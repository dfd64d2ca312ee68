/- The model's VaultsPut and VaultsSet. -/
import Derived.Test.YtemlpiokdoeeeaaWg
import Derived.Test.YtemlpiokdoeeeaaWi
namespace Go.Proofs.Ytemlpiokdoeeeaa
open Go.RowKit

def RowKD (d : Nat) (r : List KepR × Bool) (w : World) (e : Ending) (w' : World) : Prop :=
  ∃ A cap, e = .returned (.tuple #[.slice A r.1.length cap, .bool r.2]) ∧ Made (Cod.kept (Cod.val d)) w w' (.slice A r.1.length cap) r.1
theorem made_row {d M : Nat} {w w' : World} {v : Value} {xs : List KepR} (h : OwnRow (Cod.kept (Cod.val d)) 35 M M w' v xs) (hM : w.heap.size ≤ M) (hb : Below w.heap.size w w') : Made (Cod.kept (Cod.val d)) w w' v xs :=
  ⟨(h.sl (Nat.le_refl _)).mono fun b hb => ⟨Nat.le_trans hM hb.1, hb.2⟩, hb⟩
theorem made_row2 {d M base : Nat} {w w' : World} {v : Value} {xs : List KepR} (h : OwnRow (Cod.kept (Cod.val d)) 35 base M w' v xs) (hM : w.heap.size ≤ M) (hbs : M ≤ base) (hb : Below w.heap.size w w') : Made (Cod.kept (Cod.val d)) w w' v xs :=
  ⟨(h.sl hbs).mono fun b hb => ⟨Nat.le_trans hM hb.1, hb.2⟩, hb⟩
theorem Cod.Sl.none_len5 {α : Type} {c : Cod α} {F : Nat → Prop} {w : World} {A : Option Addr} {cap : Nat} (hc : cap ≤ maxLen) : c.Sl F w (.slice A 0 cap) ([] : List α) := ⟨A, cap, rfl, Nat.zero_le _, hc, fun h => absurd h (by simp)⟩
theorem made_lit {d : Nat} {w w2 : World} (hb : Below w.heap.size w w2) : Made (Cod.kept (Cod.val d)) w (w2.alloc (.cells #[] 35)) (.slice (some ⟨w2.heap.size, 0, none⟩) 0 0) ([] : List KepR) :=
  ⟨Cod.Sl.none_len5 (Nat.zero_le _), hb.alloc hb.size _⟩
/-- Where a record can be put. -/
def canPut (ks : Ks) (d : Nat) (xs : List KepR) (o : Int) (v : Val) : Bool := vOk ks d xs && (inB o 0 3 && (keptB ks d v && decide (findK o v.ty xs 0 < 0)))
def putR (ks : Ks) (d : Nat) (xs : List KepR) (o : Int) (v : Val) : List KepR × Bool := if canPut ks d xs o v = true then (putK o v xs, true) else ([], false)
theorem putR_no {ks : Ks} {d : Nat} {xs : List KepR} {o : Int} {v : Val} (h : canPut ks d xs o v = false) : putR ks d xs o v = ([], false) := by unfold putR; rw [h]; rfl
def setK (xs : List KepR) (j : Nat) (v : Val) : List KepR := xs.set j ⟨(xs.getD j zeroK).o, v⟩
def setR (ks : Ks) (d : Nat) (xs : List KepR) (o : Int) (v : Val) : List KepR × Bool := match idxK ks d xs o v.ty with | some j => if keptB ks d v = true then (setK xs j v, true) else ([], false) | none => ([], false)
theorem vOk_ables {ks : Ks} {d : Nat} {xs : List KepR} (h : vOk ks d xs = true) : AblesIn ks ∧ xs.length ≤ 36 := by
  unfold vOk at h
  simp only [Bool.and_eq_true] at h
  exact ⟨ables_in h.1, okList_len h.2⟩

set_option maxRecDepth 100000 in
set_option maxHeartbeats 4000000 in
theorem specVaultsPut_any {ks : Ks} (d : Nat) (F : Nat → Prop) (kv vl : Value) (xs : List KepR) (o : Int) (A B : Option Addr) (n m cA cB : Nat) (v : Val) (w : World) (hks : Cod.recs.Sl F w kv ks) (h : (Cod.kept (Cod.val d)).Sl F w vl xs) (hvv : VRd (Cod.val d) F w (.slice A n cA) (.slice B m cB) v) (hF : ∀ b, F b → b < w.heap.size) (hsm : ∀ x ∈ xs, SmolKep d x) (hsv : Smol (SmolD d) v) (ho : I64 o) :
    Calls Try.prog 28 #[kv, vl, .int .i64 o, .agg #[.string v.ty, .int .i64 v.n, .slice A n cA, .slice B m cB]] w (RowKD d (putR ks d xs o v) w) := by
  obtain ⟨w0, hw0⟩ : ∃ w0, w0 = w.alloc (.cells #[.string v.ty, .int .i64 v.n, .slice A n cA, .slice B m cB] 31) := ⟨_, rfl⟩
  have hb0 : Below w.heap.size w w0 := by rw [hw0]; exact (Below.refl _ _).alloc (Nat.le_refl _) _
  have hs0 : w0.heap.size = w.heap.size + 1 := by rw [hw0]; simp
  have hB0 : Blk w0 w.heap.size 31 #[.string v.ty, .int .i64 v.n, .slice A n cA, .slice B m cB] := by rw [hw0]; exact Blk.new _ _ _
  have hk0 : ∀ b, F b → w0.heap[b]? = w.heap[b]? := fun b hb => hb0.block b (hF b hb)
  have hF0 : ∀ b, F b → b < w0.heap.size := fun b hb => by have := hF b hb; omega
  have HS := Lib.hid (hks.keep hk0)
  have HL := Lib.hid (h.keep hk0)
  have HV := Lib.hid (hvv.keep hk0)
  have HVo := Lib.hid (specVaultsOk_any d F kv vl xs w0 HS.out HL.out hF0)
  have HF := Lib.hid hF0
  have HE := Lib.hid hb0
  have HBx := Lib.hid hB0
  have Hw0 := Lib.hid hw0
  have HSm := Lib.hid hsm
  have HSv := Lib.hid hsv
  have Ho := Lib.hid ho
  have hr0 : w.heap.size < w0.heap.size := by omega
  have hty := hvv.ty
  unfold maxLen at hty
  obtain ⟨y0, y1, y2, y3⟩ := hB0.c2
  obtain ⟨Ak, ck, rfl, _⟩ := hks
  obtain ⟨Al, cap, rfl, hlc, hcm, _⟩ := h
  unfold maxLen at hcm
  clear hb0 hs0 hB0 hk0 hF0 hw0 hF hsm hsv ho hvv
  cases hv : vOk ks d xs with
  | false =>
    rw [hv] at HVo
    have HN := Lib.hid (putR_no (ks := ks) (d := d) (xs := xs) (o := o) (v := v) (by unfold canPut; rw [hv]; rfl))
    clear hv
    go_enter Try.func28, Try.ntmps28
    rw [Hw0.out] at y0 y1 y2 y3
    go_wp2_with fail
    rw [← Hw0.out]
    rw [← Hw0.out] at y0 y1 y2 y3
    go_at_call 12
    with_reducible refine HVo.out.mono ?_
    rintro e w2 ⟨rfl, hb2⟩
    have HB2 := Lib.hid hb2
    clear hb2 y0 y1 y2 y3
    have HQ := Lib.hid (show RowKD d (putR ks d xs o v) w (.returned (.tuple #[.slice (some ⟨w2.heap.size, 0, none⟩) 0 0, .bool false])) (w2.alloc (.cells #[] 35)) by
      rw [HN.out]
      exact ⟨_, 0, rfl, made_lit (HE.out.trans (HB2.out.mono HE.out.size))⟩)
    go_wp2
    go_ret2
    exact HQ.out
  | true =>
    rw [hv] at HVo
    obtain ⟨hab, h36⟩ := vOk_ables hv
    have HKd := Lib.hid (fun (W : World) (hb : Below w0.heap.size w0 W) => l9Kind_any d F (.slice Ak ks.length ck) A B n m cA cB v W (HS.out.keep (below_keeps hb HF.out)) (HV.out.keep (below_keeps hb HF.out)) (below_goF HF.out hb) hab)
    have HFi := Lib.hid (fun (W : World) (hb : Below w0.heap.size w0 W) => l9Find_any d F (.slice Al xs.length cap) xs o v.ty W (HL.out.keep (below_keeps hb HF.out)))
    have HCo := Lib.hid (fun (W : World) (hb : Below w0.heap.size w0 W) => l9Copy_any d F (.slice Al xs.length cap) xs W (HL.out.keep (below_keeps hb HF.out)) (below_goF HF.out hb) (by omega) HSm.out)
    have HPu := Lib.hid (fun (W : World) (hb : Below w0.heap.size w0 W) (M g c : Nat) (hM : M ≤ W.heap.size) (hr : OwnRow (Cod.kept (Cod.val d)) 35 M M W (.slice (some ⟨g, 0, none⟩) xs.length c) xs) => l9Put_any d M F _ xs o A B n m cA cB v W hr hM (by omega) Ho.out (HV.out.keep (below_keeps hb HF.out)) (below_goF HF.out hb) HSv.out)
    cases hin : inB o 0 3 with
    | false =>
      have HN := Lib.hid (putR_no (ks := ks) (d := d) (xs := xs) (o := o) (v := v) (by unfold canPut; rw [hin]; simp))
      have HI : Hid (∀ W : World, Calls Try.prog 69 #[.int .i64 o, .int .i64 0, .int .i64 3] W fun e w' => e = .returned (.bool false) ∧ W = w') := Lib.hid (fun W => by have := l6In_any o 0 3 W; rw [show (decide ((0 : Int) ≤ o) && decide (o ≤ 3)) = false from hin] at this; exact this)
      clear hv hin hab
      go_enter Try.func28, Try.ntmps28
      rw [Hw0.out] at y0 y1 y2 y3
      go_wp2_with fail
      rw [← Hw0.out]
      rw [← Hw0.out] at y0 y1 y2 y3
      go_at_call 12
      with_reducible refine HVo.out.mono ?_
      rintro e w2 ⟨rfl, hb2⟩
      have HB2 := Lib.hid hb2
      have HI2 := Lib.hid (HI.out w2)
      clear hb2 y0 y1 y2 y3
      go_wp2_with fail
      go_at_call 69
      with_reducible refine HI2.out.mono ?_
      rintro e w3 ⟨rfl, rfl⟩
      have HQ := Lib.hid (show RowKD d (putR ks d xs o v) w (.returned (.tuple #[.slice (some ⟨w2.heap.size, 0, none⟩) 0 0, .bool false])) (w2.alloc (.cells #[] 35)) by
        rw [HN.out]
        exact ⟨_, 0, rfl, made_lit (HE.out.trans (HB2.out.mono HE.out.size))⟩)
      go_wp2
      go_ret2
      exact HQ.out
    | true =>
      have HI : Hid (∀ W : World, Calls Try.prog 69 #[.int .i64 o, .int .i64 0, .int .i64 3] W fun e w' => e = .returned (.bool true) ∧ W = w') := Lib.hid (fun W => by have := l6In_any o 0 3 W; rw [show (decide ((0 : Int) ≤ o) && decide (o ≤ 3)) = true from hin] at this; exact this)
      cases hkb : keptB ks d v with
      | false =>
        have HN := Lib.hid (putR_no (ks := ks) (d := d) (xs := xs) (o := o) (v := v) (by unfold canPut; rw [hkb]; simp))
        rw [hkb] at HKd
        clear hv hin hab hkb
        go_enter Try.func28, Try.ntmps28
        rw [Hw0.out] at y0 y1 y2 y3
        go_wp2_with fail
        rw [← Hw0.out]
        rw [← Hw0.out] at y0 y1 y2 y3
        go_at_call 12
        with_reducible refine HVo.out.mono ?_
        rintro e w2 ⟨rfl, hb2⟩
        have HB2 := Lib.hid hb2
        have HI2 := Lib.hid (HI.out w2)
        have HK2 := Lib.hid (HKd.out w2 hb2)
        clear y0 y1 y2 y3
        obtain ⟨y0, y1, y2, y3⟩ := (HBx.out.below hb2 hr0).c2
        clear hb2
        go_wp2_with fail
        go_at_call 69
        with_reducible refine HI2.out.mono ?_
        rintro e w3 ⟨rfl, rfl⟩
        go_wp2_with fail
        go_at_call 70
        with_reducible refine HK2.out.mono ?_
        rintro e w4 ⟨rfl, hb4⟩
        have HB4 := Lib.hid (HB2.out.trans (hb4.mono HB2.out.size))
        clear hb4 y0 y1 y2 y3
        have HQ := Lib.hid (show RowKD d (putR ks d xs o v) w (.returned (.tuple #[.slice (some ⟨w4.heap.size, 0, none⟩) 0 0, .bool false])) (w4.alloc (.cells #[] 35)) by
          rw [HN.out]
          exact ⟨_, 0, rfl, made_lit (HE.out.trans (HB4.out.mono HE.out.size))⟩)
        go_wp2
        go_ret2
        exact HQ.out
      | true =>
        rw [hkb] at HKd
        obtain ⟨z, hz⟩ : ∃ z, z = findK o v.ty xs 0 := ⟨_, rfl⟩
        rw [← hz] at HFi
        by_cases hz0 : z < 0
        · have HN := Lib.hid (show putR ks d xs o v = (putK o v xs, true) by unfold putR canPut; rw [hv, hin, hkb, decide_eq_true (show findK o v.ty xs 0 < 0 by rw [← hz]; exact hz0)]; rfl)
          have hz1 : ¬ 0 ≤ z := by omega
          clear hv hin hab hkb hz
          go_enter Try.func28, Try.ntmps28
          rw [Hw0.out] at y0 y1 y2 y3
          go_wp2_with fail
          rw [← Hw0.out]
          rw [← Hw0.out] at y0 y1 y2 y3
          go_at_call 12
          with_reducible refine HVo.out.mono ?_
          rintro e w2 ⟨rfl, hb2⟩
          have HB2 := Lib.hid hb2
          have HI2 := Lib.hid (HI.out w2)
          have HK2 := Lib.hid (HKd.out w2 hb2)
          clear y0 y1 y2 y3
          obtain ⟨y0, y1, y2, y3⟩ := (HBx.out.below hb2 hr0).c2
          clear hb2
          go_wp2_with fail
          go_at_call 69
          with_reducible refine HI2.out.mono ?_
          rintro e w3 ⟨rfl, rfl⟩
          go_wp2_with fail
          go_at_call 70
          with_reducible refine HK2.out.mono ?_
          rintro e w4 ⟨rfl, hb4⟩
          have HB4 := Lib.hid (HB2.out.trans (hb4.mono HB2.out.size))
          have HF4 := Lib.hid (HFi.out w4 HB4.out)
          clear hb4 y0 y1 y2 y3
          obtain ⟨y0, y1, y2, y3⟩ := (HBx.out.below HB4.out hr0).c2
          go_wp2_with fail
          go_at_call 57
          with_reducible refine HF4.out.mono ?_
          rintro e w5 ⟨rfl, rfl⟩
          go_upto_region 3 with fail
          have HBd := Lib.hid (show Below w0.heap.size w0 w5.drew from HB4.out.drew)
          have HC4 := Lib.hid (HCo.out w5.drew HBd.out)
          have hrd : w.heap.size < w5.drew.heap.size := Nat.lt_of_lt_of_le hr0 HBd.out.size
          go_region_with (first
            | (go_at_call 72; (with_reducible refine HC4.out.mono ?_); rintro e w6 ⟨g6, c6, rfl, hO6, hb6⟩; go_must (
                have HB6 := Lib.hid (HBd.out.trans (hb6.mono HBd.out.size));
                obtain ⟨x0, x1, x2, x3⟩ := (HBx.out.below HB6.out hr0).c2;
                have HP6 := Lib.hid (HPu.out w6 HB6.out _ g6 c6 hb6.size hO6);
                have hm6 := hb6.size;
                clear hO6 hb6))
            | (go_at_call 71; (with_reducible refine HP6.out.mono ?_); rintro e w7 ⟨g7, c7, rfl, hO7, hb7⟩; go_must (
                have hsz4 := HBd.out.size;
                have HQ := Lib.hid (show RowKD d (putR ks d xs o v) w (.returned (.tuple #[.slice (some ⟨g7, 0, none⟩) (putK o v xs).length c7, .bool true])) w7 by
                  rw [HN.out]
                  exact ⟨_, c7, rfl, made_row2 hO7 (Nat.le_trans HE.out.size hsz4) hm6 (HE.out.trans ((HB6.out.trans (hb7.mono HB6.out.size)).mono HE.out.size))⟩);
                clear hO7 hb7 hsz4)))
          all_goals
            go_wp2
            go_ret2
            exact HQ.out
        · have HN := Lib.hid (putR_no (ks := ks) (d := d) (xs := xs) (o := o) (v := v) (by unfold canPut; rw [decide_eq_false (show ¬ findK o v.ty xs 0 < 0 by rw [← hz]; exact hz0)]; simp))
          have hz1 : 0 ≤ z := by omega
          clear hv hin hab hkb hz
          go_enter Try.func28, Try.ntmps28
          rw [Hw0.out] at y0 y1 y2 y3
          go_wp2_with fail
          rw [← Hw0.out]
          rw [← Hw0.out] at y0 y1 y2 y3
          go_at_call 12
          with_reducible refine HVo.out.mono ?_
          rintro e w2 ⟨rfl, hb2⟩
          have HB2 := Lib.hid hb2
          have HI2 := Lib.hid (HI.out w2)
          have HK2 := Lib.hid (HKd.out w2 hb2)
          clear y0 y1 y2 y3
          obtain ⟨y0, y1, y2, y3⟩ := (HBx.out.below hb2 hr0).c2
          clear hb2
          go_wp2_with fail
          go_at_call 69
          with_reducible refine HI2.out.mono ?_
          rintro e w3 ⟨rfl, rfl⟩
          go_wp2_with fail
          go_at_call 70
          with_reducible refine HK2.out.mono ?_
          rintro e w4 ⟨rfl, hb4⟩
          have HB4 := Lib.hid (HB2.out.trans (hb4.mono HB2.out.size))
          have HF4 := Lib.hid (HFi.out w4 HB4.out)
          clear hb4 y0 y1 y2 y3
          obtain ⟨y0, y1, y2, y3⟩ := (HBx.out.below HB4.out hr0).c2
          go_wp2_with fail
          go_at_call 57
          with_reducible refine HF4.out.mono ?_
          rintro e w5 ⟨rfl, rfl⟩
          have HQ := Lib.hid (show RowKD d (putR ks d xs o v) w (.returned (.tuple #[.slice (some ⟨w5.heap.size, 0, none⟩) 0 0, .bool false])) (w5.alloc (.cells #[] 35)) by
            rw [HN.out]
            exact ⟨_, 0, rfl, made_lit (HE.out.trans (HB4.out.mono HE.out.size))⟩)
          go_wp2
          go_ret2
          exact HQ.out
end Go.Proofs.Ytemlpiokdoeeeaa
