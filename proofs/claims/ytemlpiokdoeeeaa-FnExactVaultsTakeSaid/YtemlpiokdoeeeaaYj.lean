/- The program's VaultsPut. -/
import Derived.Test.YtemlpiokdoeeeaaYg
import Derived.Test.YtemlpiokdoeeeaaYi
namespace Go.Proofs.Ytemlpiokdoeeeaa
open Go.RowKit

theorem sl_take5 {α : Type} {c : Cod α} {F : Nat → Prop} {w : World} {A : Option Addr} {cap : Nat} {xs : List α} (h : c.Sl F w (.slice A xs.length cap) xs) {p : Nat} (hp : p ≤ xs.length) : c.Sl F w (.slice A p cap) (xs.take p) := by
  obtain ⟨A', cap', hv, h1, h2, h3⟩ := h
  simp only [Value.slice.injEq] at hv
  obtain ⟨rfl, -, rfl⟩ := hv
  have hl : (xs.take p).length = p := by simp; omega
  refine ⟨A, cap, by rw [hl], by rw [hl]; omega, h2, fun h0 => ?_⟩
  obtain ⟨b, off, hA, hF, hx⟩ := h3 (by omega)
  refine ⟨b, off, hA, hF, fun i x hi => hx i x ?_⟩
  rw [List.getElem?_take] at hi
  split at hi
  · exact hi
  · cases hi
theorem sl_drop5 {α : Type} {c : Cod α} {F : Nat → Prop} {w : World} {b off cap : Nat} {xs : List α} (h : c.Sl F w (.slice (some ⟨b, off, none⟩) xs.length cap) xs) {p : Nat} (hp : p ≤ xs.length) : c.Sl F w (.slice (some ⟨b, off + p * c.size, none⟩) (xs.length - p) (cap - p)) (xs.drop p) := by
  obtain ⟨A', cap', hv, h1, h2, h3⟩ := h
  simp only [Value.slice.injEq] at hv
  obtain ⟨rfl, -, rfl⟩ := hv
  have hl : (xs.drop p).length = xs.length - p := by simp
  refine ⟨_, cap - p, by rw [hl], by rw [hl]; omega, by unfold maxLen at *; omega, fun h0 => ?_⟩
  obtain ⟨b', off', hA, hF, hx⟩ := h3 (by omega)
  simp only [Option.some.injEq, Addr.mk.injEq] at hA
  obtain ⟨rfl, rfl, -⟩ := hA
  refine ⟨b, off + p * c.size, rfl, hF, fun i x hi => ?_⟩
  rw [List.getElem?_drop] at hi
  obtain ⟨cs, h4, h5⟩ := hx (p + i) x hi
  exact ⟨cs, fun j u hu => by have := h4 j u hu; rw [Nat.add_mul] at this; rw [show off + p * c.size + i * c.size + j = off + (p * c.size + i * c.size) + j by omega]; exact this, h5⟩
theorem sl_none5 {α : Type} {c : Cod α} {F : Nat → Prop} {w : World} {A : Option Addr} {cap : Nat} (hc : cap ≤ maxLen) : c.Sl F w (.slice A 0 cap) ([] : List α) := ⟨A, cap, rfl, Nat.zero_le _, hc, fun h => absurd h (by simp)⟩

theorem sl_dropG {d : Nat} {F : Nat → Prop} {w : World} {A : Option Addr} {cap : Nat} {xs : List KepR} (h : (Cod.kept (Cod.val d)).Sl F w (.slice A xs.length cap) xs) {p : Nat} (hp : p ≤ xs.length) : (Cod.kept (Cod.val d)).Sl F w (.slice (if cap = p then A else Option.map (fun x => x.add (p * 5)) A) (xs.length - p) (cap - p)) (xs.drop p) := by
  obtain ⟨A', cap', hv, h1, h2, h3⟩ := id h
  simp only [Value.slice.injEq] at hv
  obtain ⟨rfl, -, rfl⟩ := hv
  by_cases h0 : p < xs.length
  · obtain ⟨b, off, rfl, -⟩ := h3 (by omega)
    rw [if_neg (by omega)]
    have := sl_drop5 h hp
    simp only [Option.map_some, Go.WideShapes.add_plain]
    exact this
  · have hd : xs.drop p = [] := List.drop_eq_nil_of_le (by omega)
    rw [hd, show xs.length - p = 0 by omega]
    exact sl_none5 (by unfold maxLen at *; omega)
theorem pieces_of {d : Nat} {F : Nat → Prop} {w : World} {b : Nat} {vs : List Value} {ps : List (List KepR)} (hB : Blk w b 24 vs.toArray) (h : ∀ i (_ : i < ps.length), ∃ v, vs[i]? = some v ∧ (Cod.kept (Cod.val d)).Sl F w v ps[i]) : Pieces d F w b ps := ⟨vs, hB, h⟩
theorem sl_one5 {d : Nat} {F : Nat → Prop} {w : World} {b : Nat} {o : Int} {x : Val} {A B : Option Addr} {cA cB : Nat} (hB : Blk w b 35 #[.int .i64 o, .string x.ty, .int .i64 x.n, .slice A x.parts.length cA, .slice B x.path.length cB]) (ho : I64 o) (hx : VRd (Cod.val d) F w (.slice A x.parts.length cA) (.slice B x.path.length cB) x) (hb : F b) : (Cod.kept (Cod.val d)).Sl F w (.slice (some ⟨b, 0, none⟩) 1 1) [⟨o, x⟩] :=
  ⟨_, 1, rfl, Nat.le_refl _, by unfold maxLen; omega, fun _ => ⟨b, 0, rfl, hb, fun i y hi => by
    have h0 : i = 0 := by have := (List.getElem?_eq_some_iff.1 hi).1; simpa using this
    subst h0
    simp at hi
    subst hi
    refine ⟨_, fun j u hu => ?_, _, _, rfl, ho, hx⟩
    simp only [Nat.zero_mul, Nat.zero_add]
    rw [hB.cell]
    simpa using hu⟩⟩
theorem flat_put3 {xs : List KepR} {p : Nat} {k : KepR} : [xs.take p, [k], xs.drop p].flatten = xs.take p ++ k :: xs.drop p := by simp
/-- Of the elements of good vaults, and one more. -/
theorem good_put {ks : Ks} {d : Nat} {xs : List KepR} {o : Int} {x : Val} (hv : vOk ks d xs = true) (hx : keptB ks d x = true) (hsm : ∀ y ∈ xs, SmolKep d y) (hsx : Smol (SmolD d) x) (ys : List KepR) (hy : ∀ y ∈ ys, y ∈ xs ∨ y = ⟨o, x⟩) : ∀ y ∈ ys, okOf ks (okV ks d) y.v = true ∧ SmolKep d y := fun y hm => by
  rcases hy y hm with h | rfl
  · refine ⟨?_, hsm y h⟩
    obtain ⟨i, hi, rfl⟩ := List.getElem_of_mem h
    unfold vOk at hv
    simp only [Bool.and_eq_true] at hv
    have := okList_at hv.2 hi
    unfold okAtK at this
    rw [getK hi] at this
    simp only [Bool.and_eq_true] at this
    exact kept_okOf this.1.2
  · exact ⟨kept_okOf hx, hsx⟩

set_option maxRecDepth 100000 in
set_option maxHeartbeats 4000000 in
theorem implVaultsPut_any {ks : Ks} (d : Nat) (F : Nat → Prop) (kv vl : Value) (xs : List KepR) (o : Int) (A B : Option Addr) (n m cA cB : Nat) (x : Val) (w : World) (hks : Cod.recs.Sl F w kv ks) (h : (Cod.kept (Cod.val d)).Sl F w vl xs) (hx : VRd (Cod.val d) F w (.slice A n cA) (.slice B m cB) x) (hF : ∀ b, F b → b < w.heap.size) (hsm : ∀ x ∈ xs, SmolKep d x) (hsx : Smol (SmolD d) x) (ho : I64 o) :
    Calls Try.prog 30 #[kv, vl, .int .i64 o, .agg #[.string x.ty, .int .i64 x.n, .slice A n cA, .slice B m cB]] w fun e w' => ∃ Y cy, e = .returned (.tuple #[.slice Y (putR ks d xs o x).1.length cy, .bool (putR ks d xs o x).2]) ∧ Own (OKept d) 35 w.heap.size w'.heap.size w' (.slice Y (putR ks d xs o x).1.length cy) (putR ks d xs o x).1 ∧ Below w.heap.size w w' := by
  obtain ⟨w0, hw0⟩ : ∃ w0, w0 = (w.alloc (.cells #[.string x.ty, .int .i64 x.n, .slice A n cA, .slice B m cB] 31)).alloc (.cells #[.int .i64 o, .string x.ty, .int .i64 x.n, .slice A n cA, .slice B m cB] 35) := ⟨_, rfl⟩
  have hb0 : Below w.heap.size w w0 := by rw [hw0]; exact ((Below.refl _ _).alloc (Nat.le_refl _) _).alloc (by simp) _
  have hs0 : w0.heap.size = w.heap.size + 2 := by rw [hw0]; simp
  have hBB := Blk.of2 w 31 35 #[.string x.ty, .int .i64 x.n, .slice A n cA, .slice B m cB] #[.int .i64 o, .string x.ty, .int .i64 x.n, .slice A n cA, .slice B m cB]
  rw [← hw0] at hBB
  have HX0 := Lib.hid hBB.1
  have HK0 := Lib.hid hBB.2
  have hF0 : ∀ b, F b → b < w0.heap.size := fun b hb => by have := hF b hb; omega
  have HV0 := Lib.hid (h.keep (w' := w0) (below_keeps hb0 hF))
  have HXv := Lib.hid (hx.keep (w' := w0) (below_keeps hb0 hF))
  have HT := Lib.hid (tableOf_any F kv ks w0 (hks.keep (w' := w0) (below_keeps hb0 hF)) hF0)
  have HF0 := Lib.hid hF0
  have HE := Lib.hid hb0
  have Hw0 := Lib.hid hw0
  obtain ⟨Ak, ck, rfl, _⟩ := hks
  obtain ⟨Al, cap, rfl, hlc, hcm, _⟩ := h
  unfold maxLen at hcm
  have HNo := Lib.hid (fun (hn : canPut ks d xs o x = false) (w' : World) (hb : Below w.heap.size w w') => show ∃ Y cy, Ending.returned (.tuple #[.slice none 0 0, .bool false]) = .returned (.tuple #[.slice Y (putR ks d xs o x).1.length cy, .bool (putR ks d xs o x).2]) ∧ Own (OKept d) 35 w.heap.size w'.heap.size w' (.slice Y (putR ks d xs o x).1.length cy) (putR ks d xs o x).1 ∧ Below w.heap.size w w' from
    ⟨none, 0, by rw [putR_no hn]; rfl, by rw [putR_no hn]; exact own_nil5, hb⟩)
  clear hF hb0 hw0 hBB hF0
  obtain ⟨x0, x1, x2, x3⟩ := HX0.out.c2
  obtain ⟨k0, k1, k2, k3, k4⟩ := HK0.out.c5
  go_enter Try.func30, Try.ntmps30
  go_upto_region 2 with fail
  rw [← Hw0.out]
  go_wp2_with fail
  go_at_call 44
  refine HT.out.mono ?_
  rintro e w1 ⟨hb, ⟨hk, rfl⟩ | ⟨hk, b, l, rfl, hm, ht, hbl⟩⟩
  · have HN := Lib.hid (show canPut ks d xs o x = false by unfold canPut vOk; rw [hk]; rfl)
    have HB := Lib.hid hb
    clear hk hb
    go_wp2
    go_ret2
    exact HNo.out HN.out _ (HE.out.trans (HB.out.mono HE.out.size))
  · have hT1 : Table F ks b w1 := ⟨l, hm.imp (fun _ _ h => h.keep (below_keeps hb HF0.out)), ht⟩
    have hV1 := HV0.out.keep (below_keeps hb HF0.out)
    have hF1 := below_goF HF0.out hb
    have HOk := Lib.hid (tabVaultsOk_any d F b _ xs w1 (ables_in hk) hT1 hV1 hF1)
    have HMay := Lib.hid (fun (w2 : World) (hb2 : Below w1.heap.size w1 w2) => keptOk_any d F b A B n m cA cB ⟨o, x⟩ w2 (ables_in hk) (hT1.keep (below_keeps hb2 hF1) (hb2.block b hT1.lt)) ((HXv.out.keep (below_keeps hb HF0.out)).keep (below_keeps hb2 hF1)) (below_goF hF1 hb2))
    have HV1 := Lib.hid hV1
    have HF1 := Lib.hid hF1
    have HXv1 := Lib.hid (HXv.out.keep (below_keeps hb HF0.out))
    have hs1 := hb.size
    have HX1 := Lib.hid (HX0.out.below hb HX0.out.lt)
    have HK1 := Lib.hid (HK0.out.below hb HK0.out.lt)
    have HB1 := Lib.hid (HE.out.trans (hb.mono HE.out.size))
    have Hk := Lib.hid hk
    clear hb hm ht hbl hT1 hV1 hF1 x0 x1 x2 x3 k0 k1 k2 k3 k4 hk
    obtain ⟨x0, x1, x2, x3⟩ := HX1.out.c2
    obtain ⟨k0, k1, k2, k3, k4⟩ := HK1.out.c5
    cases hok : okList ks d xs with
    | false =>
      have HN := Lib.hid (show canPut ks d xs o x = false by unfold canPut vOk; rw [hok]; simp)
      rw [hok] at HOk
      clear hok HMay
      go_wp2_with (go_at_call 45; (with_reducible refine HOk.out.mono ?_); rintro e w2 ⟨rfl, hb2⟩)
      go_ret2
      exact HNo.out HN.out _ (HB1.out.trans (hb2.mono HB1.out.size))
    | true =>
      have HVo := Lib.hid (show vOk ks d xs = true by unfold vOk; rw [hok, Hk.out]; rfl)
      rw [hok] at HOk
      clear hok
      cases hmay : mayB ks d ⟨o, x⟩ with
      | false =>
        have HN := Lib.hid (show canPut ks d xs o x = false by
          have : (inB o 0 3 && keptB ks d x) = false := hmay
          unfold canPut
          rw [← Bool.and_assoc (inB o 0 3), this]
          simp)
        have HMy : Hid (∀ (w2 : World) (hb2 : Below w1.heap.size w1 w2), Calls Try.prog 75 #[.map (some b), .agg #[.int .i64 o, .string x.ty, .int .i64 x.n, .slice A n cA, .slice B m cB]] w2 fun e w' => e = .returned (.bool false) ∧ Below w2.heap.size w2 w') := Lib.hid (fun w2 hb2 => by have := HMay.out w2 hb2; rw [hmay] at this; exact this)
        clear hmay HMay
        go_wp2_with (first
          | (go_at_call 45; (with_reducible refine HOk.out.mono ?_); rintro e w2 ⟨rfl, hb2⟩; obtain ⟨q0, q1, q2, q3, q4⟩ := (HK1.out.below hb2 HK1.out.lt).c5)
          | (go_at_call 75; (with_reducible refine (HMy.out _ hb2).mono ?_); rintro e w3 ⟨rfl, hb3⟩))
        go_ret2
        exact HNo.out HN.out _ (HB1.out.trans ((hb2.trans (hb3.mono hb2.size)).mono HB1.out.size))
      | true =>
        have HMy : Hid (∀ (w2 : World) (hb2 : Below w1.heap.size w1 w2), Calls Try.prog 75 #[.map (some b), .agg #[.int .i64 o, .string x.ty, .int .i64 x.n, .slice A n cA, .slice B m cB]] w2 fun e w' => e = .returned (.bool true) ∧ Below w2.heap.size w2 w') := Lib.hid (fun w2 hb2 => by have := HMay.out w2 hb2; rw [hmay] at this; exact this)
        have HMb := Lib.hid (show (inB o 0 3 && keptB ks d x) = true from hmay)
        clear hmay HMay
        have HPl := Lib.hid (fun (w3 : World) (hb3 : Below w1.heap.size w1 w3) => placeOf_any F _ xs o x.ty w3 (HV1.out.keep (below_keeps hb3 HF1.out)) (below_goF HF1.out hb3) (vOk_sorted HVo.out) (vOk_ables HVo.out).2)
        go_wp2_with (first
          | (go_at_call 45; (with_reducible refine HOk.out.mono ?_); rintro e w2 ⟨rfl, hb2⟩; obtain ⟨q0, q1, q2, q3, q4⟩ := (HK1.out.below hb2 HK1.out.lt).c5)
          | (go_at_call 75; (with_reducible refine (HMy.out _ hb2).mono ?_); rintro e w3 ⟨rfl, hb3⟩; have hb13 := hb2.trans (hb3.mono hb2.size); obtain ⟨v0, v1, v2, v3⟩ := (HX1.out.below hb13 HX1.out.lt).c2)
          | fail)
        with_reducible refine (HPl.out _ hb13).mono ?_
        rintro e w4 hq
        unfold SearchD at hq
        obtain ⟨p, hp, rfl, hb4⟩ := hq
        have hb14 := hb13.trans (hb4.mono hb13.size)
        have HB4 := Lib.hid (HB1.out.trans (hb14.mono HB1.out.size))
        have hpf : findK o x.ty xs 0 = if foundK xs ⟨o, .mk x.ty 0 [] []⟩ p = true then (p : Int) else -1 := place_find (vOk_sorted HVo.out) hp
        have HPp := Lib.hid (show PlaceK xs ⟨o, x⟩ p from ⟨hp.le, hp.lo, hp.hi⟩)
        have HFd := Lib.hid (show foundK xs ⟨o, x⟩ p = foundK xs ⟨o, .mk x.ty 0 [] []⟩ p from rfl)
        have hple := hp.le
        clear hb2 hb3 hp HPl HMy HOk q0 q1 q2 q3 q4 v0 v1 v2 v3
        cases hfd : foundK xs ⟨o, .mk x.ty 0 [] []⟩ p with
        | true =>
          have HN := Lib.hid (show canPut ks d xs o x = false by
            rw [hfd, if_pos rfl] at hpf
            unfold canPut
            rw [hpf, decide_eq_false (show ¬ ((p : Nat) : Int) < 0 by omega)]
            simp)
          clear hpf hfd
          go_wp2
          go_ret2
          exact HNo.out HN.out _ HB4.out
        | false =>
          have HY := Lib.hid (show canPut ks d xs o x = true by
            rw [hfd, if_neg (by simp)] at hpf
            have := HMb.out
            simp only [Bool.and_eq_true] at this
            unfold canPut
            rw [HVo.out, this.1, this.2, hpf]
            rfl)
          rw [hfd] at HFd
          clear hpf hfd
          have HPut := Lib.hid (show putK o x xs = xs.take p ++ ⟨o, x⟩ :: xs.drop p from place_put (vOk_sorted HVo.out) HPp.out HFd.out)
          have HK4 := Lib.hid (HK1.out.below hb14 HK1.out.lt)
          have HV4 := Lib.hid (HV1.out.keep (below_keeps hb14 HF1.out))
          have HF4 := Lib.hid (below_goF HF1.out hb14)
          have HX4 := Lib.hid (HXv1.out.keep (below_keeps hb14 HF1.out))
          obtain ⟨k0, k1, k2, k3, k4⟩ := HK4.out.c5
          have hlcap : (xs.length : Int) ≤ cap := by omega
          have hp1 : ((p : Nat) : Int) ≤ xs.length := by omega
          have hp2 : (0 : Int) ≤ (p : Nat) := by omega
          have hp3 : ((p : Nat) : Int) ≤ cap := by omega
          obtain ⟨D, hD⟩ : ∃ D, (if cap = p then Al else Option.map (fun x => x.add (p * 5)) Al) = D := ⟨_, rfl⟩
          obtain ⟨w6, hw6⟩ : ∃ u, u = ((w4.alloc (.cells #[.int .i64 o, .string x.ty, .int .i64 x.n, .slice A n cA, .slice B m cB] 35)).alloc (.cells #[.slice Al p cap, .slice (some ⟨w4.heap.size, 0, none⟩) 1 1, .slice D (xs.length - p) (cap - p)] 24)).drew := ⟨_, rfl⟩
          have hb46 : Below w4.heap.size w4 w6 := by rw [hw6]; exact (((Below.refl _ _).alloc (Nat.le_refl _) _).alloc (by simp) _).drew
          have hs6 : w6.heap.size = w4.heap.size + 2 := by
            rw [hw6]
            show ((w4.alloc _).alloc _).heap.size = _
            simp
          have hBk := Blk.of2 w4 35 24 #[.int .i64 o, .string x.ty, .int .i64 x.n, .slice A n cA, .slice B m cB] #[.slice Al p cap, .slice (some ⟨w4.heap.size, 0, none⟩) 1 1, .slice D (xs.length - p) (cap - p)]
          have hB6 : Blk w6 w4.heap.size 35 #[.int .i64 o, .string x.ty, .int .i64 x.n, .slice A n cA, .slice B m cB] := by rw [hw6]; exact hBk.1
          have hP6 : Blk w6 (w4.heap.size + 1) 24 #[.slice Al p cap, .slice (some ⟨w4.heap.size, 0, none⟩) 1 1, .slice D (xs.length - p) (cap - p)] := by rw [hw6]; exact hBk.2
          have hV6 := (HV4.out.keep (below_keeps hb46 HF4.out)).mono (G := fun b' => F b' ∨ b' = w4.heap.size) (fun b' h => .inl h)
          have hX6 := (HX4.out.keep (below_keeps hb46 HF4.out)).mono (G := fun b' => F b' ∨ b' = w4.heap.size) (fun b' h => .inl h)
          obtain ⟨An, an, hAn, _⟩ := id hX6.parts
          obtain ⟨Bn, bn, hBn, _⟩ := id hX6.path
          simp only [Value.slice.injEq] at hAn hBn
          obtain ⟨-, rfl, -⟩ := hAn
          obtain ⟨-, rfl, -⟩ := hBn
          have hpc : Pieces d (fun b' => F b' ∨ b' = w4.heap.size) w6 (w4.heap.size + 1) [xs.take p, [⟨o, x⟩], xs.drop p] := pieces_of (vs := [.slice Al p cap, .slice (some ⟨w4.heap.size, 0, none⟩) 1 1, .slice D (xs.length - p) (cap - p)]) hP6 (fun i hi => by
            have : i = 0 ∨ i = 1 ∨ i = 2 := by simp at hi; omega
            rcases this with rfl | rfl | rfl
            · exact ⟨_, rfl, sl_take5 hV6 hple⟩
            · exact ⟨_, rfl, sl_one5 hB6 ho hX6 (.inr rfl)⟩
            · exact ⟨_, rfl, by rw [← hD]; exact sl_dropG hV6 hple⟩)
          have hmb := HMb.out
          simp only [Bool.and_eq_true] at hmb
          have hC := copyKept_any (ks := ks) d (fun b' => F b' ∨ b' = w4.heap.size) (w4.heap.size + 1) 3 [xs.take p, [⟨o, x⟩], xs.drop p] w6 hpc (by omega) (fun b' hb' => by rcases hb' with h | h; have := HF4.out b' h; omega; omega) (by simp) (by omega) (by simp)
            (good_put (o := o) HVo.out hmb.2 hsm hsx _ (fun y hy => by
              rw [flat_put3] at hy
              rcases List.mem_append.1 hy with h | h
              · exact .inl (List.mem_of_mem_take h)
              · rcases List.mem_cons.1 h with h | h
                · exact .inr h
                · exact .inl (List.mem_of_mem_drop h)))
            (by rw [flat_put3, ← HPut.out, putK_length]; have := (vOk_ables HVo.out).2; omega)
          rw [flat_put3, ← HPut.out] at hC
          have HC := Lib.hid hC
          have HW6 := Lib.hid hw6
          have HB6 := Lib.hid (HB4.out.trans (hb46.mono HB4.out.size))
          have HG := Lib.hid (show putR ks d xs o x = (putK o x xs, true) by unfold putR; rw [if_pos HY.out])
          obtain ⟨ys, hys⟩ : ∃ ys, ys = putK o x xs := ⟨_, rfl⟩
          rw [← hys] at HC HG
          have HC2 : Hid (Calls Try.prog 77 #[.slice (some ⟨w4.heap.size + 1, 0, none⟩) 3 3] w6 fun e w' => ∃ Y cy, e = .returned (.slice Y ys.length cy) ∧ Own (OKept d) 35 w6.heap.size w'.heap.size w' (.slice Y ys.length cy) ys ∧ Below w6.heap.size w6 w') := HC
          rw [hw6] at HC2
          have hs4 := HB4.out.size
          clear hb4 hb13 hb14 hC hpc hX6 hV6 hP6 hB6 hBk hb46 hw6 hys hmb HC
          go_upto_region 8 with fail
          go_region_with (go_at_call 77; (with_reducible refine HC2.out.mono ?_); rintro e w7 ⟨Y, cy, rfl, hO, hb7⟩)
          all_goals
            go_wp2
            go_ret2
            rw [HG.out]
            have hb7' : Below w6.heap.size w6 w7 := by rw [HW6.out]; exact hb7
            exact ⟨Y, cy, rfl, (by rw [← HW6.out] at hO; exact hO.mono (by omega) (Nat.le_refl _)), HB6.out.trans (hb7'.mono HB6.out.size)⟩
end Go.Proofs.Ytemlpiokdoeeeaa
