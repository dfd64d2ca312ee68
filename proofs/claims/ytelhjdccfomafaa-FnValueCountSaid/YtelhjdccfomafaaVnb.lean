/- Values: ValueSize and ValueCount, of the model and of the program. -/
import Derived.Test.YtelhjdccfomafaaVn
import Derived.Test.YtelhjdccfomafaaVimc
namespace Go.Proofs.Ytelhjdccfomafaa
open Go.RowKit

def sizeVal (ks : Ks) (d : Nat) (v : Val) : Int := if valOk ks d v = true then sizeOf' (fun _ => 1) (sizeV d) v else -1
def kindB (ks : Ks) (kind : ByteArray) : Bool := match kindOf kind with | some (m, k) => hasB ks m k | none => false
def cntVal (ks : Ks) (d : Nat) (v : Val) (kind : ByteArray) : Int := if (valOk ks d v && kindB ks kind) = true then sizeOf' (isK kind) (cntV kind d) v else -1

set_option maxHeartbeats 1000000 in
theorem specValueSize_any {ks : Ks} {d : Nat} (F : Nat → Prop) (kv : Value) (A B : Option Addr) (n m cA cB : Nat) (v : Val) (w : World) (hks : Cod.recs.Sl F w kv ks) (h : VRd (Cod.val d) F w (.slice A n cA) (.slice B m cB) v) (hF : ∀ b, F b → b < w.heap.size) (hm : sizeOf' (fun _ => 1) (sizeV d) v ≤ 2000000) :
    Calls Try.prog 15 #[kv, .agg #[.string v.ty, .int .i64 v.n, .slice A n cA, .slice B m cB]] w fun e w' => e = .returned (.int .i64 (sizeVal ks d v)) ∧ Below w.heap.size w w' := by
  have HS := Lib.hid hks
  have HV := Lib.hid h
  have Hm := Lib.hid hm
  obtain ⟨Ak, ck, rfl, _⟩ := hks
  clear h hm
  have hk1 : ∀ b, F b → (w.alloc (.cells #[.string v.ty, .int .i64 v.n, .slice A n cA, .slice B m cB] 32)).heap[b]? = w.heap[b]? := fun b hb => Below.heap_alloc _ _ _ (hF b hb)
  have HV1 := Lib.hid (HV.out.keep hk1)
  have HS1 := Lib.hid (HS.out.keep hk1)
  have HF1 := Lib.hid (show ∀ b, F b → b < (w.alloc (.cells #[.string v.ty, .int .i64 v.n, .slice A n cA, .slice B m cB] 32)).heap.size from fun b hb => by have := hF b hb; simp; omega)
  have HB := Lib.hid (Blk.new w 32 #[.string v.ty, .int .i64 v.n, .slice A n cA, .slice B m cB])
  have hP : sizeVal ks d v = if valOk ks d v = true then sizeOf' (fun _ => 1) (sizeV d) v else -1 := rfl
  have HE0 := Lib.hid ((Below.refl w.heap.size w).alloc (Nat.le_refl _) (.cells #[.string v.ty, .int .i64 v.n, .slice A n cA, .slice B m cB] 32))
  clear hk1
  cases hk : valOk ks d v with
  | false =>
    rw [hk] at hP
    have HP := Lib.hid hP
    have HK := Lib.hid hk
    clear hP hk
    go_enter Try.func15, Try.ntmps15
    go_wp2_with (go_at_call 31; refine (specValueOk_any (d := d) F _ A B n m cA cB v _ HS1.out HV1.out HF1.out).mono ?_; rintro e w1 ⟨rfl, hb1⟩; rw [HK.out])
    go_ret
    exact ⟨ret_int HP.out.symm, HE0.out.trans (hb1.mono HE0.out.size)⟩
  | true =>
    rw [hk] at hP
    have HP := Lib.hid hP
    have HK := Lib.hid hk
    clear hP hk
    go_enter Try.func15, Try.ntmps15
    go_wp2_with fail
    refine (specValueOk_any (d := d) F _ A B n m cA cB v _ HS1.out HV1.out HF1.out).mono ?_
    rintro e w1 ⟨rfl, hb1⟩
    rw [HK.out]
    obtain ⟨x0, x1, x2, x3⟩ := (HB.out.below hb1 (by simp)).c2
    have HV2 := Lib.hid (HV1.out.keep (below_keeps hb1 HF1.out))
    have HF2 := Lib.hid (show ∀ b, F b → b < w1.heap.size from fun b hb => Nat.lt_of_lt_of_le (HF1.out b hb) hb1.size)
    have HE := Lib.hid (HE0.out.trans (hb1.mono HE0.out.size))
    clear hb1
    go_wp2_with (go_at_call 35; refine (l2Size_any d F A B n m cA cB v w1 HV2.out HF2.out Hm.out).mono ?_; rintro e w2 ⟨rfl, hb2⟩)
    go_ret
    exact ⟨ret_int HP.out.symm, HE.out.trans (hb2.mono HE.out.size)⟩

set_option maxHeartbeats 1000000 in
theorem implValueSize_any {ks : Ks} {d : Nat} (F : Nat → Prop) (kv : Value) (A B : Option Addr) (n m cA cB : Nat) (v : Val) (w : World) (hks : Cod.recs.Sl F w kv ks) (h : VRd (Cod.val d) F w (.slice A n cA) (.slice B m cB) v) (hF : ∀ b, F b → b < w.heap.size) (hm : sizeOf' (fun _ => 1) (sizeV d) v ≤ 2000000) :
    Calls Try.prog 14 #[kv, .agg #[.string v.ty, .int .i64 v.n, .slice A n cA, .slice B m cB]] w fun e w' => e = .returned (.int .i64 (sizeVal ks d v)) ∧ Below w.heap.size w w' := by
  have HS := Lib.hid hks
  have HV := Lib.hid h
  have Hm := Lib.hid hm
  obtain ⟨Ak, ck, rfl, _⟩ := hks
  clear h hm
  have hk1 : ∀ b, F b → (w.alloc (.cells #[.string v.ty, .int .i64 v.n, .slice A n cA, .slice B m cB] 32)).heap[b]? = w.heap[b]? := fun b hb => Below.heap_alloc _ _ _ (hF b hb)
  have HV1 := Lib.hid (HV.out.keep hk1)
  have HS1 := Lib.hid (HS.out.keep hk1)
  have HF1 := Lib.hid (show ∀ b, F b → b < (w.alloc (.cells #[.string v.ty, .int .i64 v.n, .slice A n cA, .slice B m cB] 32)).heap.size from fun b hb => by have := hF b hb; simp; omega)
  have HB := Lib.hid (Blk.new w 32 #[.string v.ty, .int .i64 v.n, .slice A n cA, .slice B m cB])
  have hP : sizeVal ks d v = if valOk ks d v = true then sizeOf' (fun _ => 1) (sizeV d) v else -1 := rfl
  have HE0 := Lib.hid ((Below.refl w.heap.size w).alloc (Nat.le_refl _) (.cells #[.string v.ty, .int .i64 v.n, .slice A n cA, .slice B m cB] 32))
  clear hk1
  cases hk : valOk ks d v with
  | false =>
    rw [hk] at hP
    have HP := Lib.hid hP
    have HK := Lib.hid hk
    clear hP hk
    go_enter Try.func14, Try.ntmps14
    go_wp2_with (go_at_call 16; refine (implValueOk_any (d := d) F _ A B n m cA cB v _ HS1.out HV1.out HF1.out).mono ?_; rintro e w1 ⟨rfl, hb1⟩; rw [HK.out])
    go_ret
    exact ⟨ret_int HP.out.symm, HE0.out.trans (hb1.mono HE0.out.size)⟩
  | true =>
    rw [hk] at hP
    have HP := Lib.hid hP
    have HK := Lib.hid hk
    clear hP hk
    go_enter Try.func14, Try.ntmps14
    go_wp2_with fail
    refine (implValueOk_any (d := d) F _ A B n m cA cB v _ HS1.out HV1.out HF1.out).mono ?_
    rintro e w1 ⟨rfl, hb1⟩
    rw [HK.out]
    obtain ⟨x0, x1, x2, x3⟩ := (HB.out.below hb1 (by simp)).c2
    have HV2 := Lib.hid (HV1.out.keep (below_keeps hb1 HF1.out))
    have HF2 := Lib.hid (show ∀ b, F b → b < w1.heap.size from fun b hb => Nat.lt_of_lt_of_le (HF1.out b hb) hb1.size)
    have HE := Lib.hid (HE0.out.trans (hb1.mono HE0.out.size))
    clear hb1
    go_wp2_with (go_at_call 34; refine (countValues_any d F A B n m cA cB v w1 HV2.out HF2.out Hm.out).mono ?_; rintro e w2 ⟨rfl, hb2⟩)
    go_ret
    exact ⟨ret_int HP.out.symm, HE.out.trans (hb2.mono HE.out.size)⟩

theorem plain_kind {ks : Ks} {kind : ByteArray} {m k : Nat} (h : kindOf kind = some (m, k)) : plainB ks kind = kindB ks kind := by
  have hb : baseB kind = false := by
    cases hb : baseB kind with
    | false => rfl
    | true => rw [kindOf_base hb] at h; cases h
  unfold plainB kindB
  rw [hb, h]; rfl

set_option maxRecDepth 100000 in
set_option maxHeartbeats 1000000 in
theorem specValueCount_any {ks : Ks} {d : Nat} (F : Nat → Prop) (kv : Value) (A B : Option Addr) (n m cA cB : Nat) (v : Val) (kind : ByteArray) (w : World) (hks : Cod.recs.Sl F w kv ks) (h : VRd (Cod.val d) F w (.slice A n cA) (.slice B m cB) v) (hF : ∀ b, F b → b < w.heap.size) (hm : sizeOf' (isK kind) (cntV kind d) v ≤ 2000000) :
    Calls Try.prog 12 #[kv, .agg #[.string v.ty, .int .i64 v.n, .slice A n cA, .slice B m cB], .string kind] w fun e w' => e = .returned (.int .i64 (cntVal ks d v kind)) ∧ Below w.heap.size w w' := by
  have HS := Lib.hid hks
  have HV := Lib.hid h
  have Hm := Lib.hid hm
  obtain ⟨Ak, ck, rfl, _⟩ := hks
  clear h hm
  have hkd : ∃ (a b : Nat), (∀ W : World, Calls Try.prog 30 #[.string kind] W fun e w' => e = .returned (.tuple #[.int .i64 a, .int .i64 b, .bool (kindOf kind).isSome]) ∧ ∃ n, w' = W.drewN n) := by
    cases hk : kindOf kind with
    | none => exact ⟨0, 0, fun W => l1Kind_no kind W hk⟩
    | some mk => exact ⟨mk.1, mk.2, fun W => l1Kind_yes kind mk.1 mk.2 W hk⟩
  obtain ⟨ka, kb, hkd⟩ := hkd
  have HKd := Lib.hid hkd
  clear hkd
  obtain ⟨wa, hwa⟩ : ∃ wa : World, wa = w.alloc (.cells #[.string v.ty, .int .i64 v.n, .slice A n cA, .slice B m cB] 32) := ⟨_, rfl⟩
  have HE0 := Lib.hid (show Below w.heap.size w wa by rw [hwa]; exact (Below.refl w.heap.size w).alloc (Nat.le_refl _) _)
  have hB : Blk wa w.heap.size 32 #[.string v.ty, .int .i64 v.n, .slice A n cA, .slice B m cB] := by rw [hwa]; exact Blk.new w _ _
  have HB := Lib.hid hB
  have HV1 := Lib.hid (HV.out.keep (below_keeps HE0.out hF))
  have HS1 := Lib.hid (HS.out.keep (below_keeps HE0.out hF))
  have HF1 := Lib.hid (show ∀ b, F b → b < wa.heap.size from fun b hb => Nat.lt_of_lt_of_le (hF b hb) HE0.out.size)
  have hgl := hB.lt
  have hP : cntVal ks d v kind = if (valOk ks d v && kindB ks kind) = true then sizeOf' (isK kind) (cntV kind d) v else -1 := rfl
  have HWA := Lib.hid hwa
  clear hB hwa
  cases hk : valOk ks d v with
  | false =>
    rw [hk] at hP
    have HP := Lib.hid hP
    have HK := Lib.hid hk
    clear hP hk
    go_enter Try.func12, Try.ntmps12
    go_wp2_with fail
    rw [← HWA.out]
    refine (HKd.out wa).mono ?_
    rintro e w1 ⟨rfl, n1, rfl⟩
    obtain ⟨x0, x1, x2, x3⟩ := HB.out.c2
    go_wp2_with (go_at_call 31; refine (specValueOk_any (d := d) F _ A B n m cA cB v (wa.drewN n1) (HS1.out.drewN n1) (HV1.out.drewN n1) HF1.out).mono ?_; rintro e w1 ⟨rfl, hb1⟩; rw [HK.out])
    go_ret
    exact ⟨ret_int HP.out.symm, (below_drewN HE0.out n1).trans (hb1.mono HE0.out.size)⟩
  | true =>
    rw [hk, Bool.true_and] at hP
    have HK := Lib.hid hk
    clear hk
    cases hs : kindOf kind with
    | none =>
      have HP : Hid (cntVal ks d v kind = -1) := by show _ = _; rw [hP]; unfold kindB; rw [hs]; rfl
      have HSo : Hid ((kindOf kind).isSome = false) := by show _ = _; rw [hs]; rfl
      clear hP hs
      go_enter Try.func12, Try.ntmps12
      go_wp2_with fail
      rw [← HWA.out]
      refine (HKd.out wa).mono ?_
      rintro e w1 ⟨rfl, n1, rfl⟩
      rw [HSo.out]
      obtain ⟨x0, x1, x2, x3⟩ := HB.out.c2
      go_wp2_with (go_at_call 31; refine (specValueOk_any (d := d) F _ A B n m cA cB v (wa.drewN n1) (HS1.out.drewN n1) (HV1.out.drewN n1) HF1.out).mono ?_; rintro e w1 ⟨rfl, hb1⟩; rw [HK.out])
      go_ret
      exact ⟨ret_int HP.out.symm, (below_drewN HE0.out n1).trans (hb1.mono HE0.out.size)⟩
    | some ab =>
      obtain ⟨a, b⟩ := ab
      have HSo : Hid ((kindOf kind).isSome = true) := by show _ = _; rw [hs]; rfl
      have HPk := Lib.hid (plain_kind (ks := ks) hs)
      have hkb : kindB ks kind = true ∨ kindB ks kind = false := by cases kindB ks kind <;> simp
      rcases hkb with hkb | hkb
      all_goals
        rw [hkb] at hP
        have HP := Lib.hid hP
        have HKB := Lib.hid hkb
        clear hP hkb
        first | clear hs | skip
        go_enter Try.func12, Try.ntmps12
        go_wp2_with fail
        rw [← HWA.out]
        refine (HKd.out wa).mono ?_
        rintro e w1 ⟨rfl, n1, rfl⟩
        rw [HSo.out]
        obtain ⟨x0, x1, x2, x3⟩ := HB.out.c2
        go_wp2_with fail
        refine (specValueOk_any (d := d) F _ A B n m cA cB v (wa.drewN n1) (HS1.out.drewN n1) (HV1.out.drewN n1) HF1.out).mono ?_
        rintro e w1 ⟨rfl, hb1⟩
        rw [HK.out]
        clear x0 x1 x2 x3
        have HBw := Lib.hid (Blk.below (w := wa.drewN n1) HB.out hb1 hgl)
        have HV2 := Lib.hid (VRd.keep (w := wa.drewN n1) (below_keeps hb1 HF1.out) (HV1.out.drewN n1))
        have HS2 := Lib.hid (Cod.Sl.keep (w := wa.drewN n1) (below_keeps hb1 HF1.out) (HS1.out.drewN n1))
        have HF2 := Lib.hid (show ∀ b, F b → b < w1.heap.size from fun b hb => Nat.lt_of_lt_of_le (HF1.out b hb) hb1.size)
        have HE := Lib.hid ((below_drewN HE0.out n1).trans (hb1.mono HE0.out.size))
        clear hb1
        obtain ⟨x0, x1, x2, x3⟩ := HBw.out.c2
        go_wp2_with (first
          | (go_at_call 32; refine (l1Plain_any F _ ks kind w1 HS2.out).mono ?_; rintro e w3 ⟨rfl, n3, rfl⟩; rw [HPk.out, HKB.out])
          | (go_at_call 33; refine (l2Count_any kind d F A B n m cA cB v (w1.drewN n3) (HV2.out.drewN n3) HF2.out Hm.out).mono ?_; rintro e w2 ⟨rfl, hb2⟩))
        go_ret
        first
          | exact ⟨ret_int HP.out.symm, (below_drewN HE.out n3).trans (hb2.mono HE.out.size)⟩
          | exact ⟨ret_int HP.out.symm, below_drewN HE.out n3⟩

set_option maxRecDepth 100000 in
set_option maxHeartbeats 1000000 in
theorem implValueCount_any {ks : Ks} {d : Nat} (F : Nat → Prop) (kv : Value) (A B : Option Addr) (n m cA cB : Nat) (v : Val) (kind : ByteArray) (w : World) (hks : Cod.recs.Sl F w kv ks) (h : VRd (Cod.val d) F w (.slice A n cA) (.slice B m cB) v) (hF : ∀ b, F b → b < w.heap.size) (hm : sizeOf' (isK kind) (cntV kind d) v ≤ 2000000) :
    Calls Try.prog 11 #[kv, .agg #[.string v.ty, .int .i64 v.n, .slice A n cA, .slice B m cB], .string kind] w fun e w' => e = .returned (.int .i64 (cntVal ks d v kind)) ∧ Below w.heap.size w w' := by
  have HS := Lib.hid hks
  have HV := Lib.hid h
  have Hm := Lib.hid hm
  obtain ⟨Ak, ck, rfl, _⟩ := hks
  clear h hm
  have hk1 : ∀ b, F b → (w.alloc (.cells #[.string v.ty, .int .i64 v.n, .slice A n cA, .slice B m cB] 32)).heap[b]? = w.heap[b]? := fun b hb => Below.heap_alloc _ _ _ (hF b hb)
  have HV1 := Lib.hid (HV.out.keep hk1)
  have HS1 := Lib.hid (HS.out.keep hk1)
  have HF1 := Lib.hid (show ∀ b, F b → b < (w.alloc (.cells #[.string v.ty, .int .i64 v.n, .slice A n cA, .slice B m cB] 32)).heap.size from fun b hb => by have := hF b hb; simp; omega)
  have HB := Lib.hid (Blk.new w 32 #[.string v.ty, .int .i64 v.n, .slice A n cA, .slice B m cB])
  have hP : cntVal ks d v kind = if (valOk ks d v && kindB ks kind) = true then sizeOf' (isK kind) (cntV kind d) v else -1 := rfl
  have HVO : Hid (valOk ks d v = (kindsOk ks && okOf ks (okV ks d) v)) := rfl
  clear hk1
  go_enter Try.func11, Try.ntmps11
  go_wp2_with fail
  refine (tableOf_any F _ ks _ HS1.out HF1.out).mono ?_
  rintro e w1 ⟨hb1, hh⟩
  have HB1 := Lib.hid (HB.out.below hb1 (by simp))
  have HV2 := Lib.hid (HV1.out.keep (below_keeps hb1 HF1.out))
  have HF2 := Lib.hid (show ∀ b, F b → b < w1.heap.size from fun b hb => Nat.lt_of_lt_of_le (HF1.out b hb) hb1.size)
  have HE := Lib.hid (((Below.refl w.heap.size w).alloc (Nat.le_refl _) (.cells #[.string v.ty, .int .i64 v.n, .slice A n cA, .slice B m cB] 32)).trans (hb1.mono (by simp)))
  rcases hh with ⟨hk, rfl⟩ | ⟨hk, b, l, rfl, hm, ht, hw⟩
  · have HP : Hid (cntVal ks d v kind = -1) := by show _ = _; rw [hP, HVO.out, hk]; rfl
    clear hk hb1 hP
    go_wp2
    go_ret
    exact ⟨ret_int HP.out.symm, HE.out⟩
  · have HK := Lib.hid hk
    have HT := Lib.hid (show Table F ks b w1 from ⟨l, hm.imp fun _ _ hr => hr.keep (below_keeps hb1 HF1.out), ht⟩)
    have hgl : w.heap.size < w1.heap.size := HB1.out.lt
    clear hk hb1 hm ht
    obtain ⟨x0, x1, x2, x3⟩ := HB1.out.c2
    go_wp2_with fail
    refine (valueOk_any ks d F b A B n m cA cB v w1 HT.out HV2.out HF2.out).mono ?_
    rintro e w2 ⟨rfl, hb2⟩
    clear x0 x1 x2 x3
    have HB2 := Lib.hid (HB1.out.below hb2 hgl)
    have HV3 := Lib.hid (HV2.out.keep (below_keeps hb2 HF2.out))
    have HF3 := Lib.hid (show ∀ b, F b → b < w2.heap.size from fun b hb => Nat.lt_of_lt_of_le (HF2.out b hb) hb2.size)
    have HT2 := Lib.hid (HT.out.keep (below_keeps hb2 HF2.out) (hb2.block _ HT.out.lt))
    have HE2 := Lib.hid (HE.out.trans (hb2.mono HE.out.size))
    clear hb2
    cases hok : okOf ks (okV ks d) v with
    | false =>
      have HP : Hid (cntVal ks d v kind = -1) := by show _ = _; rw [hP, HVO.out, hok, Bool.and_false, Bool.false_and]; rfl
      clear hok hP
      go_wp2
      go_ret
      exact ⟨ret_int HP.out.symm, HE2.out⟩
    | true =>
      have HVt : Hid (valOk ks d v = true) := by show _ = _; rw [HVO.out, HK.out, hok]; rfl
      clear hok
      rw [HVt.out, Bool.true_and] at hP
      have hsz := HE2.out.size
      have hg2 : w.heap.size < w2.heap.size := HB2.out.lt
      rcases HT2.out.find Try.underlying50 Try.underlying9 _ (zero_rec w2) kind with ⟨g1, g2⟩ | ⟨m', k', Af, cf, hk', hh', hS, hI, g2⟩
      · have HP : Hid (cntVal ks d v kind = -1) := by
          have hkb : kindB ks kind = false := by
            unfold kindB
            cases hk : kindOf kind with
            | none => rfl
            | some mk => exact g1 mk.1 mk.2 hk
          show _ = _; rw [hP, hkb]; rfl
        clear g1 hP
        obtain ⟨x0, x1, x2, x3⟩ := HB2.out.c2
        go_wp2
        go_ret
        exact ⟨ret_int HP.out.symm, HE2.out.alloc hsz _⟩
      · have HP : Hid (cntVal ks d v kind = sizeOf' (isK kind) (cntV kind d) v) := by
          have hkb : kindB ks kind = true := by unfold kindB; rw [hk']; exact hh'
          show _ = _; rw [hP, hkb]; rfl
        clear hk' hh' hS hI hP
        obtain ⟨x0, x1, x2, x3⟩ := HB2.out.c2
        have HV4 := Lib.hid (VRd.keep (w := w2) (w' := w2.alloc (.cells #[.int .i64 (recAt ks m' k').able, .slice Af (recAt ks m' k').fields.length cf] 47)) (fun b hb => Below.heap_alloc _ _ _ (HF3.out b hb)) HV3.out)
        have HF4 := Lib.hid (show ∀ b, F b → b < (w2.alloc (.cells #[.int .i64 (recAt ks m' k').able, .slice Af (recAt ks m' k').fields.length cf] 47)).heap.size from fun b hb => by have := HF3.out b hb; simp; omega)
        have HE3 := Lib.hid (HE2.out.alloc hsz (.cells #[.int .i64 (recAt ks m' k').able, .slice Af (recAt ks m' k').fields.length cf] 47))
        go_wp2_with (go_at_call 29; refine (countRecords_any kind d F A B n m cA cB v _ HV4.out HF4.out Hm.out).mono ?_; rintro e w3 ⟨rfl, hb3⟩)
        go_ret
        exact ⟨ret_int HP.out.symm, HE3.out.trans (hb3.mono HE3.out.size)⟩
end Go.Proofs.Ytelhjdccfomafaa
