/- The program's texts of values: ValueText, the model's and the code's. -/
import Derived.Test.YtelhjdccfomafaaDoorVu
import Derived.Test.YtelhjdccfomafaaDoorVsp
import Derived.Test.YtelhjdccfomafaaDoorVim
namespace Go.Proofs.YtelhjdccfomafaaDoor
open Go.RowKit

theorem appendValue_any (ks : Ks) : ∀ d, ApC ks (Cod.val d) (textV d) (okV ks d)
  | 0 => appendValue_of (e := Cod.no) (f' := fun _ => ByteArray.empty) (g' := fun _ => false) (IsVal.zero _) fun h => absurd h no_el
  | d + 1 => appendValue_of (IsVal.of _) fun _ => ⟨appendValue_any ks d, rfl, rfl⟩

def noText : ByteArray := ByteArray.empty

set_option maxHeartbeats 400000 in
theorem specValueText_any {ks : Ks} {d : Nat} (F : Nat → Prop) (kv : Value) (A B : Option Addr) (n m cA cB : Nat) (v : Val) (w : World) (hks : Cod.recs.Sl F w kv ks) (h : VRd (Cod.val d) F w (.slice A n cA) (.slice B m cB) v) (hF : ∀ b, F b → b < w.heap.size) (hsm : sizeOf' (fun _ => 1) (sizeV d) v ≤ 2000000) :
    Calls Tryd.prog 11 #[kv, .agg #[.string v.ty, .int .i64 v.n, .slice A n cA, .slice B m cB]] w fun e w' => e = .returned (.string (textVal ks d v)) ∧ Below w.heap.size w w' := by
  have HS := Lib.hid hks
  have HV := Lib.hid h
  have HT := Lib.hid (fun hk => textVal_le (ks := ks) (d := d) (v := v) hk hsm)
  obtain ⟨Ak, ck, rfl, _⟩ := hks
  clear h hsm
  have hk1 : ∀ b, F b → (w.alloc (.cells #[.string v.ty, .int .i64 v.n, .slice A n cA, .slice B m cB] 27)).heap[b]? = w.heap[b]? := fun b hb => Below.heap_alloc _ _ _ (hF b hb)
  have HV1 := Lib.hid (HV.out.keep hk1)
  have HS1 := Lib.hid (HS.out.keep hk1)
  have HF1 := Lib.hid (show ∀ b, F b → b < (w.alloc (.cells #[.string v.ty, .int .i64 v.n, .slice A n cA, .slice B m cB] 27)).heap.size from fun b hb => by have := hF b hb; simp; omega)
  have HB := Lib.hid (Blk.new w 27 #[.string v.ty, .int .i64 v.n, .slice A n cA, .slice B m cB])
  clear hk1
  go_enter Tryd.func11, Tryd.ntmps11
  go_wp2_with fail
  refine (specValueOk_any (d := d) F _ A B n m cA cB v _ HS1.out HV1.out HF1.out).mono ?_
  rintro e w1 ⟨rfl, hb1⟩
  obtain ⟨x0, x1, x2, x3⟩ := (HB.out.below hb1 (by simp)).c2
  have HV2 := Lib.hid (HV1.out.keep (below_keeps hb1 HF1.out))
  have HF2 := Lib.hid (show ∀ b, F b → b < w1.heap.size from fun b hb => Nat.lt_of_lt_of_le (HF1.out b hb) hb1.size)
  have HE := Lib.hid (((Below.refl w.heap.size w).alloc (Nat.le_refl _) (.cells #[.string v.ty, .int .i64 v.n, .slice A n cA, .slice B m cB] 27)).trans (hb1.mono (by simp)))
  clear hb1
  cases hk : valOk ks d v
  · have HR : Hid (textVal ks d v = ByteArray.empty) := by show _ = _; unfold textVal; rw [hk]; rfl
    go_wp2
    go_ret
    exact ⟨ret_str HR.out.symm, HE.out⟩
  · have HR : Hid (textVal ks d v = textOf (textV d) v) := by show _ = _; unfold textVal; rw [hk]; rfl
    have HOk : Hid (okOf ks (okV ks d) v = true) := by
      show _ = _
      unfold valOk at hk
      simp only [Bool.and_eq_true] at hk
      exact hk.2
    have HTle := Lib.hid (HT.out hk)
    go_wp2_with (go_at_call 26; refine (l2Text_any ks d F A B n m cA cB v w1 HV2.out HF2.out HOk.out HTle.out).mono ?_; rintro e w2 ⟨rfl, hb2⟩)
    go_ret
    exact ⟨ret_str HR.out.symm, HE.out.trans (hb2.mono HE.out.size)⟩

set_option maxRecDepth 100000 in
set_option maxHeartbeats 1000000 in
theorem implValueText_any {ks : Ks} {d : Nat} (F : Nat → Prop) (kv : Value) (A B : Option Addr) (n m cA cB : Nat) (v : Val) (w : World) (hks : Cod.recs.Sl F w kv ks) (h : VRd (Cod.val d) F w (.slice A n cA) (.slice B m cB) v) (hF : ∀ b, F b → b < w.heap.size) (hsm : sizeOf' (fun _ => 1) (sizeV d) v ≤ 2000000)
    (htab : Lib.TabBelow Tryd.prog w.heap.size w tabN .u64 Lib.pow10Tab) :
    Calls Tryd.prog 9 #[kv, .agg #[.string v.ty, .int .i64 v.n, .slice A n cA, .slice B m cB]] w fun e w' => e = .returned (.string (textVal ks d v)) ∧ Below w.heap.size w w' := by
  have HS := Lib.hid hks
  have HV := Lib.hid h
  have HT := Lib.hid (fun hk => textVal_le (ks := ks) (d := d) (v := v) hk hsm)
  have HTab := Lib.hid htab
  obtain ⟨Ak, ck, rfl, _⟩ := hks
  clear h hsm htab
  have hk1 : ∀ b, F b → (w.alloc (.cells #[.string v.ty, .int .i64 v.n, .slice A n cA, .slice B m cB] 27)).heap[b]? = w.heap[b]? := fun b hb => Below.heap_alloc _ _ _ (hF b hb)
  have HV1 := Lib.hid (HV.out.keep hk1)
  have HS1 := Lib.hid (HS.out.keep hk1)
  have HF1 := Lib.hid (show ∀ b, F b → b < (w.alloc (.cells #[.string v.ty, .int .i64 v.n, .slice A n cA, .slice B m cB] 27)).heap.size from fun b hb => by have := hF b hb; simp; omega)
  have HF0 := Lib.hid hF
  have HB := Lib.hid (Blk.new w 27 #[.string v.ty, .int .i64 v.n, .slice A n cA, .slice B m cB])
  clear hk1
  go_enter Tryd.func9, Tryd.ntmps9
  go_wp2_with fail
  refine (implValueOk_any (d := d) F _ A B n m cA cB v _ HS1.out HV1.out HF1.out).mono ?_
  rintro e w1 ⟨rfl, hb1⟩
  obtain ⟨x0, x1, x2, x3⟩ := (HB.out.below hb1 (by simp)).c2
  have HV2 := Lib.hid (HV1.out.keep (below_keeps hb1 HF1.out))
  have HE := Lib.hid (((Below.refl w.heap.size w).alloc (Nat.le_refl _) (.cells #[.string v.ty, .int .i64 v.n, .slice A n cA, .slice B m cB] 27)).trans (hb1.mono (by simp)))
  clear hb1
  cases hk : valOk ks d v
  · have HR : Hid (textVal ks d v = ByteArray.empty) := by show _ = _; unfold textVal; rw [hk]; rfl
    go_wp2
    go_ret
    exact ⟨ret_str HR.out.symm, HE.out⟩
  · have HR : Hid (textVal ks d v = textOf (textV d) v) := by show _ = _; unfold textVal; rw [hk]; rfl
    have HOk : Hid (okOf ks (okV ks d) v = true) := by
      show _ = _
      unfold valOk at hk
      simp only [Bool.and_eq_true] at hk
      exact hk.2
    have HTle := Lib.hid (HT.out hk)
    have HC := Lib.hid (appendValue_any ks d F w.heap.size A B n m cA cB v (.slice none 0 0) 0 [] w1 HV2.out HF0.out HE.out.size (World.ownsRow_nil _ _ _ _) HOk.out (by rw [Nat.zero_add]; exact HTle.out) (HTab.out.on HE.out))
    go_wp2_with fail
    refine HC.out.mono ?_
    rintro e w2 ⟨v2, rfl, hA⟩
    have ho := hA.own
    rw [Nat.zero_add, List.nil_append] at ho
    have hcv := run_convert_own (P := Tryd.prog) 22 5 9 Tryd.underlying22 Tryd.underlying5 Tryd.underlying9 ho
    have HQ := Lib.hid (HE.out.trans hA.below)
    clear hA ho
    trace_state
    go_wp2
    go_ret
    exact ⟨ret_str HR.out.symm, HQ.out⟩
end Go.Proofs.YtelhjdccfomafaaDoor
