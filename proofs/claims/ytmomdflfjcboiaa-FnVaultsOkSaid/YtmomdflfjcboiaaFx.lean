/- The laws' own comparing of values: it answers true of two values that read alike. -/
import Derived.Test.YtmomdflfjcboiaaVlk
import Derived.Deep.DeepCutAuto
namespace Go.Proofs.Ytmomdflfjcboiaa
open Go.RowKit

set_option maxHeartbeats 400000 in
theorem hlInts_any (F : Nat → Prop) (v v' : Value) (xs : List Int) (w : World) (h : Cod.i64.Sl F w v xs) (h' : Cod.i64.Sl F w v' xs) :
    Calls Try.prog 37 #[v, v'] w fun e w' => e = .returned (.bool true) ∧ Below w.heap.size w w' := by
  have HS := Lib.hid h
  have HS' := Lib.hid h'
  obtain ⟨A, cap, rfl, hlc, hcm, _⟩ := h
  obtain ⟨A', cap', rfl, hlc', hcm', _⟩ := h'
  unfold maxLen at hcm hcm'
  go_enter Try.func37, Try.ntmps37
  go_wp2
  go_loopw [5] (fun i wr => ∃ (k n : Nat), k ≤ xs.length ∧ i = .int .i64 k ∧ wr = w.drewN n) (fun i _ => xs.length - (intOf i).toNat)
  case atStart => exact ⟨0, 0, Nat.zero_le _, rfl, rfl⟩
  case round =>
    obtain ⟨k, n, hk, rfl, rfl⟩ := hrel
    by_cases hlt : k < xs.length
    · obtain ⟨b, off, c1, hv, _, _, _, hc0, _⟩ := HS.out.i64_at hlt
      obtain ⟨rfl, rfl⟩ : A = some ⟨b, off, none⟩ ∧ cap = c1 := by simpa using hv
      obtain ⟨b', off', c1', hv', _, _, _, hc0', _⟩ := HS'.out.i64_at hlt
      obtain ⟨rfl, rfl⟩ : A' = some ⟨b', off', none⟩ ∧ cap' = c1' := by simpa using hv'
      clear hv hv'
      have i0 : (0 : Int) ≤ k := by omega
      have i1 : (k : Int) < xs.length := by omega
      generalize xs[k] = x at hc0 hc0'
      go_wp2
      go_quiet (fail)
      go_wp2
      go_roundw
      case rel => exact ⟨k + 1, _, by omega, by go_num, rfl⟩
      case measure => simp [intOf]; omega
    · go_wp2
      go_ret
      exact ⟨rfl, below_drewN (Below.refl _ _) _⟩

def HlSC (c : Cod Val) : Prop := ∀ (F : Nat → Prop) (v v' : Value) (xs : List Val) (w : World), c.Sl F w v xs → c.Sl F w v' xs → (∀ b, F b → b < w.heap.size) →
    Calls Try.prog 52 #[v, v'] w fun e w' => e = .returned (.bool true) ∧ Below w.heap.size w w'
def HlC (c : Cod Val) : Prop := ∀ (F : Nat → Prop) (a p a' p' : Value) (v : Val) (w : World), VRd c F w a p v → VRd c F w a' p' v → (∀ b, F b → b < w.heap.size) →
    Calls Try.prog 27 #[.agg #[.string v.ty, .int .i64 v.n, a, p], .agg #[.string v.ty, .int .i64 v.n, a', p']] w fun e w' => e = .returned (.bool true) ∧ Below w.heap.size w w'

set_option maxRecDepth 100000 in
set_option maxHeartbeats 1000000 in
theorem hlValue_of {c : Cod Val} (IH : HlSC c) : HlC c := by
  intro F a p a' p' v w h h' hF
  have HS := Lib.hid h
  have HS' := Lib.hid h'
  have IHH := Lib.hid IH
  obtain ⟨A, cA, rfl, _⟩ := h.parts
  obtain ⟨B, cB, rfl, _⟩ := h.path
  obtain ⟨A', cA', rfl, _⟩ := h'.parts
  obtain ⟨B', cB', rfl, _⟩ := h'.path
  clear h h' IH
  obtain ⟨w0, hw0⟩ : ∃ w0, w0 = (w.alloc (.cells #[.string v.ty, .int .i64 v.n, .slice A v.parts.length cA, .slice B v.path.length cB] 57)).alloc (.cells #[.string v.ty, .int .i64 v.n, .slice A' v.parts.length cA', .slice B' v.path.length cB'] 57) := ⟨_, rfl⟩
  have hb0 : Below w.heap.size w w0 := by rw [hw0]; exact ((Below.refl _ _).alloc (Nat.le_refl _) _).alloc (by simp) _
  have hB0 : Blk w0 w.heap.size 57 #[.string v.ty, .int .i64 v.n, .slice A v.parts.length cA, .slice B v.path.length cB] := by rw [hw0]; exact (Blk.new _ _ _).alloc _
  have hB1 : Blk w0 (w.heap.size + 1) 57 #[.string v.ty, .int .i64 v.n, .slice A' v.parts.length cA', .slice B' v.path.length cB'] := by
    rw [hw0]; have := Blk.new (w.alloc (.cells #[.string v.ty, .int .i64 v.n, .slice A v.parts.length cA, .slice B v.path.length cB] 57)) 57 #[.string v.ty, .int .i64 v.n, .slice A' v.parts.length cA', .slice B' v.path.length cB']; simpa using this
  have HS0 := Lib.hid (HS.out.keep (w' := w0) fun b hb => hb0.block b (hF b hb))
  have HS0' := Lib.hid (HS'.out.keep (w' := w0) fun b hb => hb0.block b (hF b hb))
  have HF0 := Lib.hid (show ∀ b, F b → b < w0.heap.size from fun b hb => Nat.lt_of_lt_of_le (hF b hb) hb0.size)
  have HE0 := Lib.hid hb0
  have HB0 := Lib.hid hB0
  have HB1 := Lib.hid hB1
  have hl0 := hB0.lt
  have hl1 := hB1.lt
  have Hw0 := Lib.hid hw0
  obtain ⟨x0, x1, x2, x3⟩ := hB0.c2
  obtain ⟨y0, y1, y2, y3⟩ := hB1.c2
  have HC := Lib.hid (hlInts_any F _ _ v.path w0 HS0.out.path HS0'.out.path)
  clear hw0 hb0 hB0 hB1 hF
  go_enter Try.func27, Try.ntmps27
  go_upto_region 1 with fail
  rw [← Hw0.out]
  go_wp2_with fail
  refine HC.out.mono ?_
  rintro e w1 ⟨rfl, hb⟩
  have HD := Lib.hid (IHH.out F _ _ v.parts w1 (HS0.out.parts.keep (below_keeps hb HF0.out)) (HS0'.out.parts.keep (below_keeps hb HF0.out)) fun b hb' => Nat.lt_of_lt_of_le (HF0.out b hb') hb.size)
  have HE1 := Lib.hid (HE0.out.trans (hb.mono HE0.out.size))
  obtain ⟨-, -, u2, -⟩ := (HB0.out.below hb hl0).c2
  obtain ⟨-, -, v2, -⟩ := (HB1.out.below hb hl1).c2
  clear hb x0 x1 x2 x3 y0 y1 y2 y3 HC
  go_wp2_with fail
  refine HD.out.mono ?_
  rintro e w2 ⟨rfl, hb2⟩
  have HE2 := Lib.hid (HE1.out.trans (hb2.mono HE1.out.size))
  clear hb2
  go_wp2
  go_ret
  exact ⟨rfl, HE2.out⟩

set_option maxRecDepth 100000 in
set_option maxHeartbeats 1000000 in
theorem hlValues_of {c e : Cod Val} (hc : IsVal c e) (IH : HasEl c → HlC e) : HlSC c := by
  intro F v v' xs w h h' hF
  have HS := Lib.hid h
  have HS' := Lib.hid h'
  have IHH := Lib.hid (fun hp : 0 < xs.length => IH ⟨F, w, v, xs, h, hp⟩)
  obtain ⟨A, cap, rfl, hlc, hcm, _⟩ := h
  obtain ⟨A', cap', rfl, hlc', hcm', _⟩ := h'
  unfold maxLen at hcm hcm'
  clear IH
  go_enter Try.func52, Try.ntmps52
  go_wp2
  go_loopw [5] (fun i wr => ∃ (k : Nat), k ≤ xs.length ∧ i = .int .i64 k ∧ Below w.heap.size w wr) (fun i _ => xs.length - (intOf i).toNat)
  case atStart => exact ⟨0, Nat.zero_le _, rfl, Below.refl _ _⟩
  case round =>
    obtain ⟨k, hk, rfl, hb⟩ := hrel
    by_cases hlt : k < xs.length
    · have HSr := Lib.hid (HS.out.keep (below_keeps hb hF))
      have HSr' := Lib.hid (HS'.out.keep (below_keeps hb hF))
      obtain ⟨b, off, c1, A2, cA, B2, cB, hv, _, _, _, hc0, hc1, hc2, hc3, hV⟩ := HSr.out.val_at hc hlt
      obtain ⟨rfl, rfl⟩ : A = some ⟨b, off, none⟩ ∧ cap = c1 := by simpa using hv
      obtain ⟨b', off', c1', A2', cA', B2', cB', hv', _, _, _, hc0', hc1', hc2', hc3', hV'⟩ := HSr'.out.val_at hc hlt
      obtain ⟨rfl, rfl⟩ : A' = some ⟨b', off', none⟩ ∧ cap' = c1' := by simpa using hv'
      have hsz := hb.size
      have HV := Lib.hid hV
      have HV' := Lib.hid hV'
      have IH1 := Lib.hid (IHH.out (by omega))
      clear hv hv' hV hV'
      have i0 : (0 : Int) ≤ k := by omega
      have i1 : (k : Int) < xs.length := by omega
      go_wp2
      go_still_tail 8, (by kernel_rfl)
      change wpList _ _ _ _ _ wr.drew
      go_wp2_with fail
      refine (IH1.out F _ _ _ _ xs[k] wr.drew HV.out.drew HV'.out.drew (fun b hb' => Nat.lt_of_lt_of_le (hF b hb') hsz)).mono ?_
      rintro e' w1 ⟨rfl, hb1⟩
      go_wp2
      go_roundw
      case rel => exact ⟨k + 1, by omega, by go_num, hb.trans (Below.drew (Below.refl _ _) |>.trans (hb1.mono hsz))⟩
      case measure => simp [intOf]; omega
    · go_wp2
      go_ret
      exact ⟨rfl, hb⟩

theorem hlValues_any : ∀ d, HlSC (Cod.val d)
  | 0 => hlValues_of (e := Cod.no) (IsVal.zero _) fun h => absurd h no_el
  | d + 1 => hlValues_of (IsVal.of _) fun _ => hlValue_of (hlValues_any d)
theorem hlValue_any (d : Nat) : HlC (Cod.val d) := hlValue_of (hlValues_any d)
end Go.Proofs.Ytmomdflfjcboiaa
