/- The functions that compare, at values: where both sides read as the same, they answer true. -/
import Derived.Test.YtbjnjdhkillbiaaEq
import Derived.Test.YtbjnjdhkillbiaaVsz
namespace Go.Proofs.Ytbjnjdhkillbiaa
open Go.RowKit

set_option maxHeartbeats 400000 in
theorem eqIntS_any (F : Nat → Prop) (v v' : Value) (xs : List Int) (w : World) (h : Cod.i64.Sl F w v xs) (h' : Cod.i64.Sl F w v' xs) :
    Calls Try.prog 44 #[v, v'] w fun e w' => e = .returned (.bool true) ∧ Below w.heap.size w w' := by
  have HS := Lib.hid h
  have HS' := Lib.hid h'
  obtain ⟨A, cap, rfl, hlc, hcm, _⟩ := h
  obtain ⟨A', cap', rfl, hlc', hcm', _⟩ := h'
  unfold maxLen at hcm hcm'
  go_enter Try.func44, Try.ntmps44
  go_wp2
  go_loopw [5] (fun i wr => ∃ (k n : Nat), k ≤ xs.length ∧ i = .int .i64 k ∧ wr = w.drewN n) (fun i _ => xs.length - (intOf i).toNat)
  case atStart => exact ⟨0, 0, Nat.zero_le _, rfl, rfl⟩
  case round =>
    obtain ⟨k, n, hk, rfl, rfl⟩ := hrel
    by_cases hlt : k < xs.length
    · obtain ⟨b, off, c1, hv, _, _, _, hc0, _⟩ := HS.out.i64_at hlt
      obtain ⟨rfl, rfl⟩ : A = some ⟨b, off, none⟩ ∧ cap = c1 := by simpa using hv
      obtain ⟨b', off', c1', hv', _, _, _, hc0', _⟩ := HS'.out.i64_at hlt
      obtain ⟨rfl, rfl⟩ : A' = some ⟨b', off', none⟩ ∧ cap' = c1' := by simpa using hv'
      clear hv hv'
      have i0 : (0 : Int) ≤ k := by omega
      have i1 : (k : Int) < xs.length := by omega
      generalize xs[k] = x at hc0 hc0'
      go_wp2
      go_quiet (fail)
      go_wp2
      go_roundw
      case rel => exact ⟨k + 1, _, by omega, by go_num, rfl⟩
      case measure => simp [intOf]; omega
    · go_wp2
      go_ret
      exact ⟨rfl, below_drewN (Below.refl _ _) _⟩

def EqSC (c : Cod Val) : Prop := ∀ (F : Nat → Prop) (v v' : Value) (xs : List Val) (w : World), c.Sl F w v xs → c.Sl F w v' xs → (∀ b, F b → b < w.heap.size) →
    Calls Try.prog 43 #[v, v'] w fun e w' => e = .returned (.bool true) ∧ Below w.heap.size w w'
def EqC (c : Cod Val) : Prop := ∀ (F : Nat → Prop) (a p a' p' : Value) (v : Val) (w : World), VRd c F w a p v → VRd c F w a' p' v → (∀ b, F b → b < w.heap.size) →
    Calls Try.prog 17 #[.agg #[.string v.ty, .int .i64 v.n, a, p], .agg #[.string v.ty, .int .i64 v.n, a', p']] w fun e w' => e = .returned (.bool true) ∧ Below w.heap.size w w'

set_option maxRecDepth 100000 in
set_option maxHeartbeats 1000000 in
theorem eqValue_of {c : Cod Val} (IH : EqSC c) : EqC c := by
  intro F a p a' p' v w h h' hF
  have HS := Lib.hid h
  have HS' := Lib.hid h'
  have IHH := Lib.hid IH
  obtain ⟨A, cA, rfl, _⟩ := h.parts
  obtain ⟨B, cB, rfl, _⟩ := h.path
  obtain ⟨A', cA', rfl, _⟩ := h'.parts
  obtain ⟨B', cB', rfl, _⟩ := h'.path
  clear h h' IH
  have HK := Lib.hid (show ∀ (o o' : Obj), ∀ b, F b → ((w.alloc o).alloc o').heap[b]? = w.heap[b]? from fun o o' b hb => by
    have := hF b hb
    rw [Below.heap_alloc _ _ _ (by simp; omega), Below.heap_alloc _ _ _ (by omega)])
  have HL := Lib.hid (show ∀ (o o' : Obj), ∀ b, F b → b < ((w.alloc o).alloc o').heap.size from fun o o' b hb => by have := hF b hb; simp; omega)
  go_enter Try.func17, Try.ntmps17
  go_wp2_with fail
  refine (IHH.out F _ _ v.parts _ (HS.out.parts.keep (HK.out _ _)) (HS'.out.parts.keep (HK.out _ _)) (HL.out _ _)).mono ?_
  rintro e w1 ⟨rfl, hb⟩
  have hB0 := ((Blk.new w 27 #[.string v.ty, .int .i64 v.n, .slice A v.parts.length cA, .slice B v.path.length cB]).alloc (.cells #[.string v.ty, .int .i64 v.n, .slice A' v.parts.length cA', .slice B' v.path.length cB'] 27)).below hb (by simp; omega)
  have hB1 := (Blk.new (w.alloc (.cells #[.string v.ty, .int .i64 v.n, .slice A v.parts.length cA, .slice B v.path.length cB] 27)) 27 #[.string v.ty, .int .i64 v.n, .slice A' v.parts.length cA', .slice B' v.path.length cB']).below hb (by simp)
  simp only [World.size_alloc] at hB1
  have c03 := hB0.c2.2.2.2
  have c13 := hB1.c2.2.2.2
  have HP := Lib.hid ((HS.out.path.keep (HK.out (.cells #[.string v.ty, .int .i64 v.n, .slice A v.parts.length cA, .slice B v.path.length cB] 27) (.cells #[.string v.ty, .int .i64 v.n, .slice A' v.parts.length cA', .slice B' v.path.length cB'] 27))).keep (below_keeps hb fun b hb' => by have := hF b hb'; simp; omega))
  have HP' := Lib.hid ((HS'.out.path.keep (HK.out (.cells #[.string v.ty, .int .i64 v.n, .slice A v.parts.length cA, .slice B v.path.length cB] 27) (.cells #[.string v.ty, .int .i64 v.n, .slice A' v.parts.length cA', .slice B' v.path.length cB'] 27))).keep (below_keeps hb fun b hb' => by have := hF b hb'; simp; omega))
  have HE := Lib.hid ((((Below.refl w.heap.size w).alloc (Nat.le_refl _) (.cells #[.string v.ty, .int .i64 v.n, .slice A v.parts.length cA, .slice B v.path.length cB] 27)).alloc (by simp) (.cells #[.string v.ty, .int .i64 v.n, .slice A' v.parts.length cA', .slice B' v.path.length cB'] 27)).trans (hb.mono (by simp; omega)))
  have hw1 := HE.out.size
  clear hB0 hB1 hb
  go_wp2_with fail
  refine (eqIntS_any F _ _ v.path w1 HP.out HP'.out).mono ?_
  rintro e w2 ⟨rfl, hb2⟩
  go_wp2
  go_ret
  exact ⟨rfl, HE.out.trans (hb2.mono hw1)⟩

set_option maxRecDepth 100000 in
set_option maxHeartbeats 1000000 in
theorem eqValueS_of {c e : Cod Val} (hc : IsVal c e) (IH : HasEl c → EqC e) : EqSC c := by
  intro F v v' xs w h h' hF
  have HS := Lib.hid h
  have HS' := Lib.hid h'
  have IHH := Lib.hid (fun hp : 0 < xs.length => IH ⟨F, w, v, xs, h, hp⟩)
  obtain ⟨A, cap, rfl, hlc, hcm, _⟩ := h
  obtain ⟨A', cap', rfl, hlc', hcm', _⟩ := h'
  unfold maxLen at hcm hcm'
  clear IH
  go_enter Try.func43, Try.ntmps43
  go_wp2
  go_loopw [5] (fun i wr => ∃ (k : Nat), k ≤ xs.length ∧ i = .int .i64 k ∧ Below w.heap.size w wr) (fun i _ => xs.length - (intOf i).toNat)
  case atStart => exact ⟨0, Nat.zero_le _, rfl, Below.refl _ _⟩
  case round =>
    obtain ⟨k, hk, rfl, hb⟩ := hrel
    by_cases hlt : k < xs.length
    · have HSr := Lib.hid (HS.out.keep (below_keeps hb hF))
      have HSr' := Lib.hid (HS'.out.keep (below_keeps hb hF))
      obtain ⟨b, off, c1, A2, cA, B2, cB, hv, _, _, _, hc0, hc1, hc2, hc3, hV⟩ := HSr.out.val_at hc hlt
      obtain ⟨rfl, rfl⟩ : A = some ⟨b, off, none⟩ ∧ cap = c1 := by simpa using hv
      obtain ⟨b', off', c1', A2', cA', B2', cB', hv', _, _, _, hc0', hc1', hc2', hc3', hV'⟩ := HSr'.out.val_at hc hlt
      obtain ⟨rfl, rfl⟩ : A' = some ⟨b', off', none⟩ ∧ cap' = c1' := by simpa using hv'
      have hsz := hb.size
      have HV := Lib.hid hV
      have HV' := Lib.hid hV'
      have IH1 := Lib.hid (IHH.out (by omega))
      clear hv hv' hV hV'
      have i0 : (0 : Int) ≤ k := by omega
      have i1 : (k : Int) < xs.length := by omega
      go_wp2
      go_still_tail 8, (by kernel_rfl)
      change wpList _ _ _ _ _ wr.drew
      go_wp2_with fail
      refine (IH1.out F _ _ _ _ xs[k] wr.drew HV.out.drew HV'.out.drew (fun b hb' => Nat.lt_of_lt_of_le (hF b hb') hsz)).mono ?_
      rintro e' w1 ⟨rfl, hb1⟩
      go_wp2
      go_roundw
      case rel => exact ⟨k + 1, by omega, by go_num, hb.trans (Below.drew (Below.refl _ _) |>.trans (hb1.mono hsz))⟩
      case measure => simp [intOf]; omega
    · go_wp2
      go_ret
      exact ⟨rfl, hb⟩

theorem eqValueS_any : ∀ d, EqSC (Cod.val d)
  | 0 => eqValueS_of (e := Cod.no) (IsVal.zero _) fun h => absurd h no_el
  | d + 1 => eqValueS_of (IsVal.of _) fun _ => eqValue_of (eqValueS_any d)
theorem eqValue_any (d : Nat) : EqC (Cod.val d) := eqValue_of (eqValueS_any d)
end Go.Proofs.Ytbjnjdhkillbiaa
