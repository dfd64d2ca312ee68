/- Values held: what has been marked reads so. -/
import Derived.Test.YtbjnjdhkillbiaaOwv
namespace Go.Proofs.Ytbjnjdhkillbiaa
open Go.RowKit

theorem MarkAt.nth {α : Type} {f : α → Nat → α × Nat} {xs : List α} {k : Nat} {done : List α} {j kj : Nat} (h : MarkAt f xs k done j kj) (hj : j < xs.length) : ∃ hh : j < (markL f xs k).1.length, (markL f xs k).1[j]'hh = (f xs[j] kj).1 := by
  have h1 := h.1
  have h2 := h.2.1
  rw [drop_cons hj] at h2
  refine ⟨by rw [markL_length]; exact hj, ?_⟩
  have h3 : (markL f xs k).1[j]? = some (f xs[j] kj).1 := by
    rw [← h2, List.getElem?_append_right (by omega), h1, Nat.sub_self]
    rfl
  exact (List.getElem?_eq_some_iff.1 h3).2

set_option maxRecDepth 100000 in
set_option maxHeartbeats 1000000 in
theorem heldIntS_any (F : Nat → Prop) (k : Nat) (v : Value) (xs : List Int) (w : World) (h : Cod.i64.Sl F w v (markL mkI xs k).1) (h0 : 0 < k) (h1 : (markL mkI xs k).2 ≤ 100000000) :
    Calls Try.prog 50 #[v, .int .i64 k] w fun e w' => e = .returned (.int .i64 (markL mkI xs k).2) ∧ w' = w := by
  have HO := Lib.hid h
  have HM := Lib.hid (MarkAt.start mkI xs k)
  obtain ⟨A, cap, rfl, hlc, hcm, hx_⟩ := h
  clear hx_
  unfold maxLen at hcm
  rw [markL_length] at hlc HO ⊢
  go_enter Try.func50, Try.ntmps50
  go_wp2
  go_loopw [5, 1] (fun i kk wr => ∃ (j kj : Nat) (done : List Int), j ≤ xs.length ∧ i = .int .i64 j ∧ kk = .int .i64 kj ∧ 0 < kj ∧ Hid (MarkAt mkI xs k done j kj) ∧ wr = w) (fun i _ _ => xs.length - (intOf i).toNat)
  case atStart => exact ⟨0, k, [], Nat.zero_le _, rfl, rfl, h0, HM, rfl⟩
  case round =>
    obtain ⟨j, kj, done, hj, rfl, rfl, hk0, HMr, rfl⟩ := hrel
    by_cases hlt : j < xs.length
    · have hst := HMr.out.step hlt
      have hroom2 := hst.room (f := mkI) (fun _ k => Nat.le_succ k)
      obtain ⟨hh, hg⟩ := HMr.out.nth hlt
      obtain ⟨b, off, cap', hv, hFb, _, _, hc0, hi0⟩ := HO.out.i64_at hh
      rw [hg] at hc0
      rw [markL_length] at hv
      obtain ⟨rfl, rfl⟩ : A = some ⟨b, off, none⟩ ∧ cap = cap' := by simpa using hv
      have hc0' : wr.cell? ⟨b, off + j, none⟩ = some (.int .i64 kj) := hc0
      have hk1 : kj + 1 ≤ 100000000 := Nat.le_trans hroom2 h1
      have Hst := Lib.hid hst
      clear hv hc0 hst hg hroom2 hh hi0
      go_wp2
      go_roundw
      case rel => exact ⟨j + 1, kj + 1, _, by omega, by go_num, by go_num, by omega, Hst, by first | rfl | trivial⟩
      case measure => simp [intOf]; omega
    · obtain rfl : j = xs.length := by omega
      obtain ⟨e1, e2⟩ := HMr.out.end_ rfl
      have HQ := Lib.hid e2
      clear e1 e2
      go_wp2
      go_ret
      exact ⟨ret_int (by rw [HQ.out]), rfl⟩

def HvC (c : Cod Val) (f : Val → Nat → Val × Nat) : Prop := ∀ (F : Nat → Prop) (k : Nat) (v : Value) (xs : List Val) (w : World), c.Sl F w v (markL f xs k).1 → (∀ b, F b → b < w.heap.size) → 0 < k → (markL f xs k).2 ≤ 100000000 →
    Calls Try.prog 49 #[v, .int .i64 k] w fun e w' => e = .returned (.int .i64 (markL f xs k).2) ∧ Below w.heap.size w w'

set_option maxRecDepth 100000 in
set_option maxHeartbeats 4000000 in
theorem heldValueS_of {c e : Cod Val} {f g : Val → Nat → Val × Nat} (hc : IsVal c e) (hf : ∀ x k, k ≤ (f x k).2) (IH : HasEl c → HvC e g ∧ f = mkOf g ∧ ∀ x k, k ≤ (g x k).2) : HvC c f := by
  intro F k v xs w h hF h0 h1
  have HO := Lib.hid h
  have HIH := Lib.hid (fun hp : 0 < (markL f xs k).1.length => IH ⟨F, w, v, _, h, hp⟩)
  have HM := Lib.hid (MarkAt.start f xs k)
  obtain ⟨A, cap, rfl, hlc, hcm, hx_⟩ := h
  clear hx_ IH
  unfold maxLen at hcm
  rw [markL_length] at hlc HO HIH ⊢
  go_enter Try.func49, Try.ntmps49
  go_wp2
  go_loopw [5, 1] (fun i kk wr => ∃ (j kj : Nat) (done : List Val), j ≤ xs.length ∧ i = .int .i64 j ∧ kk = .int .i64 kj ∧ 0 < kj ∧ Hid (MarkAt f xs k done j kj) ∧ Hid (Below w.heap.size w wr)) (fun i _ _ => xs.length - (intOf i).toNat)
  case atStart => exact ⟨0, k, [], Nat.zero_le _, rfl, rfl, h0, HM, Below.refl _ _⟩
  case round =>
    obtain ⟨j, kj, done, hj, rfl, rfl, hk0, HMr, HBe⟩ := hrel
    by_cases hlt : j < xs.length
    · have hst := HMr.out.step hlt
      have hroom2 := hst.room hf
      obtain ⟨hh, hg⟩ := HMr.out.nth hlt
      obtain ⟨ihm, ihf, ihg⟩ := HIH.out (by omega)
      have hfx : f xs[j] kj = mkOf g xs[j] kj := by rw [ihf]
      rw [hfx] at hg hst hroom2
      have hle := mkOf_le ihg xs[j] kj
      have HOr := Lib.hid (HO.out.keep (below_keeps HBe.out hF))
      obtain ⟨b, off, cap', Aa, ca, Ab, cb, hv, hFb, _, _, hc0, hc1, hc2, hc3, hV⟩ := HOr.out.val_at hc hh
      rw [hg] at hc0 hc1 hc2 hc3 hV
      rw [markL_length] at hv
      obtain ⟨rfl, rfl⟩ : A = some ⟨b, off, none⟩ ∧ cap = cap' := by simpa using hv
      have l1 : (mkOf g xs[j] kj).1.parts.length = xs[j].parts.length := markL_length _ _ _
      have l2 : (mkOf g xs[j] kj).1.path.length = xs[j].path.length := markL_length _ _ _
      rw [l1] at hc2 hV
      rw [l2] at hc3 hV
      have d0 : wr.cell? ⟨b, off + j * 4, none⟩ = some (.string (mt kj)) := hc0
      have d1 : wr.cell? ⟨b, off + j * 4 + 1, none⟩ = some (.int .i64 ((kj : Int) + 1)) := hc1
      obtain ⟨_, _, hpe, hpe1, hpe2, hpe3⟩ := hV.parts
      obtain ⟨_, _, hqe, hqe1, hqe2, hqe3⟩ := hV.path
      simp only [Value.slice.injEq] at hpe hqe
      obtain ⟨rfl, hz1, rfl⟩ := hpe
      obtain ⟨rfl, hz2, rfl⟩ := hqe
      clear hpe3 hqe3 hz1 hz2
      rw [l1] at hpe1
      rw [l2] at hqe1
      unfold maxLen at hpe2 hqe2
      have hk1 : kj + 2 ≤ 100000000 := by omega
      have hk2 : (markL g xs[j].parts (kj + 2)).2 ≤ 100000000 := by omega
      have hk3 : (markL mkI xs[j].path (markL g xs[j].parts (kj + 2)).2).2 ≤ 100000000 := Nat.le_trans hroom2 h1
      have hkp : 0 < (markL g xs[j].parts (kj + 2)).2 := by omega
      have hFr : ∀ b, F b → b < wr.heap.size := fun b hb => Nat.lt_of_lt_of_le (hF b hb) HBe.out.size
      have hbl := hFr b hFb
      have HV := Lib.hid hV
      have Hst := Lib.hid hst
      have IHM := Lib.hid ihm
      have HFr := Lib.hid hFr
      have HT := Lib.hid (markText_any kj wr.drew hk0 (by omega))
      have hbd : b < wr.drew.heap.size := hbl
      have HBd := Lib.hid (show Below w.heap.size w wr.drew from HBe.out.drew)
      clear hv hc0 hc1 hst hg ihm ihf ihg hfx hV hFr hroom2 hle
      go_wp2_with fail
      go_region_with (go_at_call 73; (with_reducible refine HT.out.mono ?_); rintro e w1 ⟨rfl, hb1⟩; go_must (have HB1 := Lib.hid hb1; have y0 : w1.cell? ⟨b, off + j * 4, none⟩ = some (.string (mt kj)) := (hb1.cell (p := ⟨b, off + j * 4, none⟩) hbd).trans d0; have y1 : w1.cell? ⟨b, off + j * 4 + 1, none⟩ = some (.int .i64 ((kj : Int) + 1)) := (hb1.cell (p := ⟨b, off + j * 4 + 1, none⟩) hbd).trans d1; have y2 : w1.cell? ⟨b, off + j * 4 + 2, none⟩ = some (.slice Aa xs[j].parts.length ca) := (hb1.cell (p := ⟨b, off + j * 4 + 2, none⟩) hbd).trans hc2; have y3 : w1.cell? ⟨b, off + j * 4 + 3, none⟩ = some (.slice Ab xs[j].path.length cb) := (hb1.cell (p := ⟨b, off + j * 4 + 3, none⟩) hbd).trans hc3; clear hb1))
      all_goals
        have HE1 := Lib.hid (HBd.out.trans (HB1.out.mono HBd.out.size))
        have HV1 := Lib.hid ((HV.out.drew).keep (w' := w1) (fun b hb => HB1.out.block b (HFr.out b hb)))
        have HF1 := Lib.hid (show ∀ b, F b → b < w1.heap.size from fun b hb => Nat.lt_of_lt_of_le (HFr.out b hb) HB1.out.size)
        have hC : Calls Try.prog 49 #[.slice Aa xs[j].parts.length ca, .int .i64 ((kj : Int) + 1 + 1)] w1 fun e w' => e = .returned (.int .i64 (markL g xs[j].parts (kj + 2)).2) ∧ Below w1.heap.size w1 w' := by
          have := IHM.out F (kj + 2) (.slice Aa xs[j].parts.length ca) xs[j].parts w1 HV1.out.parts HF1.out (by omega) hk2
          rw [show ((kj + 2 : Nat) : Int) = (kj : Int) + 1 + 1 by omega] at this
          exact this
        have HC := Lib.hid hC
        clear hC
        go_wp2_with fail
        refine HC.out.mono ?_
        rintro e w2 ⟨rfl, hb2⟩
        have z3 : w2.cell? ⟨b, off + j * 4 + 3, none⟩ = some (.slice Ab xs[j].path.length cb) := (hb2.cell (p := ⟨b, off + j * 4 + 3, none⟩) (HF1.out b hFb)).trans y3
        have HC2 := Lib.hid (heldIntS_any F (markL g xs[j].parts (kj + 2)).2 (.slice Ab xs[j].path.length cb) xs[j].path w2 (HV1.out.path.keep (below_keeps hb2 HF1.out)) hkp hk3)
        have HE2 := Lib.hid (HE1.out.trans (hb2.mono HE1.out.size))
        clear hb2 HC y0 y1 y2 y3
        go_wp2_with (go_at_call 50; refine HC2.out.mono ?_; rintro e w3 ⟨rfl, rfl⟩)
        go_roundw
        case rel => exact ⟨j + 1, (mkOf g xs[j] kj).2, _, by omega, by go_num, rfl, by have := mkOf_le (g := g) (fun x k => (HIH.out (by omega)).2.2 x k) xs[j] kj; omega, Hst, HE2⟩
        case measure => simp [intOf]; omega
    · obtain rfl : j = xs.length := by omega
      obtain ⟨e1, e2⟩ := HMr.out.end_ rfl
      have HQ := Lib.hid e2
      clear e1 e2
      go_wp2
      go_ret
      exact ⟨ret_int (by rw [HQ.out]), HBe.out⟩

theorem heldValueS_any : ∀ d, HvC (Cod.val d) (mkV d)
  | 0 => heldValueS_of (e := Cod.no) (g := fun v k => (v, k)) (IsVal.zero _) (mkV_le 0) fun h => absurd h no_el
  | d + 1 => heldValueS_of (IsVal.of _) (mkV_le (d + 1)) fun _ => ⟨heldValueS_any d, rfl, mkV_le d⟩

set_option maxRecDepth 100000 in
set_option maxHeartbeats 1000000 in
theorem heldValue_any (d : Nat) (F : Nat → Prop) (k : Nat) (A B : Option Addr) (n m cA cB : Nat) (v : Val) (w : World) (h : VRd (Cod.val d) F w (.slice A n cA) (.slice B m cB) (mkTop (mkV d) v k).1) (hF : ∀ b, F b → b < w.heap.size) (h0 : 0 < k) (h1 : (mkTop (mkV d) v k).2 ≤ 100000000) :
    Calls Try.prog 21 #[.agg #[.string v.ty, .int .i64 v.n, .slice A n cA, .slice B m cB], .int .i64 k] w fun e w' => e = .returned (.int .i64 (mkTop (mkV d) v k).2) ∧ Below w.heap.size w w' := by
  have HB := Lib.hid (Blk.new w 27 #[.string v.ty, .int .i64 v.n, .slice A n cA, .slice B m cB])
  have hl1 := markL_le (mkV_le d) v.parts k
  have hl2 := markL_le (f := mkI) (fun _ k => Nat.le_succ k) v.path (markL (mkV d) v.parts k).2
  have hk2 : (markL (mkV d) v.parts k).2 ≤ 100000000 := Nat.le_trans hl2 h1
  have hk1 : ∀ b, F b → (w.alloc (.cells #[.string v.ty, .int .i64 v.n, .slice A n cA, .slice B m cB] 27)).heap[b]? = w.heap[b]? := fun b hb => Below.heap_alloc _ _ _ (hF b hb)
  have HV1 := Lib.hid (h.keep hk1)
  have HF1 := Lib.hid (show ∀ b, F b → b < (w.alloc (.cells #[.string v.ty, .int .i64 v.n, .slice A n cA, .slice B m cB] 27)).heap.size from fun b hb => by have := hF b hb; simp; omega)
  have HC1 := Lib.hid (heldValueS_any d F k _ v.parts _ HV1.out.parts HF1.out h0 hk2)
  clear h hk1
  go_enter Try.func21, Try.ntmps21
  go_wp2_with fail
  refine HC1.out.mono ?_
  rintro e w1 ⟨rfl, hb1⟩
  obtain ⟨x0, x1, x2, x3⟩ := (HB.out.below hb1 (by simp)).c2
  have HC2 := Lib.hid (heldIntS_any F (markL (mkV d) v.parts k).2 (.slice B m cB) v.path w1 (HV1.out.path.keep (below_keeps hb1 HF1.out)) (by omega) h1)
  have HE := Lib.hid (((Below.refl w.heap.size w).alloc (Nat.le_refl _) (.cells #[.string v.ty, .int .i64 v.n, .slice A n cA, .slice B m cB] 27)).trans (hb1.mono (by simp)))
  clear hb1 HC1
  go_wp2_with (go_at_call 50; refine HC2.out.mono ?_; rintro e w2 ⟨rfl, rfl⟩)
  all_goals
    go_ret
    exact ⟨rfl, HE.out⟩
end Go.Proofs.Ytbjnjdhkillbiaa
