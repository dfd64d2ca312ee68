/- The model's VaultsCount. -/
import Derived.Test.YthkdkefkgmmoiaaWc
import Derived.Test.YthkdkefkgmmoiaaVn
import Derived.Test.YthkdkefkgmmoiaaVnb
namespace Go.Proofs.Ythkdkefkgmmoiaa
open Go.RowKit

def sumK (kind : ByteArray) (d : Nat) : List KepR → Int
  | [] => 0
  | x :: r => cntV kind (d + 1) x.v + sumK kind d r
def cntR (ks : Ks) (d : Nat) (xs : List KepR) (kind : ByteArray) : Int := if (vOk ks d xs && kindB ks kind) = true then sumK kind d xs else -1
theorem cntR_bad {ks : Ks} {d : Nat} {xs : List KepR} {kind : ByteArray} (h : vOk ks d xs = false) : cntR ks d xs kind = -1 := by unfold cntR; rw [h]; rfl
theorem cntR_no {ks : Ks} {d : Nat} {xs : List KepR} {kind : ByteArray} (h : kindB ks kind = false) : cntR ks d xs kind = -1 := by unfold cntR; rw [h, Bool.and_false]; rfl
theorem cntR_yes {ks : Ks} {d : Nat} {xs : List KepR} {kind : ByteArray} (h : vOk ks d xs = true) (h' : kindB ks kind = true) : cntR ks d xs kind = sumK kind d xs := by unfold cntR; rw [h, h']; rfl
theorem sumK_bound {kind : ByteArray} {d : Nat} : ∀ {xs : List KepR}, (∀ x ∈ xs, cntV kind (d + 1) x.v ≤ 2000000) → 0 ≤ sumK kind d xs ∧ sumK kind d xs ≤ xs.length * 2000000
  | [], _ => ⟨Int.le_refl _, by simp [sumK]⟩
  | x :: r, h => by
    have h1 := sumK_bound (xs := r) fun y hy => h y (List.mem_cons_of_mem _ hy)
    have h2 := h x List.mem_cons_self
    have h3 := cntV_pos kind (d + 1) x.v
    unfold sumK
    rw [List.length_cons]
    omega
theorem sumK_snoc {kind : ByteArray} {d : Nat} (x : KepR) : ∀ ys : List KepR, sumK kind d (ys ++ [x]) = sumK kind d ys + cntV kind (d + 1) x.v
  | [] => by show cntV kind (d + 1) x.v + 0 = 0 + _; omega
  | y :: ys => by
    show cntV kind (d + 1) y.v + sumK kind d (ys ++ [x]) = cntV kind (d + 1) y.v + sumK kind d ys + _
    rw [sumK_snoc x ys]
    omega
theorem kindB_none {ks : Ks} {kind : ByteArray} (h : kindOf kind = none) : kindB ks kind = false := by unfold kindB; rw [h]

set_option maxRecDepth 100000 in
set_option maxHeartbeats 4000000 in
theorem specVaultsCount_any {ks : Ks} (d : Nat) (F : Nat → Prop) (kv vl : Value) (xs : List KepR) (kind : ByteArray) (w : World) (hks : Cod.recs.Sl F w kv ks) (h : (Cod.kept (Cod.val d)).Sl F w vl xs) (hF : ∀ b, F b → b < w.heap.size) (hc : ∀ x ∈ xs, cntV kind (d + 1) x.v ≤ 2000000) :
    Calls Try.prog 25 #[kv, vl, .string kind] w fun e w' => e = .returned (.int .i64 (cntR ks d xs kind)) ∧ Below w.heap.size w w' := by
  have HL := Lib.hid h
  have HS := Lib.hid hks
  have HF := Lib.hid hF
  have HVo := Lib.hid (fun (W : World) (hb : Below w.heap.size w W) => specVaultsOk_any d F kv vl xs W (hks.keep (below_keeps hb hF)) (h.keep (below_keeps hb hF)) (below_goF hF hb))
  have HPl := Lib.hid (fun (W : World) (hb : Below w.heap.size w W) => l1Plain_any F kv ks kind W (hks.keep (below_keeps hb hF)))
  obtain ⟨Ak, ck, rfl, _⟩ := hks
  obtain ⟨Al, cap, rfl, hlc, hcm, _⟩ := h
  unfold maxLen at hcm
  have HCt := Lib.hid hc
  clear hF hc
  cases hk : kindOf kind with
  | none =>
    have HK := Lib.hid (l1Kind_no kind w hk)
    have HN := Lib.hid (cntR_no (d := d) (xs := xs) (kindB_none (ks := ks) hk))
    clear hk
    cases hv : vOk ks d xs with
    | false =>
      rw [hv] at HVo
      clear hv
      go_enter Try.func25, Try.ntmps25
      go_wp2_with fail
      refine HK.out.mono ?_
      rintro e w1 ⟨rfl, a, hw1⟩
      have hb1 : Below w.heap.size w w1 := by rw [hw1]; exact below_drewN (Below.refl _ _) a
      clear hw1
      go_wp2_with (go_at_call 49; (with_reducible refine (HVo.out _ hb1).mono ?_); rintro e w2 ⟨rfl, hb2⟩)
      go_ret
      exact ⟨ret_int HN.out.symm, hb1.trans (hb2.mono hb1.size)⟩
    | true =>
      rw [hv] at HVo
      clear hv
      go_enter Try.func25, Try.ntmps25
      go_wp2_with fail
      refine HK.out.mono ?_
      rintro e w1 ⟨rfl, a, hw1⟩
      have hb1 : Below w.heap.size w w1 := by rw [hw1]; exact below_drewN (Below.refl _ _) a
      clear hw1
      go_wp2_with (go_at_call 49; (with_reducible refine (HVo.out _ hb1).mono ?_); rintro e w2 ⟨rfl, hb2⟩)
      go_ret
      exact ⟨ret_int HN.out.symm, hb1.trans (hb2.mono hb1.size)⟩
  | some mk =>
    obtain ⟨mm, kk⟩ := mk
    have HK := Lib.hid (l1Kind_yes kind mm kk w hk)
    have hpk := plain_kind (ks := ks) hk
    clear hk
    cases hv : vOk ks d xs with
    | false =>
      have HN := Lib.hid (cntR_bad (kind := kind) hv)
      rw [hv] at HVo
      clear hv
      go_enter Try.func25, Try.ntmps25
      go_wp2_with fail
      refine HK.out.mono ?_
      rintro e w1 ⟨rfl, a, hw1⟩
      have hb1 : Below w.heap.size w w1 := by rw [hw1]; exact below_drewN (Below.refl _ _) a
      clear hw1
      go_wp2_with (go_at_call 49; (with_reducible refine (HVo.out _ hb1).mono ?_); rintro e w2 ⟨rfl, hb2⟩)
      go_ret
      exact ⟨ret_int HN.out.symm, hb1.trans (hb2.mono hb1.size)⟩
    | true =>
      cases hkb : kindB ks kind with
      | false =>
        have HN := Lib.hid (cntR_no (d := d) (xs := xs) hkb)
        rw [hv] at HVo
        rw [hpk, hkb] at HPl
        clear hv hkb hpk
        go_enter Try.func25, Try.ntmps25
        go_wp2_with fail
        refine HK.out.mono ?_
        rintro e w1 ⟨rfl, a, hw1⟩
        have hb1 : Below w.heap.size w w1 := by rw [hw1]; exact below_drewN (Below.refl _ _) a
        clear hw1
        go_wp2_with (first
          | (go_at_call 49; (with_reducible refine (HVo.out _ hb1).mono ?_); rintro e w2 ⟨rfl, hb2⟩; have hb12 := hb1.trans (hb2.mono hb1.size))
          | (go_at_call 50; (with_reducible refine (HPl.out _ hb12).mono ?_); rintro e w3 ⟨rfl, q, rfl⟩))
        go_ret
        exact ⟨ret_int HN.out.symm, below_drewN hb12 q⟩
      | true =>
        have hN := cntR_yes (kind := kind) hv hkb
        have h36 := (okList_len (ks := ks) (d := d) (xs := xs) (by unfold vOk at hv; simp only [Bool.and_eq_true] at hv; exact hv.2))
        have HN := Lib.hid (show 0 + sumK kind d (xs.drop 0) = cntR ks d xs kind by rw [hN, List.drop_zero]; omega)
        rw [hv] at HVo
        rw [hpk, hkb] at HPl
        clear hv hkb hpk hN
        go_enter Try.func25, Try.ntmps25
        go_wp2_with fail
        refine HK.out.mono ?_
        rintro e w1 ⟨rfl, a, hw1⟩
        have hb1 : Below w.heap.size w w1 := by rw [hw1]; exact below_drewN (Below.refl _ _) a
        clear hw1
        go_wp2_with (first
          | (go_at_call 49; (with_reducible refine (HVo.out _ hb1).mono ?_); rintro e w2 ⟨rfl, hb2⟩; have hb12 := hb1.trans (hb2.mono hb1.size))
          | (go_at_call 50; (with_reducible refine (HPl.out _ hb12).mono ?_); rintro e w3 ⟨rfl, q, rfl⟩; have HB3 := Lib.hid (below_drewN hb12 q)))
        clear hb1 hb2 hb12
        go_loopw [10, 11] (fun sn si wr => ∃ (k : Nat) (n : Int), k ≤ xs.length ∧ sn = .int .i64 n ∧ si = .int .i64 k ∧ 0 ≤ n ∧ n ≤ k * 2000000 ∧ Hid (n + sumK kind d (xs.drop k) = cntR ks d xs kind) ∧ Hid (Below w.heap.size w wr)) (fun _ si _ => xs.length - (intOf si).toNat)
        case atStart => exact ⟨0, 0, Nat.zero_le _, rfl, rfl, Int.le_refl _, by simp, HN, HB3⟩
        case round =>
          clear HN HB3
          obtain ⟨k, n, hk, rfl, rfl, hn0, hn1, HH, HB⟩ := hrel
          by_cases hlt : k < xs.length
          · obtain ⟨b, off, cap', A2, cA2, B2, cB2, hvv, hFb, _, _, hc0, hc1, hc2, hc3, hc4, -, hV⟩ := (HL.out.keep (below_keeps HB.out HF.out)).kept_at hlt
            obtain ⟨rfl, rfl⟩ : Al = some ⟨b, off, none⟩ ∧ cap = cap' := by simpa using hvv
            have hcx := HCt.out _ (List.getElem_mem hlt)
            have hcp := cntV_pos kind (d + 1) xs[k].v
            have hst : n + cntV kind (d + 1) xs[k].v + sumK kind d (xs.drop (k + 1)) = cntR ks d xs kind := by
              rw [← HH.out, List.drop_eq_getElem_cons hlt]
              show _ = n + (cntV kind (d + 1) xs[k].v + sumK kind d (xs.drop (k + 1)))
              omega
            have HSt := Lib.hid hst
            have HC := Lib.hid (show Calls Try.prog 51 #[.agg #[.string xs[k].v.ty, .int .i64 xs[k].v.n, .slice A2 xs[k].v.parts.length cA2, .slice B2 xs[k].v.path.length cB2], .string kind] wr fun e w' => e = .returned (.int .i64 (cntV kind (d + 1) xs[k].v)) ∧ Below wr.heap.size wr w' from l2Count_any kind d F A2 B2 _ _ cA2 cB2 xs[k].v wr hV (below_goF HF.out HB.out) hcx)
            have i0 : (0 : Int) ≤ k := by omega
            have i1 : (k : Int) < xs.length := by omega
            clear hvv hV hst HH
            generalize cntV kind (d + 1) xs[k].v = c at *
            generalize xs[k] = x at *
            have hw1 : IntKind.i64.wrap (n + c) = n + c := by
              simp only [IntKind.wrap, IntKind.bits, IntKind.signed]
              simp
              omega
            go_wp2_with (go_at_call 51; (with_reducible refine HC.out.mono ?_); rintro e w2 ⟨rfl, hb2⟩; have HB2 := Lib.hid (HB.out.trans (hb2.mono HB.out.size)); clear hb2)
            go_roundw
            case rel => exact ⟨k + 1, n + c, by omega, by first | rfl | (rw [hw1]), by go_num, by omega, by omega, HSt, HB2⟩
            case measure => first | (simp [intOf]; done) | (simp [intOf]; omega)
          · have HR := Lib.hid (show n = cntR ks d xs kind by
              rw [← HH.out, List.drop_eq_nil_of_le (by omega)]
              show n = n + 0
              omega)
            have i0 : ¬ (k : Int) < xs.length := by omega
            clear HH
            go_wp2
            go_ret
            exact ⟨ret_int HR.out, HB.out⟩
end Go.Proofs.Ythkdkefkgmmoiaa
