/- Whatever the arguments, the exact law of VaultsCount answers true: the program's VaultsCount is the model's, leaves its arguments alone, and hands back memory of its own. -/
import Derived.Test.YthkdkefkgmmoiaaWn
import Derived.Test.YthkdkefkgmmoiaaWo
import Derived.Test.YthkdkefkgmmoiaaWu
import Derived.Test.YthkdkefkgmmoiaaTo
import Derived.Test.YthkdkefkgmmoiaaEq
namespace Go.Proofs.Ythkdkefkgmmoiaa
open Go.ChangeShapes Go.WideShapes Go.ChangeAt Go.RowKit Go.Deep
open Go.ChangeMaps (open_string shut_string)

theorem mkRS_pos (ks : Ks) (k : Nat) : k ≤ (markL mkRS ks k).2 := markL_le mkRS_le ks k

/-- What the program's VaultsCount does. -/
def ImplCount5 : Prop := ∀ (d : Nat) (F : Nat → Prop) (kv v : Value) (ks : Ks) (xs : List KepR) (kind : ByteArray) (w : World), Cod.recs.Sl F w kv ks → (Cod.kept (Cod.val d)).Sl F w v xs → (∀ b, F b → b < w.heap.size) → VSmall ks d xs → kind.size ≤ 1048576 → (∀ x ∈ xs, cntV kind (d + 1) x.v ≤ 2000000) →
    Calls Try.prog 28 #[kv, v, .string kind] w fun e w' => e = .returned (.int .i64 (cntR ks d xs kind)) ∧ Below w.heap.size w w'

set_option maxRecDepth 100000 in
set_option maxHeartbeats 16000000 in
theorem lawVaultsCount (himpl : ImplCount5) {d : Nat} (F : Nat → Prop) (kv v : Value) (ks : Ks) (xs : List KepR) (kind : ByteArray) (w : World) (hks : Cod.recs.Sl F w kv ks) (h : (Cod.kept (Cod.val d)).Sl F w v xs) (hF : ∀ b, F b → b < w.heap.size) (hkd : kind.size ≤ maxLen) :
    Calls Try.prog 7 #[kv, v, .string kind] w fun e w' => e = .returned (.bool true) ∧ Below w.heap.size w w' := by
  obtain ⟨Ak, ck, rfl, _⟩ := id hks
  obtain ⟨A, cap, rfl, _⟩ := id h
  obtain ⟨w0, hw0⟩ : ∃ w0, w0 = w := ⟨_, rfl⟩
  subst hw0
  have HK0 := Lib.hid hks
  have HV0 := Lib.hid h
  have HF0 := Lib.hid hF
  have HE0 := Lib.hid (Below.refl w0.heap.size w0)
  unfold maxLen at hkd
  clear hF h hks
  by_cases hkl : 1048576 < kind.size
  · go_enter Try.func7, Try.ntmps7
    go_wp2
    go_ret
    exact ⟨rfl, HE0.out⟩
  have HC1 := Lib.hid (szRecordSS_any F _ ks 1048576 w0 HK0.out HF0.out (by omega) (by omega))
  by_cases hz : szS (szS szRec) ks 1048576 < 0
  · go_enter Try.func7, Try.ntmps7
    go_wp2_with (go_at_call 23; refine HC1.out.mono ?_; rintro e w1 ⟨rfl, hb⟩)
    go_ret
    exact ⟨rfl, hb⟩
  have hle := szS_le (szS_le szRec_le) ks 1048576 (by omega)
  by_cases hz2 : szS (szKep d) xs (szS (szS szRec) ks 1048576) < 0
  · go_enter Try.func7, Try.ntmps7
    go_wp2_with fail
    refine HC1.out.mono ?_
    rintro e w1 ⟨rfl, hb⟩
    have HC2 := Lib.hid (sz_kept d F _ xs (szS (szS szRec) ks 1048576) w1 (HV0.out.keep (below_keeps hb HF0.out)) (below_goF HF0.out hb) (by omega) (by omega))
    have HE1 := Lib.hid hb
    clear hb HC1
    go_wp2_with (go_at_call 24; refine HC2.out.mono ?_; rintro e w2 ⟨rfl, hb⟩)
    go_ret
    exact ⟨rfl, HE1.out.trans (hb.mono HE1.out.size)⟩
  · have HSm := Lib.hid (vsmall hz hz2)
    have HCnt : ∀ x ∈ xs, cntV kind (d + 1) x.v ≤ 2000000 := (fun x hx => by obtain ⟨l, z0, z1, z2⟩ := (szS_len (szKep_le d) (xs := xs) (l := szS (szS szRec) ks 1048576) (by omega)).2 x hx; exact cnt_few (kind := kind) (d := d) (v := x.v) (l := l) (by omega) z2)
    have HSP0 := fun (F : Nat → Prop) (kv v : Value) (w : World) (h1 : Cod.recs.Sl F w kv ks) (h2 : (Cod.kept (Cod.val d)).Sl F w v xs) (h3 : ∀ b, F b → b < w.heap.size) => specVaultsCount_any d F kv v xs kind w h1 h2 h3 HCnt
    have HIM0 := fun (F : Nat → Prop) (kv v : Value) (w : World) (h1 : Cod.recs.Sl F w kv ks) (h2 : (Cod.kept (Cod.val d)).Sl F w v xs) (h3 : ∀ b, F b → b < w.heap.size) => himpl d F kv v ks xs kind w h1 h2 h3 HSm.out (by omega) HCnt
    obtain ⟨r, hr⟩ : ∃ r, r = cntR ks d xs kind := ⟨_, rfl⟩
    rw [← hr] at HSP0 HIM0
    have HSP := Lib.hid HSP0
    have HIM := Lib.hid HIM0
    clear HSP0 HIM0 himpl hr
    go_enter Try.func7, Try.ntmps7
    go_wp2_with fail
    refine HC1.out.mono ?_
    rintro e w1 ⟨rfl, hb⟩
    have hz0 := hb.size
    have HC2 := Lib.hid (sz_kept d F _ xs (szS (szS szRec) ks 1048576) w1 (HV0.out.keep (below_keeps hb HF0.out)) (below_goF HF0.out hb) (by omega) (by omega))
    have HK1 := Lib.hid (HK0.out.keep (below_keeps hb HF0.out))
    have HV1 := Lib.hid (HV0.out.keep (below_keeps hb HF0.out))
    have HE1 := Lib.hid hb
    clear hb HC1
    go_wp2_with fail
    refine HC2.out.mono ?_
    rintro e w2 ⟨rfl, hb⟩
    have hz1 := hb.size
    have HK2 := Lib.hid (HK1.out.keep (below_keeps hb (below_goF HF0.out HE1.out)))
    have HV2 := Lib.hid (HV1.out.keep (below_keeps hb (below_goF HF0.out HE1.out)))
    have HE2 := Lib.hid (HE1.out.trans (hb.mono HE1.out.size))
    clear hb HC2
    have HC := Lib.hid (toRecordSS_any F _ ks w2 HK2.out (fun b hb => by have := HF0.out b hb; omega) HSm.out.kn HSm.out.kr)
    go_wp2_with fail
    refine HC.out.mono ?_
    rintro e w3 ⟨Ks, kcs, rfl, hI, hb⟩
    clear HC
    have hz2 := hb.size
    have HV3 : Hid ((Cod.kept (Cod.val d)).Sl F w3 (.slice A xs.length cap) xs) := Lib.hid (HV2.out.keep fun b hb' => by have h1 := HF0.out b hb'; exact hb.block b (by omega))
    have HK3 : Hid (Cod.recs.Sl F w3 (.slice Ak ks.length ck) ks) := Lib.hid (HK2.out.keep fun b hb' => by have h1 := HF0.out b hb'; exact hb.block b (by omega))
    have HE3 := Lib.hid (HE2.out.trans (hb.mono (by omega)))
    have Hks3 : Hid (Cod.recs.Sl (fun b => w2.heap.size ≤ b ∧ b < w3.heap.size) w3 (.slice Ks ks.length kcs) ks) := Lib.hid hI
    clear hb hI
    have HC := Lib.hid (to_kept d F _ xs w3 (by rw [okept_cod]; exact HV3.out) (fun b hb => by have := HF0.out b hb; omega) (Nat.le_trans HSm.out.xn (by omega)) HSm.out.xr)
    go_wp2_with fail
    refine HC.out.mono ?_
    rintro e w4 ⟨Ls, lcs, rfl, hO, hb⟩
    clear HC
    have hz3 := hb.size
    have HV4 : Hid ((Cod.kept (Cod.val d)).Sl F w4 (.slice A xs.length cap) xs) := Lib.hid (HV3.out.keep fun b hb' => by have h1 := HF0.out b hb'; exact hb.block b (by omega))
    have HK4 : Hid (Cod.recs.Sl F w4 (.slice Ak ks.length ck) ks) := Lib.hid (HK3.out.keep fun b hb' => by have h1 := HF0.out b hb'; exact hb.block b (by omega))
    have Hks4 : Hid (Cod.recs.Sl (fun b => w2.heap.size ≤ b ∧ b < w3.heap.size) w4 (.slice Ks ks.length kcs) ks) := Lib.hid (Hks3.out.keep fun b hb' => by have h1 := hb'.1; have h2 := hb'.2; exact hb.block b (by omega))
    have HE4 := Lib.hid (HE3.out.trans (hb.mono (by omega)))
    have Hls4 : Hid ((Cod.kept (Cod.val d)).Sl (fun b => w3.heap.size ≤ b ∧ b < w4.heap.size) w4 (.slice Ls xs.length lcs) xs) := Lib.hid (by have := hO.sl; rw [okept_cod] at this; exact this)
    clear hb hO
    have HC := Lib.hid (HSP.out (fun b => b < w4.heap.size) _ _ w4 ((Hks4.out).mono (fun b hb => by have := hb.1; have := hb.2; omega)) ((Hls4.out).mono (fun b hb => by have := hb.1; have := hb.2; omega)) (fun b hb => hb))
    go_wp2_with fail
    refine HC.out.mono ?_
    rintro e w5 ⟨rfl, hb⟩
    clear HC
    have hz4 := hb.size
    have HV5 : Hid ((Cod.kept (Cod.val d)).Sl F w5 (.slice A xs.length cap) xs) := Lib.hid (HV4.out.keep fun b hb' => by have h1 := HF0.out b hb'; exact hb.block b (by omega))
    have HK5 : Hid (Cod.recs.Sl F w5 (.slice Ak ks.length ck) ks) := Lib.hid (HK4.out.keep fun b hb' => by have h1 := HF0.out b hb'; exact hb.block b (by omega))
    have HE5 := Lib.hid (HE4.out.trans (hb.mono (by omega)))
    clear hb
    have HC := Lib.hid (toRecordSS_any F _ ks w5 HK5.out (fun b hb => by have := HF0.out b hb; omega) HSm.out.kn HSm.out.kr)
    go_wp2_with fail
    refine HC.out.mono ?_
    rintro e w6 ⟨Km, kcm, rfl, hI, hb⟩
    clear HC
    have hz5 := hb.size
    have HV6 : Hid ((Cod.kept (Cod.val d)).Sl F w6 (.slice A xs.length cap) xs) := Lib.hid (HV5.out.keep fun b hb' => by have h1 := HF0.out b hb'; exact hb.block b (by omega))
    have HK6 : Hid (Cod.recs.Sl F w6 (.slice Ak ks.length ck) ks) := Lib.hid (HK5.out.keep fun b hb' => by have h1 := HF0.out b hb'; exact hb.block b (by omega))
    have HE6 := Lib.hid (HE5.out.trans (hb.mono (by omega)))
    have Hkm6 : Hid (Cod.recs.Sl (fun b => w5.heap.size ≤ b ∧ b < w6.heap.size) w6 (.slice Km ks.length kcm) ks) := Lib.hid hI
    clear hb hI
    have HC := Lib.hid (to_kept d F _ xs w6 (by rw [okept_cod]; exact HV6.out) (fun b hb => by have := HF0.out b hb; omega) (Nat.le_trans HSm.out.xn (by omega)) HSm.out.xr)
    go_wp2_with fail
    refine HC.out.mono ?_
    rintro e w7 ⟨Lm, lcm, rfl, hO, hb⟩
    clear HC
    have hz6 := hb.size
    have HV7 : Hid ((Cod.kept (Cod.val d)).Sl F w7 (.slice A xs.length cap) xs) := Lib.hid (HV6.out.keep fun b hb' => by have h1 := HF0.out b hb'; exact hb.block b (by omega))
    have HK7 : Hid (Cod.recs.Sl F w7 (.slice Ak ks.length ck) ks) := Lib.hid (HK6.out.keep fun b hb' => by have h1 := HF0.out b hb'; exact hb.block b (by omega))
    have Hkm7 : Hid (Cod.recs.Sl (fun b => w5.heap.size ≤ b ∧ b < w6.heap.size) w7 (.slice Km ks.length kcm) ks) := Lib.hid (Hkm6.out.keep fun b hb' => by have h1 := hb'.1; have h2 := hb'.2; exact hb.block b (by omega))
    have HE7 := Lib.hid (HE6.out.trans (hb.mono (by omega)))
    have Hlm7 : Hid ((Cod.kept (Cod.val d)).Sl (fun b => w6.heap.size ≤ b ∧ b < w7.heap.size) w7 (.slice Lm xs.length lcm) xs) := Lib.hid (by have := hO.sl; rw [okept_cod] at this; exact this)
    clear hb hO
    have HC := Lib.hid (HIM.out (fun b => b < w7.heap.size) _ _ w7 ((Hkm7.out).mono (fun b hb => by have := hb.1; have := hb.2; omega)) ((Hlm7.out).mono (fun b hb => by have := hb.1; have := hb.2; omega)) (fun b hb => hb))
    go_wp2_with fail
    refine HC.out.mono ?_
    rintro e w8 ⟨rfl, hb⟩
    clear HC
    have hz7 := hb.size
    have HV8 : Hid ((Cod.kept (Cod.val d)).Sl F w8 (.slice A xs.length cap) xs) := Lib.hid (HV7.out.keep fun b hb' => by have h1 := HF0.out b hb'; exact hb.block b (by omega))
    have HK8 : Hid (Cod.recs.Sl F w8 (.slice Ak ks.length ck) ks) := Lib.hid (HK7.out.keep fun b hb' => by have h1 := HF0.out b hb'; exact hb.block b (by omega))
    have Hkm8 : Hid (Cod.recs.Sl (fun b => w5.heap.size ≤ b ∧ b < w6.heap.size) w8 (.slice Km ks.length kcm) ks) := Lib.hid (Hkm7.out.keep fun b hb' => by have h1 := hb'.1; have h2 := hb'.2; exact hb.block b (by omega))
    have Hlm8 : Hid ((Cod.kept (Cod.val d)).Sl (fun b => w6.heap.size ≤ b ∧ b < w7.heap.size) w8 (.slice Lm xs.length lcm) xs) := Lib.hid (Hlm7.out.keep fun b hb' => by have h1 := hb'.1; have h2 := hb'.2; exact hb.block b (by omega))
    have HE8 := Lib.hid (HE7.out.trans (hb.mono (by omega)))
    clear hb
    have HC := Lib.hid (toRecordSS_any F _ ks w8 HK8.out (fun b hb => by have := HF0.out b hb; omega) HSm.out.kn HSm.out.kr)
    go_wp2_with fail
    refine HC.out.mono ?_
    rintro e w9 ⟨Ke, kce, rfl, hI, hb⟩
    clear HC
    have hz8 := hb.size
    have HV9 : Hid ((Cod.kept (Cod.val d)).Sl F w9 (.slice A xs.length cap) xs) := Lib.hid (HV8.out.keep fun b hb' => by have h1 := HF0.out b hb'; exact hb.block b (by omega))
    have HK9 : Hid (Cod.recs.Sl F w9 (.slice Ak ks.length ck) ks) := Lib.hid (HK8.out.keep fun b hb' => by have h1 := HF0.out b hb'; exact hb.block b (by omega))
    have Hkm9 : Hid (Cod.recs.Sl (fun b => w5.heap.size ≤ b ∧ b < w6.heap.size) w9 (.slice Km ks.length kcm) ks) := Lib.hid (Hkm8.out.keep fun b hb' => by have h1 := hb'.1; have h2 := hb'.2; exact hb.block b (by omega))
    have Hlm9 : Hid ((Cod.kept (Cod.val d)).Sl (fun b => w6.heap.size ≤ b ∧ b < w7.heap.size) w9 (.slice Lm xs.length lcm) xs) := Lib.hid (Hlm8.out.keep fun b hb' => by have h1 := hb'.1; have h2 := hb'.2; exact hb.block b (by omega))
    have HE9 := Lib.hid (HE8.out.trans (hb.mono (by omega)))
    have Hke9 : Hid (Cod.recs.Sl (fun b => w8.heap.size ≤ b ∧ b < w9.heap.size) w9 (.slice Ke ks.length kce) ks) := Lib.hid hI
    clear hb hI
    have HC := Lib.hid (eqRecordSS_any (fun b => b < w9.heap.size) _ _ ks w9 ((Hkm9.out).mono (fun b hb => by have := hb.1; have := hb.2; omega)) ((Hke9.out).mono (fun b hb => by have := hb.1; have := hb.2; omega)) fun b hb => hb)
    go_wp2_with fail
    refine HC.out.mono ?_
    rintro e w10 ⟨rfl, hb⟩
    clear HC
    have hz9 := hb.size
    have HV10 : Hid ((Cod.kept (Cod.val d)).Sl F w10 (.slice A xs.length cap) xs) := Lib.hid (HV9.out.keep fun b hb' => by have h1 := HF0.out b hb'; exact hb.block b (by omega))
    have HK10 : Hid (Cod.recs.Sl F w10 (.slice Ak ks.length ck) ks) := Lib.hid (HK9.out.keep fun b hb' => by have h1 := HF0.out b hb'; exact hb.block b (by omega))
    have Hkm10 : Hid (Cod.recs.Sl (fun b => w5.heap.size ≤ b ∧ b < w6.heap.size) w10 (.slice Km ks.length kcm) ks) := Lib.hid (Hkm9.out.keep fun b hb' => by have h1 := hb'.1; have h2 := hb'.2; exact hb.block b (by omega))
    have Hlm10 : Hid ((Cod.kept (Cod.val d)).Sl (fun b => w6.heap.size ≤ b ∧ b < w7.heap.size) w10 (.slice Lm xs.length lcm) xs) := Lib.hid (Hlm9.out.keep fun b hb' => by have h1 := hb'.1; have h2 := hb'.2; exact hb.block b (by omega))
    have HE10 := Lib.hid (HE9.out.trans (hb.mono (by omega)))
    clear hb
    have HC := Lib.hid (to_kept d F _ xs w10 (by rw [okept_cod]; exact HV10.out) (fun b hb => by have := HF0.out b hb; omega) (Nat.le_trans HSm.out.xn (by omega)) HSm.out.xr)
    go_wp2_with fail
    refine HC.out.mono ?_
    rintro e w11 ⟨Le, lce, rfl, hO, hb⟩
    clear HC
    have hz10 := hb.size
    have HV11 : Hid ((Cod.kept (Cod.val d)).Sl F w11 (.slice A xs.length cap) xs) := Lib.hid (HV10.out.keep fun b hb' => by have h1 := HF0.out b hb'; exact hb.block b (by omega))
    have HK11 : Hid (Cod.recs.Sl F w11 (.slice Ak ks.length ck) ks) := Lib.hid (HK10.out.keep fun b hb' => by have h1 := HF0.out b hb'; exact hb.block b (by omega))
    have Hkm11 : Hid (Cod.recs.Sl (fun b => w5.heap.size ≤ b ∧ b < w6.heap.size) w11 (.slice Km ks.length kcm) ks) := Lib.hid (Hkm10.out.keep fun b hb' => by have h1 := hb'.1; have h2 := hb'.2; exact hb.block b (by omega))
    have Hlm11 : Hid ((Cod.kept (Cod.val d)).Sl (fun b => w6.heap.size ≤ b ∧ b < w7.heap.size) w11 (.slice Lm xs.length lcm) xs) := Lib.hid (Hlm10.out.keep fun b hb' => by have h1 := hb'.1; have h2 := hb'.2; exact hb.block b (by omega))
    have HE11 := Lib.hid (HE10.out.trans (hb.mono (by omega)))
    have Hle11 : Hid ((Cod.kept (Cod.val d)).Sl (fun b => w10.heap.size ≤ b ∧ b < w11.heap.size) w11 (.slice Le xs.length lce) xs) := Lib.hid (by have := hO.sl; rw [okept_cod] at this; exact this)
    clear hb hO
    have HC := Lib.hid (eq_kept d (fun b => b < w11.heap.size) _ _ xs w11 ((Hlm11.out).mono (fun b hb => by have := hb.1; have := hb.2; omega)) ((Hle11.out).mono (fun b hb => by have := hb.1; have := hb.2; omega)) fun b hb => hb)
    go_wp2_with fail
    refine HC.out.mono ?_
    rintro e w12 ⟨rfl, hb⟩
    clear HC
    have hz11 := hb.size
    have HV12 : Hid ((Cod.kept (Cod.val d)).Sl F w12 (.slice A xs.length cap) xs) := Lib.hid (HV11.out.keep fun b hb' => by have h1 := HF0.out b hb'; exact hb.block b (by omega))
    have HK12 : Hid (Cod.recs.Sl F w12 (.slice Ak ks.length ck) ks) := Lib.hid (HK11.out.keep fun b hb' => by have h1 := HF0.out b hb'; exact hb.block b (by omega))
    have Hkm12 : Hid (Cod.recs.Sl (fun b => w5.heap.size ≤ b ∧ b < w6.heap.size) w12 (.slice Km ks.length kcm) ks) := Lib.hid (Hkm11.out.keep fun b hb' => by have h1 := hb'.1; have h2 := hb'.2; exact hb.block b (by omega))
    have Hlm12 : Hid ((Cod.kept (Cod.val d)).Sl (fun b => w6.heap.size ≤ b ∧ b < w7.heap.size) w12 (.slice Lm xs.length lcm) xs) := Lib.hid (Hlm11.out.keep fun b hb' => by have h1 := hb'.1; have h2 := hb'.2; exact hb.block b (by omega))
    have HE12 := Lib.hid (HE11.out.trans (hb.mono (by omega)))
    clear hb
    go_wp2_with fail
    go_ret
    exact ⟨rfl, HE12.out⟩
end Go.Proofs.Ythkdkefkgmmoiaa
