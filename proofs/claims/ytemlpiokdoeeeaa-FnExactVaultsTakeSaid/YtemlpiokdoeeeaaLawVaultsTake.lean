/- Whatever the arguments, the exact law of VaultsTake answers true: the program's VaultsTake is the model's, leaves its arguments alone, and hands back memory of its own. -/
import Derived.Test.YtemlpiokdoeeeaaWn
import Derived.Test.YtemlpiokdoeeeaaWo
import Derived.Test.YtemlpiokdoeeeaaWl
import Derived.Test.YtemlpiokdoeeeaaTo
import Derived.Test.YtemlpiokdoeeeaaEq
namespace Go.Proofs.Ytemlpiokdoeeeaa
open Go.ChangeShapes Go.WideShapes Go.ChangeAt Go.RowKit Go.Deep
open Go.ChangeMaps (open_string shut_string)

theorem mkRS_pos (ks : Ks) (k : Nat) : k ≤ (markL mkRS ks k).2 := markL_le mkRS_le ks k

/-- What the program's VaultsTake does. -/
def ImplTake5 : Prop := ∀ (d : Nat) (F : Nat → Prop) (kv v : Value) (ks : Ks) (xs : List KepR) (o : Int) (t : ByteArray) (w : World), Cod.recs.Sl F w kv ks → (Cod.kept (Cod.val d)).Sl F w v xs → (∀ b, F b → b < w.heap.size) → VSmall ks d xs → t.size ≤ 1048576 → I64 o →
    Calls Try.prog 33 #[kv, v, .int .i64 o, .string t] w fun e w' => ∃ Av cv A cA B cB s1 e1 s2 e2, e = .returned (.tuple #[.slice Av (takeR ks d xs o t).1.length cv, .agg #[.string (takeR ks d xs o t).2.1.ty, .int .i64 (takeR ks d xs o t).2.1.n, .slice A (takeR ks d xs o t).2.1.parts.length cA, .slice B (takeR ks d xs o t).2.1.path.length cB], .bool (takeR ks d xs o t).2.2]) ∧
      w.heap.size ≤ s1 ∧ e1 ≤ w'.heap.size ∧ w.heap.size ≤ s2 ∧ e2 ≤ w'.heap.size ∧ (e1 ≤ s2 ∨ e2 ≤ s1) ∧ Own (OKept d) 35 s1 e1 w' (.slice Av (takeR ks d xs o t).1.length cv) (takeR ks d xs o t).1 ∧
      OV (OCod.val 31 3 d) 31 3 s2 e2 w' (.slice A (takeR ks d xs o t).2.1.parts.length cA) (.slice B (takeR ks d xs o t).2.1.path.length cB) (takeR ks d xs o t).2.1 ∧ Below w.heap.size w w'
theorem takeR_mark {ks : Ks} {d : Nat} {xs : List KepR} (h : VSmall ks d xs) (o : Int) (t : ByteArray) : (markL (mkKep d) (takeR ks d xs o t).1 1).2 ≤ 100000000 ∧ (mkTop (mkV d) (takeR ks d xs o t).2.1 (markL (mkKep d) (takeR ks d xs o t).1 1).2).2 ≤ 100000000 := by
  rw [mkTop_shift, mkKs_shift]
  unfold takeR
  cases hi : idxK ks d xs o t with
  | none => exact ⟨(by decide : (1 : Nat) ≤ 100000000), (by show 1 + cT d zeroV5 ≤ _; have : cT d zeroV5 = 0 := rfl; omega)⟩
  | some j =>
    obtain ⟨-, -, hj⟩ := idxK_some hi
    have h1 := sum_take_drop (cK d) xs j
    have h2 := h.sum
    have h3 := h.top (List.getElem_mem hj)
    simp only [getK hj]
    omega

set_option maxRecDepth 100000 in
set_option maxHeartbeats 16000000 in
theorem lawVaultsTake (himpl : ImplTake5) {d : Nat} (F : Nat → Prop) (kv v : Value) (ks : Ks) (xs : List KepR) (o : Int) (kind : ByteArray) (w : World) (hks : Cod.recs.Sl F w kv ks) (h : (Cod.kept (Cod.val d)).Sl F w v xs) (hF : ∀ b, F b → b < w.heap.size) (ho : I64 o) (hkd : kind.size ≤ maxLen) :
    Calls Try.prog 7 #[kv, v, .int .i64 o, .string kind] w fun e w' => e = .returned (.bool true) ∧ Below w.heap.size w w' := by
  obtain ⟨Ak, ck, rfl, _⟩ := id hks
  obtain ⟨A, cap, rfl, _⟩ := id h
  obtain ⟨w0, hw0⟩ : ∃ w0, w0 = w := ⟨_, rfl⟩
  subst hw0
  have HK0 := Lib.hid hks
  have HV0 := Lib.hid h
  have HF0 := Lib.hid hF
  have HE0 := Lib.hid (Below.refl w0.heap.size w0)
  unfold maxLen at hkd
  clear hF h hks
  by_cases hkl : 1048576 < kind.size
  · go_enter Try.func7, Try.ntmps7
    go_wp2
    go_ret
    exact ⟨rfl, HE0.out⟩
  have HC1 := Lib.hid (szRecordSS_any F _ ks 1048576 w0 HK0.out HF0.out (by omega) (by omega))
  by_cases hz : szS (szS szRec) ks 1048576 < 0
  · go_enter Try.func7, Try.ntmps7
    go_wp2_with (go_at_call 15; refine HC1.out.mono ?_; rintro e w1 ⟨rfl, hb⟩)
    go_ret
    exact ⟨rfl, hb⟩
  have hle := szS_le (szS_le szRec_le) ks 1048576 (by omega)
  by_cases hz2 : szS (szKep d) xs (szS (szS szRec) ks 1048576) < 0
  · go_enter Try.func7, Try.ntmps7
    go_wp2_with fail
    refine HC1.out.mono ?_
    rintro e w1 ⟨rfl, hb⟩
    have HC2 := Lib.hid (sz_kept d F _ xs (szS (szS szRec) ks 1048576) w1 (HV0.out.keep (below_keeps hb HF0.out)) (below_goF HF0.out hb) (by omega) (by omega))
    have HE1 := Lib.hid hb
    clear hb HC1
    go_wp2_with (go_at_call 16; refine HC2.out.mono ?_; rintro e w2 ⟨rfl, hb⟩)
    go_ret
    exact ⟨rfl, HE1.out.trans (hb.mono HE1.out.size)⟩
  · have HSm := Lib.hid (vsmall hz hz2)
    have HMF0 := takeR_mark HSm.out o kind
    have HSP0 := fun (F : Nat → Prop) (kv v : Value) (w : World) (h1 : Cod.recs.Sl F w kv ks) (h2 : (Cod.kept (Cod.val d)).Sl F w v xs) (h3 : ∀ b, F b → b < w.heap.size) => specVaultsTake_any d F kv v xs o kind w h1 h2 h3 HSm.out.xr
    have HIM0 := fun (F : Nat → Prop) (kv v : Value) (w : World) (h1 : Cod.recs.Sl F w kv ks) (h2 : (Cod.kept (Cod.val d)).Sl F w v xs) (h3 : ∀ b, F b → b < w.heap.size) => himpl d F kv v ks xs o kind w h1 h2 h3 HSm.out (by omega) ho
    unfold TakeD at HSP0
    obtain ⟨rr, hrr⟩ : ∃ rr, rr = takeR ks d xs o kind := ⟨_, rfl⟩
    rw [← hrr] at HMF0 HSP0 HIM0
    clear hrr
    obtain ⟨ys, r, bo⟩ := rr
    simp only at HMF0 HSP0 HIM0
    have HMR := Lib.hid HMF0.1
    have HMF := Lib.hid HMF0.2
    have HSP := Lib.hid HSP0
    have HIM := Lib.hid HIM0
    clear HMF0 HSP0 HIM0 himpl
    go_enter Try.func7, Try.ntmps7
    go_wp2_with fail
    refine HC1.out.mono ?_
    rintro e w1 ⟨rfl, hb⟩
    have hz0 := hb.size
    have HC2 := Lib.hid (sz_kept d F _ xs (szS (szS szRec) ks 1048576) w1 (HV0.out.keep (below_keeps hb HF0.out)) (below_goF HF0.out hb) (by omega) (by omega))
    have HK1 := Lib.hid (HK0.out.keep (below_keeps hb HF0.out))
    have HV1 := Lib.hid (HV0.out.keep (below_keeps hb HF0.out))
    have HE1 := Lib.hid hb
    clear hb HC1
    go_wp2_with fail
    refine HC2.out.mono ?_
    rintro e w2 ⟨rfl, hb⟩
    have hz1 := hb.size
    have HK2 := Lib.hid (HK1.out.keep (below_keeps hb (below_goF HF0.out HE1.out)))
    have HV2 := Lib.hid (HV1.out.keep (below_keeps hb (below_goF HF0.out HE1.out)))
    have HE2 := Lib.hid (HE1.out.trans (hb.mono HE1.out.size))
    clear hb HC2
    have HC := Lib.hid (toRecordSS_any F _ ks w2 HK2.out (fun b hb => by have := HF0.out b hb; omega) HSm.out.kn HSm.out.kr)
    go_wp2_with fail
    refine HC.out.mono ?_
    rintro e w3 ⟨Ks, kcs, rfl, hI, hb⟩
    clear HC
    have hz2 := hb.size
    have HV3 : Hid ((Cod.kept (Cod.val d)).Sl F w3 (.slice A xs.length cap) xs) := Lib.hid (HV2.out.keep fun b hb' => by have h1 := HF0.out b hb'; exact hb.block b (by omega))
    have HK3 : Hid (Cod.recs.Sl F w3 (.slice Ak ks.length ck) ks) := Lib.hid (HK2.out.keep fun b hb' => by have h1 := HF0.out b hb'; exact hb.block b (by omega))
    have HE3 := Lib.hid (HE2.out.trans (hb.mono (by omega)))
    have Hks3 : Hid (Cod.recs.Sl (fun b => w2.heap.size ≤ b ∧ b < w3.heap.size) w3 (.slice Ks ks.length kcs) ks) := Lib.hid hI
    clear hb hI
    have HC := Lib.hid (to_kept d F _ xs w3 (by rw [okept_cod]; exact HV3.out) (fun b hb => by have := HF0.out b hb; omega) (Nat.le_trans HSm.out.xn (by omega)) HSm.out.xr)
    go_wp2_with fail
    refine HC.out.mono ?_
    rintro e w4 ⟨Ls, lcs, rfl, hO, hb⟩
    clear HC
    have hz3 := hb.size
    have HV4 : Hid ((Cod.kept (Cod.val d)).Sl F w4 (.slice A xs.length cap) xs) := Lib.hid (HV3.out.keep fun b hb' => by have h1 := HF0.out b hb'; exact hb.block b (by omega))
    have HK4 : Hid (Cod.recs.Sl F w4 (.slice Ak ks.length ck) ks) := Lib.hid (HK3.out.keep fun b hb' => by have h1 := HF0.out b hb'; exact hb.block b (by omega))
    have Hks4 : Hid (Cod.recs.Sl (fun b => w2.heap.size ≤ b ∧ b < w3.heap.size) w4 (.slice Ks ks.length kcs) ks) := Lib.hid (Hks3.out.keep fun b hb' => by have h1 := hb'.1; have h2 := hb'.2; exact hb.block b (by omega))
    have HE4 := Lib.hid (HE3.out.trans (hb.mono (by omega)))
    have Hls4 : Hid ((Cod.kept (Cod.val d)).Sl (fun b => w3.heap.size ≤ b ∧ b < w4.heap.size) w4 (.slice Ls xs.length lcs) xs) := Lib.hid (by have := hO.sl; rw [okept_cod] at this; exact this)
    clear hb hO
    have HC := Lib.hid (HSP.out (fun b => b < w4.heap.size) _ _ w4 ((Hks4.out).mono (fun b hb => by have := hb.1; have := hb.2; omega)) ((Hls4.out).mono (fun b hb => by have := hb.1; have := hb.2; omega)) (fun b hb => hb))
    go_wp2_with fail
    refine HC.out.mono ?_
    rintro e w5 ⟨Ys, cys, As, vas, Bs, vbs, rfl, ⟨hR, hb⟩, ⟨hI, -⟩⟩
    clear HC
    have hz4 := hb.size
    have HV5 : Hid ((Cod.kept (Cod.val d)).Sl F w5 (.slice A xs.length cap) xs) := Lib.hid (HV4.out.keep fun b hb' => by have h1 := HF0.out b hb'; exact hb.block b (by omega))
    have HK5 : Hid (Cod.recs.Sl F w5 (.slice Ak ks.length ck) ks) := Lib.hid (HK4.out.keep fun b hb' => by have h1 := HF0.out b hb'; exact hb.block b (by omega))
    have HE5 := Lib.hid (HE4.out.trans (hb.mono (by omega)))
    have HS5 : Hid (VRd (Cod.val d) (fun b => w4.heap.size ≤ b ∧ b < w5.heap.size) w5 (.slice As r.parts.length vas) (.slice Bs r.path.length vbs) r) := Lib.hid hI
    have HR5 : Hid ((Cod.kept (Cod.val d)).Sl (fun b => w4.heap.size ≤ b ∧ b < w5.heap.size) w5 (.slice Ys ys.length cys) ys) := Lib.hid hR
    clear hb hI hR
    obtain ⟨w6, hw6⟩ : ∃ u, u = w5.alloc (.cells #[.string r.ty, .int .i64 r.n, .slice As r.parts.length vas, .slice Bs r.path.length vbs] 31) := ⟨_, rfl⟩
    have HXS6 := Lib.hid (show Blk w6 w5.heap.size 31 #[.string r.ty, .int .i64 r.n, .slice As r.parts.length vas, .slice Bs r.path.length vbs] by rw [hw6]; exact Blk.new _ _ _)
    have hb : Below w5.heap.size w5 w6 := by rw [hw6]; exact (Below.refl _ _).alloc (Nat.le_refl _) _
    have hy6 : w5.heap.size + 1 = w6.heap.size := by rw [hw6]; simp
    have Hw6 := Lib.hid hw6
    clear hw6
    have hz5 := hb.size
    have HV6 : Hid ((Cod.kept (Cod.val d)).Sl F w6 (.slice A xs.length cap) xs) := Lib.hid (HV5.out.keep fun b hb' => by have h1 := HF0.out b hb'; exact hb.block b (by omega))
    have HK6 : Hid (Cod.recs.Sl F w6 (.slice Ak ks.length ck) ks) := Lib.hid (HK5.out.keep fun b hb' => by have h1 := HF0.out b hb'; exact hb.block b (by omega))
    have HS6 : Hid (VRd (Cod.val d) (fun b => w4.heap.size ≤ b ∧ b < w5.heap.size) w6 (.slice As r.parts.length vas) (.slice Bs r.path.length vbs) r) := Lib.hid (HS5.out.keep fun b hb' => by have h1 := hb'.1; have h2 := hb'.2; exact hb.block b (by omega))
    have HR6 : Hid ((Cod.kept (Cod.val d)).Sl (fun b => w4.heap.size ≤ b ∧ b < w5.heap.size) w6 (.slice Ys ys.length cys) ys) := Lib.hid (HR5.out.keep fun b hb' => by have h1 := hb'.1; have h2 := hb'.2; exact hb.block b (by omega))
    have HE6 := Lib.hid (HE5.out.trans (hb.mono (by omega)))
    clear hb
    have HC := Lib.hid (toRecordSS_own F _ ks w6 HK6.out (fun b hb => by have := HF0.out b hb; omega) HSm.out.kn HSm.out.kr)
    go_wp2_with fail
    rw [← Hw6.out]
    refine HC.out.mono ?_
    rintro e w7 ⟨Km, kcm, rfl, hO, hb⟩
    clear HC
    have hz6 := hb.size
    have HV7 : Hid ((Cod.kept (Cod.val d)).Sl F w7 (.slice A xs.length cap) xs) := Lib.hid (HV6.out.keep fun b hb' => by have h1 := HF0.out b hb'; exact hb.block b (by omega))
    have HK7 : Hid (Cod.recs.Sl F w7 (.slice Ak ks.length ck) ks) := Lib.hid (HK6.out.keep fun b hb' => by have h1 := HF0.out b hb'; exact hb.block b (by omega))
    have HS7 : Hid (VRd (Cod.val d) (fun b => w4.heap.size ≤ b ∧ b < w5.heap.size) w7 (.slice As r.parts.length vas) (.slice Bs r.path.length vbs) r) := Lib.hid (HS6.out.keep fun b hb' => by have h1 := hb'.1; have h2 := hb'.2; exact hb.block b (by omega))
    have HR7 : Hid ((Cod.kept (Cod.val d)).Sl (fun b => w4.heap.size ≤ b ∧ b < w5.heap.size) w7 (.slice Ys ys.length cys) ys) := Lib.hid (HR6.out.keep fun b hb' => by have h1 := hb'.1; have h2 := hb'.2; exact hb.block b (by omega))
    have HXS7 : Hid (Blk w7 w5.heap.size 31 #[.string r.ty, .int .i64 r.n, .slice As r.parts.length vas, .slice Bs r.path.length vbs]) := Lib.hid ((hb.block (w5.heap.size) (by omega)).trans HXS6.out)
    have HE7 := Lib.hid (HE6.out.trans (hb.mono (by omega)))
    have HOkm7 : Hid (Own ((OCod.rec_ 9).row 112) 85 w6.heap.size w7.heap.size w7 (.slice Km ks.length kcm) ks) := Lib.hid hO
    clear hb hO
    have HC := Lib.hid (to_kept d F _ xs w7 (by rw [okept_cod]; exact HV7.out) (fun b hb => by have := HF0.out b hb; omega) (Nat.le_trans HSm.out.xn (by omega)) HSm.out.xr)
    go_wp2_with fail
    refine HC.out.mono ?_
    rintro e w8 ⟨Lm, lcm, rfl, hO, hb⟩
    clear HC
    have hz7 := hb.size
    have HV8 : Hid ((Cod.kept (Cod.val d)).Sl F w8 (.slice A xs.length cap) xs) := Lib.hid (HV7.out.keep fun b hb' => by have h1 := HF0.out b hb'; exact hb.block b (by omega))
    have HK8 : Hid (Cod.recs.Sl F w8 (.slice Ak ks.length ck) ks) := Lib.hid (HK7.out.keep fun b hb' => by have h1 := HF0.out b hb'; exact hb.block b (by omega))
    have HS8 : Hid (VRd (Cod.val d) (fun b => w4.heap.size ≤ b ∧ b < w5.heap.size) w8 (.slice As r.parts.length vas) (.slice Bs r.path.length vbs) r) := Lib.hid (HS7.out.keep fun b hb' => by have h1 := hb'.1; have h2 := hb'.2; exact hb.block b (by omega))
    have HR8 : Hid ((Cod.kept (Cod.val d)).Sl (fun b => w4.heap.size ≤ b ∧ b < w5.heap.size) w8 (.slice Ys ys.length cys) ys) := Lib.hid (HR7.out.keep fun b hb' => by have h1 := hb'.1; have h2 := hb'.2; exact hb.block b (by omega))
    have HXS8 : Hid (Blk w8 w5.heap.size 31 #[.string r.ty, .int .i64 r.n, .slice As r.parts.length vas, .slice Bs r.path.length vbs]) := Lib.hid ((hb.block (w5.heap.size) (by omega)).trans HXS7.out)
    have HOkm8 : Hid (Own ((OCod.rec_ 9).row 112) 85 w6.heap.size w7.heap.size w8 (.slice Km ks.length kcm) ks) := Lib.hid (HOkm7.out.keep fun b g1 g2 => hb.block b (by omega))
    have HE8 := Lib.hid (HE7.out.trans (hb.mono (by omega)))
    have HOlm8 : Hid (Own (OKept d) 35 w7.heap.size w8.heap.size w8 (.slice Lm xs.length lcm) xs) := Lib.hid hO
    clear hb hO
    have HC := Lib.hid (HIM.out (fun b => b < w8.heap.size) _ _ w8 ((HOkm8.out.sl).mono (fun b hb => by have := hb.1; have := hb.2; omega)) (((show (Cod.kept (Cod.val d)).Sl _ _ _ _ by have := HOlm8.out.sl; rw [okept_cod] at this; exact this)).mono (fun b hb => by have := hb.1; have := hb.2; omega)) (fun b hb => hb))
    go_wp2_with fail
    refine HC.out.mono ?_
    rintro e w9 ⟨Yg, cyg, Ag, vag, Bg, vbg, s1g, e1g, s2g, e2g, rfl, q1g, q2g, q3g, q4g, q5g, hO1, hO2, hb⟩
    clear HC
    have hz8 := hb.size
    have HV9 : Hid ((Cod.kept (Cod.val d)).Sl F w9 (.slice A xs.length cap) xs) := Lib.hid (HV8.out.keep fun b hb' => by have h1 := HF0.out b hb'; exact hb.block b (by omega))
    have HK9 : Hid (Cod.recs.Sl F w9 (.slice Ak ks.length ck) ks) := Lib.hid (HK8.out.keep fun b hb' => by have h1 := HF0.out b hb'; exact hb.block b (by omega))
    have HS9 : Hid (VRd (Cod.val d) (fun b => w4.heap.size ≤ b ∧ b < w5.heap.size) w9 (.slice As r.parts.length vas) (.slice Bs r.path.length vbs) r) := Lib.hid (HS8.out.keep fun b hb' => by have h1 := hb'.1; have h2 := hb'.2; exact hb.block b (by omega))
    have HR9 : Hid ((Cod.kept (Cod.val d)).Sl (fun b => w4.heap.size ≤ b ∧ b < w5.heap.size) w9 (.slice Ys ys.length cys) ys) := Lib.hid (HR8.out.keep fun b hb' => by have h1 := hb'.1; have h2 := hb'.2; exact hb.block b (by omega))
    have HXS9 : Hid (Blk w9 w5.heap.size 31 #[.string r.ty, .int .i64 r.n, .slice As r.parts.length vas, .slice Bs r.path.length vbs]) := Lib.hid ((hb.block (w5.heap.size) (by omega)).trans HXS8.out)
    have HOkm9 : Hid (Own ((OCod.rec_ 9).row 112) 85 w6.heap.size w7.heap.size w9 (.slice Km ks.length kcm) ks) := Lib.hid (HOkm8.out.keep fun b g1 g2 => hb.block b (by omega))
    have HOlm9 : Hid (Own (OKept d) 35 w7.heap.size w8.heap.size w9 (.slice Lm xs.length lcm) xs) := Lib.hid (HOlm8.out.keep fun b g1 g2 => hb.block b (by omega))
    have HE9 := Lib.hid (HE8.out.trans (hb.mono (by omega)))
    have HOrg9 : Hid (Own (OKept d) 35 s1g e1g w9 (.slice Yg ys.length cyg) ys) := Lib.hid hO1
    have HOvg9 : Hid (OV (OCod.val 31 3 d) 31 3 s2g e2g w9 (.slice Ag r.parts.length vag) (.slice Bg r.path.length vbg) r) := Lib.hid hO2
    clear hb hO1 hO2
    obtain ⟨w10, hw10⟩ : ∃ u, u = w9.alloc (.cells #[.string r.ty, .int .i64 r.n, .slice Ag r.parts.length vag, .slice Bg r.path.length vbg] 31) := ⟨_, rfl⟩
    have HXG10 := Lib.hid (show Blk w10 w9.heap.size 31 #[.string r.ty, .int .i64 r.n, .slice Ag r.parts.length vag, .slice Bg r.path.length vbg] by rw [hw10]; exact Blk.new _ _ _)
    have hb : Below w9.heap.size w9 w10 := by rw [hw10]; exact (Below.refl _ _).alloc (Nat.le_refl _) _
    have hy10 : w9.heap.size + 1 = w10.heap.size := by rw [hw10]; simp
    have Hw10 := Lib.hid hw10
    clear hw10
    have hz9 := hb.size
    have HV10 : Hid ((Cod.kept (Cod.val d)).Sl F w10 (.slice A xs.length cap) xs) := Lib.hid (HV9.out.keep fun b hb' => by have h1 := HF0.out b hb'; exact hb.block b (by omega))
    have HK10 : Hid (Cod.recs.Sl F w10 (.slice Ak ks.length ck) ks) := Lib.hid (HK9.out.keep fun b hb' => by have h1 := HF0.out b hb'; exact hb.block b (by omega))
    have HS10 : Hid (VRd (Cod.val d) (fun b => w4.heap.size ≤ b ∧ b < w5.heap.size) w10 (.slice As r.parts.length vas) (.slice Bs r.path.length vbs) r) := Lib.hid (HS9.out.keep fun b hb' => by have h1 := hb'.1; have h2 := hb'.2; exact hb.block b (by omega))
    have HR10 : Hid ((Cod.kept (Cod.val d)).Sl (fun b => w4.heap.size ≤ b ∧ b < w5.heap.size) w10 (.slice Ys ys.length cys) ys) := Lib.hid (HR9.out.keep fun b hb' => by have h1 := hb'.1; have h2 := hb'.2; exact hb.block b (by omega))
    have HXS10 : Hid (Blk w10 w5.heap.size 31 #[.string r.ty, .int .i64 r.n, .slice As r.parts.length vas, .slice Bs r.path.length vbs]) := Lib.hid ((hb.block (w5.heap.size) (by omega)).trans HXS9.out)
    have HOkm10 : Hid (Own ((OCod.rec_ 9).row 112) 85 w6.heap.size w7.heap.size w10 (.slice Km ks.length kcm) ks) := Lib.hid (HOkm9.out.keep fun b g1 g2 => hb.block b (by omega))
    have HOlm10 : Hid (Own (OKept d) 35 w7.heap.size w8.heap.size w10 (.slice Lm xs.length lcm) xs) := Lib.hid (HOlm9.out.keep fun b g1 g2 => hb.block b (by omega))
    have HOrg10 : Hid (Own (OKept d) 35 s1g e1g w10 (.slice Yg ys.length cyg) ys) := Lib.hid (HOrg9.out.keep fun b g1 g2 => hb.block b (by omega))
    have HOvg10 : Hid (OV (OCod.val 31 3 d) 31 3 s2g e2g w10 (.slice Ag r.parts.length vag) (.slice Bg r.path.length vbg) r) := Lib.hid (HOvg9.out.keep fun b g1 g2 => hb.block b (by omega))
    have HE10 := Lib.hid (HE9.out.trans (hb.mono (by omega)))
    clear hb
    have HC := Lib.hid (eq_kept d (fun b => b < w10.heap.size) _ _ ys w10 (((show (Cod.kept (Cod.val d)).Sl _ _ _ _ by have := HOrg10.out.sl; rw [okept_cod] at this; exact this)).mono (fun b hb => by have := hb.1; have := hb.2; omega)) ((HR10.out).mono (fun b hb => by have := hb.1; have := hb.2; omega)) fun b hb => hb)
    go_wp2_with fail
    rw [← Hw10.out]
    refine HC.out.mono ?_
    rintro e w11 ⟨rfl, hb⟩
    clear HC
    have hz10 := hb.size
    have HV11 : Hid ((Cod.kept (Cod.val d)).Sl F w11 (.slice A xs.length cap) xs) := Lib.hid (HV10.out.keep fun b hb' => by have h1 := HF0.out b hb'; exact hb.block b (by omega))
    have HK11 : Hid (Cod.recs.Sl F w11 (.slice Ak ks.length ck) ks) := Lib.hid (HK10.out.keep fun b hb' => by have h1 := HF0.out b hb'; exact hb.block b (by omega))
    have HS11 : Hid (VRd (Cod.val d) (fun b => w4.heap.size ≤ b ∧ b < w5.heap.size) w11 (.slice As r.parts.length vas) (.slice Bs r.path.length vbs) r) := Lib.hid (HS10.out.keep fun b hb' => by have h1 := hb'.1; have h2 := hb'.2; exact hb.block b (by omega))
    have HR11 : Hid ((Cod.kept (Cod.val d)).Sl (fun b => w4.heap.size ≤ b ∧ b < w5.heap.size) w11 (.slice Ys ys.length cys) ys) := Lib.hid (HR10.out.keep fun b hb' => by have h1 := hb'.1; have h2 := hb'.2; exact hb.block b (by omega))
    have HXS11 : Hid (Blk w11 w5.heap.size 31 #[.string r.ty, .int .i64 r.n, .slice As r.parts.length vas, .slice Bs r.path.length vbs]) := Lib.hid ((hb.block (w5.heap.size) (by omega)).trans HXS10.out)
    have HOkm11 : Hid (Own ((OCod.rec_ 9).row 112) 85 w6.heap.size w7.heap.size w11 (.slice Km ks.length kcm) ks) := Lib.hid (HOkm10.out.keep fun b g1 g2 => hb.block b (by omega))
    have HOlm11 : Hid (Own (OKept d) 35 w7.heap.size w8.heap.size w11 (.slice Lm xs.length lcm) xs) := Lib.hid (HOlm10.out.keep fun b g1 g2 => hb.block b (by omega))
    have HOrg11 : Hid (Own (OKept d) 35 s1g e1g w11 (.slice Yg ys.length cyg) ys) := Lib.hid (HOrg10.out.keep fun b g1 g2 => hb.block b (by omega))
    have HOvg11 : Hid (OV (OCod.val 31 3 d) 31 3 s2g e2g w11 (.slice Ag r.parts.length vag) (.slice Bg r.path.length vbg) r) := Lib.hid (HOvg10.out.keep fun b g1 g2 => hb.block b (by omega))
    have HXG11 : Hid (Blk w11 w9.heap.size 31 #[.string r.ty, .int .i64 r.n, .slice Ag r.parts.length vag, .slice Bg r.path.length vbg]) := Lib.hid ((hb.block (w9.heap.size) (by omega)).trans HXG10.out)
    have HE11 := Lib.hid (HE10.out.trans (hb.mono (by omega)))
    clear hb
    have HC := Lib.hid (eqValue_any d (fun b => b < w11.heap.size) (.slice Ag r.parts.length vag) (.slice Bg r.path.length vbg) (.slice As r.parts.length vas) (.slice Bs r.path.length vbs) r w11 (((show VRd (Cod.val d) _ _ _ _ _ by have := HOvg11.out.rd; rw [OCod.val_cod] at this; exact this)).mono (fun b hb => by have := hb.1; have := hb.2; omega)) ((HS11.out).mono (fun b hb => by have := hb.1; have := hb.2; omega)) fun b hb => hb)
    obtain ⟨p0, p1, p2, p3⟩ := HXG11.out.c2
    obtain ⟨q0, q1, q2, q3⟩ := HXS11.out.c2
    go_wp2_with fail
    refine HC.out.mono ?_
    rintro e w12 ⟨rfl, hb⟩
    clear HC p0 p1 p2 p3 q0 q1 q2 q3
    have hz11 := hb.size
    have HV12 : Hid ((Cod.kept (Cod.val d)).Sl F w12 (.slice A xs.length cap) xs) := Lib.hid (HV11.out.keep fun b hb' => by have h1 := HF0.out b hb'; exact hb.block b (by omega))
    have HK12 : Hid (Cod.recs.Sl F w12 (.slice Ak ks.length ck) ks) := Lib.hid (HK11.out.keep fun b hb' => by have h1 := HF0.out b hb'; exact hb.block b (by omega))
    have HS12 : Hid (VRd (Cod.val d) (fun b => w4.heap.size ≤ b ∧ b < w5.heap.size) w12 (.slice As r.parts.length vas) (.slice Bs r.path.length vbs) r) := Lib.hid (HS11.out.keep fun b hb' => by have h1 := hb'.1; have h2 := hb'.2; exact hb.block b (by omega))
    have HR12 : Hid ((Cod.kept (Cod.val d)).Sl (fun b => w4.heap.size ≤ b ∧ b < w5.heap.size) w12 (.slice Ys ys.length cys) ys) := Lib.hid (HR11.out.keep fun b hb' => by have h1 := hb'.1; have h2 := hb'.2; exact hb.block b (by omega))
    have HXS12 : Hid (Blk w12 w5.heap.size 31 #[.string r.ty, .int .i64 r.n, .slice As r.parts.length vas, .slice Bs r.path.length vbs]) := Lib.hid ((hb.block (w5.heap.size) (by omega)).trans HXS11.out)
    have HOkm12 : Hid (Own ((OCod.rec_ 9).row 112) 85 w6.heap.size w7.heap.size w12 (.slice Km ks.length kcm) ks) := Lib.hid (HOkm11.out.keep fun b g1 g2 => hb.block b (by omega))
    have HOlm12 : Hid (Own (OKept d) 35 w7.heap.size w8.heap.size w12 (.slice Lm xs.length lcm) xs) := Lib.hid (HOlm11.out.keep fun b g1 g2 => hb.block b (by omega))
    have HOrg12 : Hid (Own (OKept d) 35 s1g e1g w12 (.slice Yg ys.length cyg) ys) := Lib.hid (HOrg11.out.keep fun b g1 g2 => hb.block b (by omega))
    have HOvg12 : Hid (OV (OCod.val 31 3 d) 31 3 s2g e2g w12 (.slice Ag r.parts.length vag) (.slice Bg r.path.length vbg) r) := Lib.hid (HOvg11.out.keep fun b g1 g2 => hb.block b (by omega))
    have HXG12 : Hid (Blk w12 w9.heap.size 31 #[.string r.ty, .int .i64 r.n, .slice Ag r.parts.length vag, .slice Bg r.path.length vbg]) := Lib.hid ((hb.block (w9.heap.size) (by omega)).trans HXG11.out)
    have HE12 := Lib.hid (HE11.out.trans (hb.mono (by omega)))
    clear hb
    have HC := Lib.hid (toRecordSS_any F _ ks w12 HK12.out (fun b hb => by have := HF0.out b hb; omega) HSm.out.kn HSm.out.kr)
    go_wp2_with fail
    refine HC.out.mono ?_
    rintro e w13 ⟨Ke, kce, rfl, hI, hb⟩
    clear HC
    have hz12 := hb.size
    have HV13 : Hid ((Cod.kept (Cod.val d)).Sl F w13 (.slice A xs.length cap) xs) := Lib.hid (HV12.out.keep fun b hb' => by have h1 := HF0.out b hb'; exact hb.block b (by omega))
    have HK13 : Hid (Cod.recs.Sl F w13 (.slice Ak ks.length ck) ks) := Lib.hid (HK12.out.keep fun b hb' => by have h1 := HF0.out b hb'; exact hb.block b (by omega))
    have HS13 : Hid (VRd (Cod.val d) (fun b => w4.heap.size ≤ b ∧ b < w5.heap.size) w13 (.slice As r.parts.length vas) (.slice Bs r.path.length vbs) r) := Lib.hid (HS12.out.keep fun b hb' => by have h1 := hb'.1; have h2 := hb'.2; exact hb.block b (by omega))
    have HR13 : Hid ((Cod.kept (Cod.val d)).Sl (fun b => w4.heap.size ≤ b ∧ b < w5.heap.size) w13 (.slice Ys ys.length cys) ys) := Lib.hid (HR12.out.keep fun b hb' => by have h1 := hb'.1; have h2 := hb'.2; exact hb.block b (by omega))
    have HXS13 : Hid (Blk w13 w5.heap.size 31 #[.string r.ty, .int .i64 r.n, .slice As r.parts.length vas, .slice Bs r.path.length vbs]) := Lib.hid ((hb.block (w5.heap.size) (by omega)).trans HXS12.out)
    have HOkm13 : Hid (Own ((OCod.rec_ 9).row 112) 85 w6.heap.size w7.heap.size w13 (.slice Km ks.length kcm) ks) := Lib.hid (HOkm12.out.keep fun b g1 g2 => hb.block b (by omega))
    have HOlm13 : Hid (Own (OKept d) 35 w7.heap.size w8.heap.size w13 (.slice Lm xs.length lcm) xs) := Lib.hid (HOlm12.out.keep fun b g1 g2 => hb.block b (by omega))
    have HOrg13 : Hid (Own (OKept d) 35 s1g e1g w13 (.slice Yg ys.length cyg) ys) := Lib.hid (HOrg12.out.keep fun b g1 g2 => hb.block b (by omega))
    have HOvg13 : Hid (OV (OCod.val 31 3 d) 31 3 s2g e2g w13 (.slice Ag r.parts.length vag) (.slice Bg r.path.length vbg) r) := Lib.hid (HOvg12.out.keep fun b g1 g2 => hb.block b (by omega))
    have HXG13 : Hid (Blk w13 w9.heap.size 31 #[.string r.ty, .int .i64 r.n, .slice Ag r.parts.length vag, .slice Bg r.path.length vbg]) := Lib.hid ((hb.block (w9.heap.size) (by omega)).trans HXG12.out)
    have HE13 := Lib.hid (HE12.out.trans (hb.mono (by omega)))
    have Hke13 : Hid (Cod.recs.Sl (fun b => w12.heap.size ≤ b ∧ b < w13.heap.size) w13 (.slice Ke ks.length kce) ks) := Lib.hid hI
    clear hb hI
    have HC := Lib.hid (eqRecordSS_any (fun b => b < w13.heap.size) _ _ ks w13 ((HOkm13.out.sl).mono (fun b hb => by have := hb.1; have := hb.2; omega)) ((Hke13.out).mono (fun b hb => by have := hb.1; have := hb.2; omega)) fun b hb => hb)
    go_wp2_with fail
    refine HC.out.mono ?_
    rintro e w14 ⟨rfl, hb⟩
    clear HC
    have hz13 := hb.size
    have HV14 : Hid ((Cod.kept (Cod.val d)).Sl F w14 (.slice A xs.length cap) xs) := Lib.hid (HV13.out.keep fun b hb' => by have h1 := HF0.out b hb'; exact hb.block b (by omega))
    have HK14 : Hid (Cod.recs.Sl F w14 (.slice Ak ks.length ck) ks) := Lib.hid (HK13.out.keep fun b hb' => by have h1 := HF0.out b hb'; exact hb.block b (by omega))
    have HS14 : Hid (VRd (Cod.val d) (fun b => w4.heap.size ≤ b ∧ b < w5.heap.size) w14 (.slice As r.parts.length vas) (.slice Bs r.path.length vbs) r) := Lib.hid (HS13.out.keep fun b hb' => by have h1 := hb'.1; have h2 := hb'.2; exact hb.block b (by omega))
    have HR14 : Hid ((Cod.kept (Cod.val d)).Sl (fun b => w4.heap.size ≤ b ∧ b < w5.heap.size) w14 (.slice Ys ys.length cys) ys) := Lib.hid (HR13.out.keep fun b hb' => by have h1 := hb'.1; have h2 := hb'.2; exact hb.block b (by omega))
    have HXS14 : Hid (Blk w14 w5.heap.size 31 #[.string r.ty, .int .i64 r.n, .slice As r.parts.length vas, .slice Bs r.path.length vbs]) := Lib.hid ((hb.block (w5.heap.size) (by omega)).trans HXS13.out)
    have HOkm14 : Hid (Own ((OCod.rec_ 9).row 112) 85 w6.heap.size w7.heap.size w14 (.slice Km ks.length kcm) ks) := Lib.hid (HOkm13.out.keep fun b g1 g2 => hb.block b (by omega))
    have HOlm14 : Hid (Own (OKept d) 35 w7.heap.size w8.heap.size w14 (.slice Lm xs.length lcm) xs) := Lib.hid (HOlm13.out.keep fun b g1 g2 => hb.block b (by omega))
    have HOrg14 : Hid (Own (OKept d) 35 s1g e1g w14 (.slice Yg ys.length cyg) ys) := Lib.hid (HOrg13.out.keep fun b g1 g2 => hb.block b (by omega))
    have HOvg14 : Hid (OV (OCod.val 31 3 d) 31 3 s2g e2g w14 (.slice Ag r.parts.length vag) (.slice Bg r.path.length vbg) r) := Lib.hid (HOvg13.out.keep fun b g1 g2 => hb.block b (by omega))
    have HXG14 : Hid (Blk w14 w9.heap.size 31 #[.string r.ty, .int .i64 r.n, .slice Ag r.parts.length vag, .slice Bg r.path.length vbg]) := Lib.hid ((hb.block (w9.heap.size) (by omega)).trans HXG13.out)
    have HE14 := Lib.hid (HE13.out.trans (hb.mono (by omega)))
    clear hb
    have HC := Lib.hid (to_kept d F _ xs w14 (by rw [okept_cod]; exact HV14.out) (fun b hb => by have := HF0.out b hb; omega) (Nat.le_trans HSm.out.xn (by omega)) HSm.out.xr)
    go_wp2_with fail
    refine HC.out.mono ?_
    rintro e w15 ⟨Le, lce, rfl, hO, hb⟩
    clear HC
    have hz14 := hb.size
    have HV15 : Hid ((Cod.kept (Cod.val d)).Sl F w15 (.slice A xs.length cap) xs) := Lib.hid (HV14.out.keep fun b hb' => by have h1 := HF0.out b hb'; exact hb.block b (by omega))
    have HK15 : Hid (Cod.recs.Sl F w15 (.slice Ak ks.length ck) ks) := Lib.hid (HK14.out.keep fun b hb' => by have h1 := HF0.out b hb'; exact hb.block b (by omega))
    have HS15 : Hid (VRd (Cod.val d) (fun b => w4.heap.size ≤ b ∧ b < w5.heap.size) w15 (.slice As r.parts.length vas) (.slice Bs r.path.length vbs) r) := Lib.hid (HS14.out.keep fun b hb' => by have h1 := hb'.1; have h2 := hb'.2; exact hb.block b (by omega))
    have HR15 : Hid ((Cod.kept (Cod.val d)).Sl (fun b => w4.heap.size ≤ b ∧ b < w5.heap.size) w15 (.slice Ys ys.length cys) ys) := Lib.hid (HR14.out.keep fun b hb' => by have h1 := hb'.1; have h2 := hb'.2; exact hb.block b (by omega))
    have HXS15 : Hid (Blk w15 w5.heap.size 31 #[.string r.ty, .int .i64 r.n, .slice As r.parts.length vas, .slice Bs r.path.length vbs]) := Lib.hid ((hb.block (w5.heap.size) (by omega)).trans HXS14.out)
    have HOkm15 : Hid (Own ((OCod.rec_ 9).row 112) 85 w6.heap.size w7.heap.size w15 (.slice Km ks.length kcm) ks) := Lib.hid (HOkm14.out.keep fun b g1 g2 => hb.block b (by omega))
    have HOlm15 : Hid (Own (OKept d) 35 w7.heap.size w8.heap.size w15 (.slice Lm xs.length lcm) xs) := Lib.hid (HOlm14.out.keep fun b g1 g2 => hb.block b (by omega))
    have HOrg15 : Hid (Own (OKept d) 35 s1g e1g w15 (.slice Yg ys.length cyg) ys) := Lib.hid (HOrg14.out.keep fun b g1 g2 => hb.block b (by omega))
    have HOvg15 : Hid (OV (OCod.val 31 3 d) 31 3 s2g e2g w15 (.slice Ag r.parts.length vag) (.slice Bg r.path.length vbg) r) := Lib.hid (HOvg14.out.keep fun b g1 g2 => hb.block b (by omega))
    have HXG15 : Hid (Blk w15 w9.heap.size 31 #[.string r.ty, .int .i64 r.n, .slice Ag r.parts.length vag, .slice Bg r.path.length vbg]) := Lib.hid ((hb.block (w9.heap.size) (by omega)).trans HXG14.out)
    have HE15 := Lib.hid (HE14.out.trans (hb.mono (by omega)))
    have Hle15 : Hid ((Cod.kept (Cod.val d)).Sl (fun b => w14.heap.size ≤ b ∧ b < w15.heap.size) w15 (.slice Le xs.length lce) xs) := Lib.hid (by have := hO.sl; rw [okept_cod] at this; exact this)
    clear hb hO
    have HC := Lib.hid (eq_kept d (fun b => b < w15.heap.size) _ _ xs w15 (((show (Cod.kept (Cod.val d)).Sl _ _ _ _ by have := HOlm15.out.sl; rw [okept_cod] at this; exact this)).mono (fun b hb => by have := hb.1; have := hb.2; omega)) ((Hle15.out).mono (fun b hb => by have := hb.1; have := hb.2; omega)) fun b hb => hb)
    go_wp2_with fail
    refine HC.out.mono ?_
    rintro e w16 ⟨rfl, hb⟩
    clear HC
    have hz15 := hb.size
    have HV16 : Hid ((Cod.kept (Cod.val d)).Sl F w16 (.slice A xs.length cap) xs) := Lib.hid (HV15.out.keep fun b hb' => by have h1 := HF0.out b hb'; exact hb.block b (by omega))
    have HK16 : Hid (Cod.recs.Sl F w16 (.slice Ak ks.length ck) ks) := Lib.hid (HK15.out.keep fun b hb' => by have h1 := HF0.out b hb'; exact hb.block b (by omega))
    have HS16 : Hid (VRd (Cod.val d) (fun b => w4.heap.size ≤ b ∧ b < w5.heap.size) w16 (.slice As r.parts.length vas) (.slice Bs r.path.length vbs) r) := Lib.hid (HS15.out.keep fun b hb' => by have h1 := hb'.1; have h2 := hb'.2; exact hb.block b (by omega))
    have HR16 : Hid ((Cod.kept (Cod.val d)).Sl (fun b => w4.heap.size ≤ b ∧ b < w5.heap.size) w16 (.slice Ys ys.length cys) ys) := Lib.hid (HR15.out.keep fun b hb' => by have h1 := hb'.1; have h2 := hb'.2; exact hb.block b (by omega))
    have HXS16 : Hid (Blk w16 w5.heap.size 31 #[.string r.ty, .int .i64 r.n, .slice As r.parts.length vas, .slice Bs r.path.length vbs]) := Lib.hid ((hb.block (w5.heap.size) (by omega)).trans HXS15.out)
    have HOkm16 : Hid (Own ((OCod.rec_ 9).row 112) 85 w6.heap.size w7.heap.size w16 (.slice Km ks.length kcm) ks) := Lib.hid (HOkm15.out.keep fun b g1 g2 => hb.block b (by omega))
    have HOlm16 : Hid (Own (OKept d) 35 w7.heap.size w8.heap.size w16 (.slice Lm xs.length lcm) xs) := Lib.hid (HOlm15.out.keep fun b g1 g2 => hb.block b (by omega))
    have HOrg16 : Hid (Own (OKept d) 35 s1g e1g w16 (.slice Yg ys.length cyg) ys) := Lib.hid (HOrg15.out.keep fun b g1 g2 => hb.block b (by omega))
    have HOvg16 : Hid (OV (OCod.val 31 3 d) 31 3 s2g e2g w16 (.slice Ag r.parts.length vag) (.slice Bg r.path.length vbg) r) := Lib.hid (HOvg15.out.keep fun b g1 g2 => hb.block b (by omega))
    have HXG16 : Hid (Blk w16 w9.heap.size 31 #[.string r.ty, .int .i64 r.n, .slice Ag r.parts.length vag, .slice Bg r.path.length vbg]) := Lib.hid ((hb.block (w9.heap.size) (by omega)).trans HXG15.out)
    have HE16 := Lib.hid (HE15.out.trans (hb.mono (by omega)))
    clear hb
    have HC := Lib.hid (markRecordSS_any w6.heap.size w7.heap.size 1 _ ks w16 HOkm16.out (by omega) (by omega) (Nat.le_trans HSm.out.mks (by omega)))
    go_wp2_with fail
    refine HC.out.mono ?_
    rintro e w17 ⟨rfl, hO, hW⟩
    clear HC
    have hz16 := hW.size
    have HV17 : Hid ((Cod.kept (Cod.val d)).Sl F w17 (.slice A xs.length cap) xs) := Lib.hid (HV16.out.keep fun b hb' => by have h1 := HF0.out b hb'; exact hW.block b (by omega) (by omega))
    have HK17 : Hid (Cod.recs.Sl F w17 (.slice Ak ks.length ck) ks) := Lib.hid (HK16.out.keep fun b hb' => by have h1 := HF0.out b hb'; exact hW.block b (by omega) (by omega))
    have HS17 : Hid (VRd (Cod.val d) (fun b => w4.heap.size ≤ b ∧ b < w5.heap.size) w17 (.slice As r.parts.length vas) (.slice Bs r.path.length vbs) r) := Lib.hid (HS16.out.keep fun b hb' => by have h1 := hb'.1; have h2 := hb'.2; exact hW.block b (by omega) (by omega))
    have HR17 : Hid ((Cod.kept (Cod.val d)).Sl (fun b => w4.heap.size ≤ b ∧ b < w5.heap.size) w17 (.slice Ys ys.length cys) ys) := Lib.hid (HR16.out.keep fun b hb' => by have h1 := hb'.1; have h2 := hb'.2; exact hW.block b (by omega) (by omega))
    have HXS17 : Hid (Blk w17 w5.heap.size 31 #[.string r.ty, .int .i64 r.n, .slice As r.parts.length vas, .slice Bs r.path.length vbs]) := Lib.hid ((hW.block (w5.heap.size) (by omega) (by omega)).trans HXS16.out)
    have HOlm17 : Hid (Own (OKept d) 35 w7.heap.size w8.heap.size w17 (.slice Lm xs.length lcm) xs) := Lib.hid (HOlm16.out.keep fun b g1 g2 => hW.block b (by omega) (by omega))
    have HOrg17 : Hid (Own (OKept d) 35 s1g e1g w17 (.slice Yg ys.length cyg) ys) := Lib.hid (HOrg16.out.keep fun b g1 g2 => hW.block b (by omega) (by omega))
    have HOvg17 : Hid (OV (OCod.val 31 3 d) 31 3 s2g e2g w17 (.slice Ag r.parts.length vag) (.slice Bg r.path.length vbg) r) := Lib.hid (HOvg16.out.keep fun b g1 g2 => hW.block b (by omega) (by omega))
    have HXG17 : Hid (Blk w17 w9.heap.size 31 #[.string r.ty, .int .i64 r.n, .slice Ag r.parts.length vag, .slice Bg r.path.length vbg]) := Lib.hid ((hW.block (w9.heap.size) (by omega) (by omega)).trans HXG16.out)
    have HE17 := Lib.hid (HE16.out.trans (Wrote.to_below hW (by omega) (by omega)))
    clear hW hO
    have HC := Lib.hid (mark_kept d w7.heap.size w8.heap.size _ _ xs w17 HOlm17.out (by omega) (by have := mkRS_pos ks 1; omega) (Nat.le_trans HSm.out.mx (by omega)))
    go_wp2_with fail
    refine HC.out.mono ?_
    rintro e w18 ⟨rfl, hO, hW⟩
    clear HC
    have hz17 := hW.size
    have HV18 : Hid ((Cod.kept (Cod.val d)).Sl F w18 (.slice A xs.length cap) xs) := Lib.hid (HV17.out.keep fun b hb' => by have h1 := HF0.out b hb'; exact hW.block b (by omega) (by omega))
    have HK18 : Hid (Cod.recs.Sl F w18 (.slice Ak ks.length ck) ks) := Lib.hid (HK17.out.keep fun b hb' => by have h1 := HF0.out b hb'; exact hW.block b (by omega) (by omega))
    have HS18 : Hid (VRd (Cod.val d) (fun b => w4.heap.size ≤ b ∧ b < w5.heap.size) w18 (.slice As r.parts.length vas) (.slice Bs r.path.length vbs) r) := Lib.hid (HS17.out.keep fun b hb' => by have h1 := hb'.1; have h2 := hb'.2; exact hW.block b (by omega) (by omega))
    have HR18 : Hid ((Cod.kept (Cod.val d)).Sl (fun b => w4.heap.size ≤ b ∧ b < w5.heap.size) w18 (.slice Ys ys.length cys) ys) := Lib.hid (HR17.out.keep fun b hb' => by have h1 := hb'.1; have h2 := hb'.2; exact hW.block b (by omega) (by omega))
    have HXS18 : Hid (Blk w18 w5.heap.size 31 #[.string r.ty, .int .i64 r.n, .slice As r.parts.length vas, .slice Bs r.path.length vbs]) := Lib.hid ((hW.block (w5.heap.size) (by omega) (by omega)).trans HXS17.out)
    have HOrg18 : Hid (Own (OKept d) 35 s1g e1g w18 (.slice Yg ys.length cyg) ys) := Lib.hid (HOrg17.out.keep fun b g1 g2 => hW.block b (by omega) (by omega))
    have HOvg18 : Hid (OV (OCod.val 31 3 d) 31 3 s2g e2g w18 (.slice Ag r.parts.length vag) (.slice Bg r.path.length vbg) r) := Lib.hid (HOvg17.out.keep fun b g1 g2 => hW.block b (by omega) (by omega))
    have HXG18 : Hid (Blk w18 w9.heap.size 31 #[.string r.ty, .int .i64 r.n, .slice Ag r.parts.length vag, .slice Bg r.path.length vbg]) := Lib.hid ((hW.block (w9.heap.size) (by omega) (by omega)).trans HXG17.out)
    have HE18 := Lib.hid (HE17.out.trans (Wrote.to_below hW (by omega) (by omega)))
    clear hW hO
    have hpos : ¬ (((markL (mkKep d) xs (markL mkRS ks 1).2).2 : Nat) : Int) < 0 := by omega
    have HC := Lib.hid (eq_kept d (fun b => b < w18.heap.size) _ _ ys w18 (((show (Cod.kept (Cod.val d)).Sl _ _ _ _ by have := HOrg18.out.sl; rw [okept_cod] at this; exact this)).mono (fun b hb => by have := hb.1; have := hb.2; omega)) ((HR18.out).mono (fun b hb => by have := hb.1; have := hb.2; omega)) fun b hb => hb)
    go_wp2_with fail
    refine HC.out.mono ?_
    rintro e w19 ⟨rfl, hb⟩
    clear HC
    have hz18 := hb.size
    have HV19 : Hid ((Cod.kept (Cod.val d)).Sl F w19 (.slice A xs.length cap) xs) := Lib.hid (HV18.out.keep fun b hb' => by have h1 := HF0.out b hb'; exact hb.block b (by omega))
    have HK19 : Hid (Cod.recs.Sl F w19 (.slice Ak ks.length ck) ks) := Lib.hid (HK18.out.keep fun b hb' => by have h1 := HF0.out b hb'; exact hb.block b (by omega))
    have HS19 : Hid (VRd (Cod.val d) (fun b => w4.heap.size ≤ b ∧ b < w5.heap.size) w19 (.slice As r.parts.length vas) (.slice Bs r.path.length vbs) r) := Lib.hid (HS18.out.keep fun b hb' => by have h1 := hb'.1; have h2 := hb'.2; exact hb.block b (by omega))
    have HR19 : Hid ((Cod.kept (Cod.val d)).Sl (fun b => w4.heap.size ≤ b ∧ b < w5.heap.size) w19 (.slice Ys ys.length cys) ys) := Lib.hid (HR18.out.keep fun b hb' => by have h1 := hb'.1; have h2 := hb'.2; exact hb.block b (by omega))
    have HXS19 : Hid (Blk w19 w5.heap.size 31 #[.string r.ty, .int .i64 r.n, .slice As r.parts.length vas, .slice Bs r.path.length vbs]) := Lib.hid ((hb.block (w5.heap.size) (by omega)).trans HXS18.out)
    have HOrg19 : Hid (Own (OKept d) 35 s1g e1g w19 (.slice Yg ys.length cyg) ys) := Lib.hid (HOrg18.out.keep fun b g1 g2 => hb.block b (by omega))
    have HOvg19 : Hid (OV (OCod.val 31 3 d) 31 3 s2g e2g w19 (.slice Ag r.parts.length vag) (.slice Bg r.path.length vbg) r) := Lib.hid (HOvg18.out.keep fun b g1 g2 => hb.block b (by omega))
    have HXG19 : Hid (Blk w19 w9.heap.size 31 #[.string r.ty, .int .i64 r.n, .slice Ag r.parts.length vag, .slice Bg r.path.length vbg]) := Lib.hid ((hb.block (w9.heap.size) (by omega)).trans HXG18.out)
    have HE19 := Lib.hid (HE18.out.trans (hb.mono (by omega)))
    clear hb
    have HC := Lib.hid (eqValue_any d (fun b => b < w19.heap.size) (.slice Ag r.parts.length vag) (.slice Bg r.path.length vbg) (.slice As r.parts.length vas) (.slice Bs r.path.length vbs) r w19 (((show VRd (Cod.val d) _ _ _ _ _ by have := HOvg19.out.rd; rw [OCod.val_cod] at this; exact this)).mono (fun b hb => by have := hb.1; have := hb.2; omega)) ((HS19.out).mono (fun b hb => by have := hb.1; have := hb.2; omega)) fun b hb => hb)
    obtain ⟨p0, p1, p2, p3⟩ := HXG19.out.c2
    obtain ⟨q0, q1, q2, q3⟩ := HXS19.out.c2
    go_wp2_with fail
    refine HC.out.mono ?_
    rintro e w20 ⟨rfl, hb⟩
    clear HC p0 p1 p2 p3 q0 q1 q2 q3
    have hz19 := hb.size
    have HV20 : Hid ((Cod.kept (Cod.val d)).Sl F w20 (.slice A xs.length cap) xs) := Lib.hid (HV19.out.keep fun b hb' => by have h1 := HF0.out b hb'; exact hb.block b (by omega))
    have HK20 : Hid (Cod.recs.Sl F w20 (.slice Ak ks.length ck) ks) := Lib.hid (HK19.out.keep fun b hb' => by have h1 := HF0.out b hb'; exact hb.block b (by omega))
    have HS20 : Hid (VRd (Cod.val d) (fun b => w4.heap.size ≤ b ∧ b < w5.heap.size) w20 (.slice As r.parts.length vas) (.slice Bs r.path.length vbs) r) := Lib.hid (HS19.out.keep fun b hb' => by have h1 := hb'.1; have h2 := hb'.2; exact hb.block b (by omega))
    have HR20 : Hid ((Cod.kept (Cod.val d)).Sl (fun b => w4.heap.size ≤ b ∧ b < w5.heap.size) w20 (.slice Ys ys.length cys) ys) := Lib.hid (HR19.out.keep fun b hb' => by have h1 := hb'.1; have h2 := hb'.2; exact hb.block b (by omega))
    have HXS20 : Hid (Blk w20 w5.heap.size 31 #[.string r.ty, .int .i64 r.n, .slice As r.parts.length vas, .slice Bs r.path.length vbs]) := Lib.hid ((hb.block (w5.heap.size) (by omega)).trans HXS19.out)
    have HOrg20 : Hid (Own (OKept d) 35 s1g e1g w20 (.slice Yg ys.length cyg) ys) := Lib.hid (HOrg19.out.keep fun b g1 g2 => hb.block b (by omega))
    have HOvg20 : Hid (OV (OCod.val 31 3 d) 31 3 s2g e2g w20 (.slice Ag r.parts.length vag) (.slice Bg r.path.length vbg) r) := Lib.hid (HOvg19.out.keep fun b g1 g2 => hb.block b (by omega))
    have HXG20 : Hid (Blk w20 w9.heap.size 31 #[.string r.ty, .int .i64 r.n, .slice Ag r.parts.length vag, .slice Bg r.path.length vbg]) := Lib.hid ((hb.block (w9.heap.size) (by omega)).trans HXG19.out)
    have HE20 := Lib.hid (HE19.out.trans (hb.mono (by omega)))
    clear hb
    clear hpos
    have HC := Lib.hid (mark_kept d s1g e1g 1 _ ys w20 HOrg20.out (by omega) (by omega) HMR.out)
    go_wp2_with fail
    refine HC.out.mono ?_
    rintro e w21 ⟨rfl, hO, hW⟩
    clear HC
    have hz20 := hW.size
    have HV21 : Hid ((Cod.kept (Cod.val d)).Sl F w21 (.slice A xs.length cap) xs) := Lib.hid (HV20.out.keep fun b hb' => by have h1 := HF0.out b hb'; exact hW.block b (by omega) (by omega))
    have HK21 : Hid (Cod.recs.Sl F w21 (.slice Ak ks.length ck) ks) := Lib.hid (HK20.out.keep fun b hb' => by have h1 := HF0.out b hb'; exact hW.block b (by omega) (by omega))
    have HS21 : Hid (VRd (Cod.val d) (fun b => w4.heap.size ≤ b ∧ b < w5.heap.size) w21 (.slice As r.parts.length vas) (.slice Bs r.path.length vbs) r) := Lib.hid (HS20.out.keep fun b hb' => by have h1 := hb'.1; have h2 := hb'.2; exact hW.block b (by omega) (by omega))
    have HR21 : Hid ((Cod.kept (Cod.val d)).Sl (fun b => w4.heap.size ≤ b ∧ b < w5.heap.size) w21 (.slice Ys ys.length cys) ys) := Lib.hid (HR20.out.keep fun b hb' => by have h1 := hb'.1; have h2 := hb'.2; exact hW.block b (by omega) (by omega))
    have HXS21 : Hid (Blk w21 w5.heap.size 31 #[.string r.ty, .int .i64 r.n, .slice As r.parts.length vas, .slice Bs r.path.length vbs]) := Lib.hid ((hW.block (w5.heap.size) (by omega) (by omega)).trans HXS20.out)
    have HOvg21 : Hid (OV (OCod.val 31 3 d) 31 3 s2g e2g w21 (.slice Ag r.parts.length vag) (.slice Bg r.path.length vbg) r) := Lib.hid (HOvg20.out.keep fun b g1 g2 => hW.block b (by omega) (by omega))
    have HXG21 : Hid (Blk w21 w9.heap.size 31 #[.string r.ty, .int .i64 r.n, .slice Ag r.parts.length vag, .slice Bg r.path.length vbg]) := Lib.hid ((hW.block (w9.heap.size) (by omega) (by omega)).trans HXG20.out)
    have HE21 := Lib.hid (HE20.out.trans (Wrote.to_below hW (by omega) (by omega)))
    have HOrg21 : Hid (Own (OKept d) 35 s1g e1g w21 (.slice Yg (markL (mkKep d) ys 1).1.length cyg) (markL (mkKep d) ys 1).1) := Lib.hid (by have := hO; rw [markL_length]; exact this)
    clear hW hO
    have HC := Lib.hid (markValue_any d s2g e2g (markL (mkKep d) ys 1).2 Ag Bg _ _ vag vbg r w21 HOvg21.out (by omega) (by have := markL_le (mkKep_le d) ys 1; omega) HMF.out)
    obtain ⟨p0, p1, p2, p3⟩ := HXG21.out.c2
    go_wp2_with fail
    refine HC.out.mono ?_
    rintro e w22 ⟨rfl, hO, hW⟩
    clear HC p0 p1 p2 p3
    have hz21 := hW.size
    have HV22 : Hid ((Cod.kept (Cod.val d)).Sl F w22 (.slice A xs.length cap) xs) := Lib.hid (HV21.out.keep fun b hb' => by have h1 := HF0.out b hb'; exact hW.block b (by omega) (by omega))
    have HK22 : Hid (Cod.recs.Sl F w22 (.slice Ak ks.length ck) ks) := Lib.hid (HK21.out.keep fun b hb' => by have h1 := HF0.out b hb'; exact hW.block b (by omega) (by omega))
    have HS22 : Hid (VRd (Cod.val d) (fun b => w4.heap.size ≤ b ∧ b < w5.heap.size) w22 (.slice As r.parts.length vas) (.slice Bs r.path.length vbs) r) := Lib.hid (HS21.out.keep fun b hb' => by have h1 := hb'.1; have h2 := hb'.2; exact hW.block b (by omega) (by omega))
    have HR22 : Hid ((Cod.kept (Cod.val d)).Sl (fun b => w4.heap.size ≤ b ∧ b < w5.heap.size) w22 (.slice Ys ys.length cys) ys) := Lib.hid (HR21.out.keep fun b hb' => by have h1 := hb'.1; have h2 := hb'.2; exact hW.block b (by omega) (by omega))
    have HXS22 : Hid (Blk w22 w5.heap.size 31 #[.string r.ty, .int .i64 r.n, .slice As r.parts.length vas, .slice Bs r.path.length vbs]) := Lib.hid ((hW.block (w5.heap.size) (by omega) (by omega)).trans HXS21.out)
    have HXG22 : Hid (Blk w22 w9.heap.size 31 #[.string r.ty, .int .i64 r.n, .slice Ag r.parts.length vag, .slice Bg r.path.length vbg]) := Lib.hid ((hW.block (w9.heap.size) (by omega) (by omega)).trans HXG21.out)
    have HOrg22 : Hid (Own (OKept d) 35 s1g e1g w22 (.slice Yg (markL (mkKep d) ys 1).1.length cyg) (markL (mkKep d) ys 1).1) := Lib.hid (HOrg21.out.keep fun b g1 g2 => hW.block b (by omega) (by omega))
    have HE22 := Lib.hid (HE21.out.trans (Wrote.to_below hW (by omega) (by omega)))
    have HOvg22 : Hid (OV (OCod.val 31 3 d) 31 3 s2g e2g w22 (.slice Ag r.parts.length vag) (.slice Bg r.path.length vbg) (mkTop (mkV d) r (markL (mkKep d) ys 1).2).1) := Lib.hid hO
    clear hW hO
    have hpos1 : ¬ (((markL (mkKep d) ys 1).2 : Nat) : Int) < 0 := by omega
    have hpos2 : ¬ (((mkTop (mkV d) r (markL (mkKep d) ys 1).2).2 : Nat) : Int) < 0 := by omega
    have HC := Lib.hid (held_kept d (fun b => b < w22.heap.size) 1 (.slice Yg ys.length cyg) ys w22 (by have := (show (Cod.kept (Cod.val d)).Sl _ _ _ _ by have := HOrg22.out.sl; rw [okept_cod] at this; exact this); rw [markL_length] at this; exact (this).mono (fun b hb => by have := hb.1; have := hb.2; omega)) (fun b hb => hb) (by omega) HMR.out)
    go_wp2_with fail
    refine HC.out.mono ?_
    rintro e w23 ⟨rfl, hb⟩
    clear HC
    have hz22 := hb.size
    have HV23 : Hid ((Cod.kept (Cod.val d)).Sl F w23 (.slice A xs.length cap) xs) := Lib.hid (HV22.out.keep fun b hb' => by have h1 := HF0.out b hb'; exact hb.block b (by omega))
    have HK23 : Hid (Cod.recs.Sl F w23 (.slice Ak ks.length ck) ks) := Lib.hid (HK22.out.keep fun b hb' => by have h1 := HF0.out b hb'; exact hb.block b (by omega))
    have HS23 : Hid (VRd (Cod.val d) (fun b => w4.heap.size ≤ b ∧ b < w5.heap.size) w23 (.slice As r.parts.length vas) (.slice Bs r.path.length vbs) r) := Lib.hid (HS22.out.keep fun b hb' => by have h1 := hb'.1; have h2 := hb'.2; exact hb.block b (by omega))
    have HR23 : Hid ((Cod.kept (Cod.val d)).Sl (fun b => w4.heap.size ≤ b ∧ b < w5.heap.size) w23 (.slice Ys ys.length cys) ys) := Lib.hid (HR22.out.keep fun b hb' => by have h1 := hb'.1; have h2 := hb'.2; exact hb.block b (by omega))
    have HXS23 : Hid (Blk w23 w5.heap.size 31 #[.string r.ty, .int .i64 r.n, .slice As r.parts.length vas, .slice Bs r.path.length vbs]) := Lib.hid ((hb.block (w5.heap.size) (by omega)).trans HXS22.out)
    have HXG23 : Hid (Blk w23 w9.heap.size 31 #[.string r.ty, .int .i64 r.n, .slice Ag r.parts.length vag, .slice Bg r.path.length vbg]) := Lib.hid ((hb.block (w9.heap.size) (by omega)).trans HXG22.out)
    have HOrg23 : Hid (Own (OKept d) 35 s1g e1g w23 (.slice Yg (markL (mkKep d) ys 1).1.length cyg) (markL (mkKep d) ys 1).1) := Lib.hid (HOrg22.out.keep fun b g1 g2 => hb.block b (by omega))
    have HOvg23 : Hid (OV (OCod.val 31 3 d) 31 3 s2g e2g w23 (.slice Ag r.parts.length vag) (.slice Bg r.path.length vbg) (mkTop (mkV d) r (markL (mkKep d) ys 1).2).1) := Lib.hid (HOvg22.out.keep fun b g1 g2 => hb.block b (by omega))
    have HE23 := Lib.hid (HE22.out.trans (hb.mono (by omega)))
    clear hb
    have HC := Lib.hid (heldValue_any d (fun b => b < w23.heap.size) (markL (mkKep d) ys 1).2 Ag Bg _ _ vag vbg r w23 (((show VRd (Cod.val d) _ _ _ _ _ by have := HOvg23.out.rd; rw [OCod.val_cod] at this; exact this)).mono (fun b hb => by have := hb.1; have := hb.2; omega)) (fun b hb => hb) (by have := markL_le (mkKep_le d) ys 1; omega) HMF.out)
    obtain ⟨p0, p1, p2, p3⟩ := HXG23.out.c2
    go_wp2_with fail
    refine HC.out.mono ?_
    rintro e w24 ⟨rfl, hb⟩
    clear HC p0 p1 p2 p3
    have hz23 := hb.size
    have HV24 : Hid ((Cod.kept (Cod.val d)).Sl F w24 (.slice A xs.length cap) xs) := Lib.hid (HV23.out.keep fun b hb' => by have h1 := HF0.out b hb'; exact hb.block b (by omega))
    have HK24 : Hid (Cod.recs.Sl F w24 (.slice Ak ks.length ck) ks) := Lib.hid (HK23.out.keep fun b hb' => by have h1 := HF0.out b hb'; exact hb.block b (by omega))
    have HS24 : Hid (VRd (Cod.val d) (fun b => w4.heap.size ≤ b ∧ b < w5.heap.size) w24 (.slice As r.parts.length vas) (.slice Bs r.path.length vbs) r) := Lib.hid (HS23.out.keep fun b hb' => by have h1 := hb'.1; have h2 := hb'.2; exact hb.block b (by omega))
    have HR24 : Hid ((Cod.kept (Cod.val d)).Sl (fun b => w4.heap.size ≤ b ∧ b < w5.heap.size) w24 (.slice Ys ys.length cys) ys) := Lib.hid (HR23.out.keep fun b hb' => by have h1 := hb'.1; have h2 := hb'.2; exact hb.block b (by omega))
    have HXS24 : Hid (Blk w24 w5.heap.size 31 #[.string r.ty, .int .i64 r.n, .slice As r.parts.length vas, .slice Bs r.path.length vbs]) := Lib.hid ((hb.block (w5.heap.size) (by omega)).trans HXS23.out)
    have HXG24 : Hid (Blk w24 w9.heap.size 31 #[.string r.ty, .int .i64 r.n, .slice Ag r.parts.length vag, .slice Bg r.path.length vbg]) := Lib.hid ((hb.block (w9.heap.size) (by omega)).trans HXG23.out)
    have HOrg24 : Hid (Own (OKept d) 35 s1g e1g w24 (.slice Yg (markL (mkKep d) ys 1).1.length cyg) (markL (mkKep d) ys 1).1) := Lib.hid (HOrg23.out.keep fun b g1 g2 => hb.block b (by omega))
    have HOvg24 : Hid (OV (OCod.val 31 3 d) 31 3 s2g e2g w24 (.slice Ag r.parts.length vag) (.slice Bg r.path.length vbg) (mkTop (mkV d) r (markL (mkKep d) ys 1).2).1) := Lib.hid (HOvg23.out.keep fun b g1 g2 => hb.block b (by omega))
    have HE24 := Lib.hid (HE23.out.trans (hb.mono (by omega)))
    clear hb
    have HC := Lib.hid (toRecordSS_any F _ ks w24 HK24.out (fun b hb => by have := HF0.out b hb; omega) HSm.out.kn HSm.out.kr)
    go_wp2_with fail
    refine HC.out.mono ?_
    rintro e w25 ⟨Kh, kch, rfl, hI, hb⟩
    clear HC
    have hz24 := hb.size
    have HV25 : Hid ((Cod.kept (Cod.val d)).Sl F w25 (.slice A xs.length cap) xs) := Lib.hid (HV24.out.keep fun b hb' => by have h1 := HF0.out b hb'; exact hb.block b (by omega))
    have HK25 : Hid (Cod.recs.Sl F w25 (.slice Ak ks.length ck) ks) := Lib.hid (HK24.out.keep fun b hb' => by have h1 := HF0.out b hb'; exact hb.block b (by omega))
    have HS25 : Hid (VRd (Cod.val d) (fun b => w4.heap.size ≤ b ∧ b < w5.heap.size) w25 (.slice As r.parts.length vas) (.slice Bs r.path.length vbs) r) := Lib.hid (HS24.out.keep fun b hb' => by have h1 := hb'.1; have h2 := hb'.2; exact hb.block b (by omega))
    have HR25 : Hid ((Cod.kept (Cod.val d)).Sl (fun b => w4.heap.size ≤ b ∧ b < w5.heap.size) w25 (.slice Ys ys.length cys) ys) := Lib.hid (HR24.out.keep fun b hb' => by have h1 := hb'.1; have h2 := hb'.2; exact hb.block b (by omega))
    have HXS25 : Hid (Blk w25 w5.heap.size 31 #[.string r.ty, .int .i64 r.n, .slice As r.parts.length vas, .slice Bs r.path.length vbs]) := Lib.hid ((hb.block (w5.heap.size) (by omega)).trans HXS24.out)
    have HXG25 : Hid (Blk w25 w9.heap.size 31 #[.string r.ty, .int .i64 r.n, .slice Ag r.parts.length vag, .slice Bg r.path.length vbg]) := Lib.hid ((hb.block (w9.heap.size) (by omega)).trans HXG24.out)
    have HOrg25 : Hid (Own (OKept d) 35 s1g e1g w25 (.slice Yg (markL (mkKep d) ys 1).1.length cyg) (markL (mkKep d) ys 1).1) := Lib.hid (HOrg24.out.keep fun b g1 g2 => hb.block b (by omega))
    have HOvg25 : Hid (OV (OCod.val 31 3 d) 31 3 s2g e2g w25 (.slice Ag r.parts.length vag) (.slice Bg r.path.length vbg) (mkTop (mkV d) r (markL (mkKep d) ys 1).2).1) := Lib.hid (HOvg24.out.keep fun b g1 g2 => hb.block b (by omega))
    have HE25 := Lib.hid (HE24.out.trans (hb.mono (by omega)))
    have Hkh25 : Hid (Cod.recs.Sl (fun b => w24.heap.size ≤ b ∧ b < w25.heap.size) w25 (.slice Kh ks.length kch) ks) := Lib.hid hI
    clear hb hI
    have HC := Lib.hid (to_kept d F _ xs w25 (by rw [okept_cod]; exact HV25.out) (fun b hb => by have := HF0.out b hb; omega) (Nat.le_trans HSm.out.xn (by omega)) HSm.out.xr)
    go_wp2_with fail
    refine HC.out.mono ?_
    rintro e w26 ⟨Lh, lch, rfl, hO, hb⟩
    clear HC
    have hz25 := hb.size
    have HV26 : Hid ((Cod.kept (Cod.val d)).Sl F w26 (.slice A xs.length cap) xs) := Lib.hid (HV25.out.keep fun b hb' => by have h1 := HF0.out b hb'; exact hb.block b (by omega))
    have HK26 : Hid (Cod.recs.Sl F w26 (.slice Ak ks.length ck) ks) := Lib.hid (HK25.out.keep fun b hb' => by have h1 := HF0.out b hb'; exact hb.block b (by omega))
    have HS26 : Hid (VRd (Cod.val d) (fun b => w4.heap.size ≤ b ∧ b < w5.heap.size) w26 (.slice As r.parts.length vas) (.slice Bs r.path.length vbs) r) := Lib.hid (HS25.out.keep fun b hb' => by have h1 := hb'.1; have h2 := hb'.2; exact hb.block b (by omega))
    have HR26 : Hid ((Cod.kept (Cod.val d)).Sl (fun b => w4.heap.size ≤ b ∧ b < w5.heap.size) w26 (.slice Ys ys.length cys) ys) := Lib.hid (HR25.out.keep fun b hb' => by have h1 := hb'.1; have h2 := hb'.2; exact hb.block b (by omega))
    have HXS26 : Hid (Blk w26 w5.heap.size 31 #[.string r.ty, .int .i64 r.n, .slice As r.parts.length vas, .slice Bs r.path.length vbs]) := Lib.hid ((hb.block (w5.heap.size) (by omega)).trans HXS25.out)
    have HXG26 : Hid (Blk w26 w9.heap.size 31 #[.string r.ty, .int .i64 r.n, .slice Ag r.parts.length vag, .slice Bg r.path.length vbg]) := Lib.hid ((hb.block (w9.heap.size) (by omega)).trans HXG25.out)
    have HOrg26 : Hid (Own (OKept d) 35 s1g e1g w26 (.slice Yg (markL (mkKep d) ys 1).1.length cyg) (markL (mkKep d) ys 1).1) := Lib.hid (HOrg25.out.keep fun b g1 g2 => hb.block b (by omega))
    have HOvg26 : Hid (OV (OCod.val 31 3 d) 31 3 s2g e2g w26 (.slice Ag r.parts.length vag) (.slice Bg r.path.length vbg) (mkTop (mkV d) r (markL (mkKep d) ys 1).2).1) := Lib.hid (HOvg25.out.keep fun b g1 g2 => hb.block b (by omega))
    have Hkh26 : Hid (Cod.recs.Sl (fun b => w24.heap.size ≤ b ∧ b < w25.heap.size) w26 (.slice Kh ks.length kch) ks) := Lib.hid (Hkh25.out.keep fun b hb' => by have h1 := hb'.1; have h2 := hb'.2; exact hb.block b (by omega))
    have HE26 := Lib.hid (HE25.out.trans (hb.mono (by omega)))
    have Hlh26 : Hid ((Cod.kept (Cod.val d)).Sl (fun b => w25.heap.size ≤ b ∧ b < w26.heap.size) w26 (.slice Lh xs.length lch) xs) := Lib.hid (by have := hO.sl; rw [okept_cod] at this; exact this)
    clear hb hO
    have HC := Lib.hid (HIM.out (fun b => b < w26.heap.size) _ _ w26 ((Hkh26.out).mono (fun b hb => by have := hb.1; have := hb.2; omega)) ((Hlh26.out).mono (fun b hb => by have := hb.1; have := hb.2; omega)) (fun b hb => hb))
    go_wp2_with fail
    refine HC.out.mono ?_
    rintro e w27 ⟨Yh, cyh, Ah, vah, Bh, vbh, s1h, e1h, s2h, e2h, rfl, q1h, q2h, q3h, q4h, q5h, hO1, hO2, hb⟩
    clear HC
    have hz26 := hb.size
    have HV27 : Hid ((Cod.kept (Cod.val d)).Sl F w27 (.slice A xs.length cap) xs) := Lib.hid (HV26.out.keep fun b hb' => by have h1 := HF0.out b hb'; exact hb.block b (by omega))
    have HK27 : Hid (Cod.recs.Sl F w27 (.slice Ak ks.length ck) ks) := Lib.hid (HK26.out.keep fun b hb' => by have h1 := HF0.out b hb'; exact hb.block b (by omega))
    have HS27 : Hid (VRd (Cod.val d) (fun b => w4.heap.size ≤ b ∧ b < w5.heap.size) w27 (.slice As r.parts.length vas) (.slice Bs r.path.length vbs) r) := Lib.hid (HS26.out.keep fun b hb' => by have h1 := hb'.1; have h2 := hb'.2; exact hb.block b (by omega))
    have HR27 : Hid ((Cod.kept (Cod.val d)).Sl (fun b => w4.heap.size ≤ b ∧ b < w5.heap.size) w27 (.slice Ys ys.length cys) ys) := Lib.hid (HR26.out.keep fun b hb' => by have h1 := hb'.1; have h2 := hb'.2; exact hb.block b (by omega))
    have HXS27 : Hid (Blk w27 w5.heap.size 31 #[.string r.ty, .int .i64 r.n, .slice As r.parts.length vas, .slice Bs r.path.length vbs]) := Lib.hid ((hb.block (w5.heap.size) (by omega)).trans HXS26.out)
    have HXG27 : Hid (Blk w27 w9.heap.size 31 #[.string r.ty, .int .i64 r.n, .slice Ag r.parts.length vag, .slice Bg r.path.length vbg]) := Lib.hid ((hb.block (w9.heap.size) (by omega)).trans HXG26.out)
    have HOrg27 : Hid (Own (OKept d) 35 s1g e1g w27 (.slice Yg (markL (mkKep d) ys 1).1.length cyg) (markL (mkKep d) ys 1).1) := Lib.hid (HOrg26.out.keep fun b g1 g2 => hb.block b (by omega))
    have HOvg27 : Hid (OV (OCod.val 31 3 d) 31 3 s2g e2g w27 (.slice Ag r.parts.length vag) (.slice Bg r.path.length vbg) (mkTop (mkV d) r (markL (mkKep d) ys 1).2).1) := Lib.hid (HOvg26.out.keep fun b g1 g2 => hb.block b (by omega))
    have HE27 := Lib.hid (HE26.out.trans (hb.mono (by omega)))
    have HOrh27 : Hid (Own (OKept d) 35 s1h e1h w27 (.slice Yh ys.length cyh) ys) := Lib.hid hO1
    have HOvh27 : Hid (OV (OCod.val 31 3 d) 31 3 s2h e2h w27 (.slice Ah r.parts.length vah) (.slice Bh r.path.length vbh) r) := Lib.hid hO2
    clear hb hO1 hO2
    obtain ⟨w28, hw28⟩ : ∃ u, u = w27.alloc (.cells #[.string r.ty, .int .i64 r.n, .slice Ah r.parts.length vah, .slice Bh r.path.length vbh] 31) := ⟨_, rfl⟩
    have HXH28 := Lib.hid (show Blk w28 w27.heap.size 31 #[.string r.ty, .int .i64 r.n, .slice Ah r.parts.length vah, .slice Bh r.path.length vbh] by rw [hw28]; exact Blk.new _ _ _)
    have hb : Below w27.heap.size w27 w28 := by rw [hw28]; exact (Below.refl _ _).alloc (Nat.le_refl _) _
    have hy28 : w27.heap.size + 1 = w28.heap.size := by rw [hw28]; simp
    have Hw28 := Lib.hid hw28
    clear hw28
    have hz27 := hb.size
    have HV28 : Hid ((Cod.kept (Cod.val d)).Sl F w28 (.slice A xs.length cap) xs) := Lib.hid (HV27.out.keep fun b hb' => by have h1 := HF0.out b hb'; exact hb.block b (by omega))
    have HK28 : Hid (Cod.recs.Sl F w28 (.slice Ak ks.length ck) ks) := Lib.hid (HK27.out.keep fun b hb' => by have h1 := HF0.out b hb'; exact hb.block b (by omega))
    have HS28 : Hid (VRd (Cod.val d) (fun b => w4.heap.size ≤ b ∧ b < w5.heap.size) w28 (.slice As r.parts.length vas) (.slice Bs r.path.length vbs) r) := Lib.hid (HS27.out.keep fun b hb' => by have h1 := hb'.1; have h2 := hb'.2; exact hb.block b (by omega))
    have HR28 : Hid ((Cod.kept (Cod.val d)).Sl (fun b => w4.heap.size ≤ b ∧ b < w5.heap.size) w28 (.slice Ys ys.length cys) ys) := Lib.hid (HR27.out.keep fun b hb' => by have h1 := hb'.1; have h2 := hb'.2; exact hb.block b (by omega))
    have HXS28 : Hid (Blk w28 w5.heap.size 31 #[.string r.ty, .int .i64 r.n, .slice As r.parts.length vas, .slice Bs r.path.length vbs]) := Lib.hid ((hb.block (w5.heap.size) (by omega)).trans HXS27.out)
    have HXG28 : Hid (Blk w28 w9.heap.size 31 #[.string r.ty, .int .i64 r.n, .slice Ag r.parts.length vag, .slice Bg r.path.length vbg]) := Lib.hid ((hb.block (w9.heap.size) (by omega)).trans HXG27.out)
    have HOrg28 : Hid (Own (OKept d) 35 s1g e1g w28 (.slice Yg (markL (mkKep d) ys 1).1.length cyg) (markL (mkKep d) ys 1).1) := Lib.hid (HOrg27.out.keep fun b g1 g2 => hb.block b (by omega))
    have HOvg28 : Hid (OV (OCod.val 31 3 d) 31 3 s2g e2g w28 (.slice Ag r.parts.length vag) (.slice Bg r.path.length vbg) (mkTop (mkV d) r (markL (mkKep d) ys 1).2).1) := Lib.hid (HOvg27.out.keep fun b g1 g2 => hb.block b (by omega))
    have HOrh28 : Hid (Own (OKept d) 35 s1h e1h w28 (.slice Yh ys.length cyh) ys) := Lib.hid (HOrh27.out.keep fun b g1 g2 => hb.block b (by omega))
    have HOvh28 : Hid (OV (OCod.val 31 3 d) 31 3 s2h e2h w28 (.slice Ah r.parts.length vah) (.slice Bh r.path.length vbh) r) := Lib.hid (HOvh27.out.keep fun b g1 g2 => hb.block b (by omega))
    have HE28 := Lib.hid (HE27.out.trans (hb.mono (by omega)))
    clear hb
    have HC := Lib.hid (eq_kept d (fun b => b < w28.heap.size) _ _ ys w28 (((show (Cod.kept (Cod.val d)).Sl _ _ _ _ by have := HOrh28.out.sl; rw [okept_cod] at this; exact this)).mono (fun b hb => by have := hb.1; have := hb.2; omega)) ((HR28.out).mono (fun b hb => by have := hb.1; have := hb.2; omega)) fun b hb => hb)
    go_wp2_with fail
    rw [← Hw28.out]
    refine HC.out.mono ?_
    rintro e w29 ⟨rfl, hb⟩
    clear HC
    have hz28 := hb.size
    have HV29 : Hid ((Cod.kept (Cod.val d)).Sl F w29 (.slice A xs.length cap) xs) := Lib.hid (HV28.out.keep fun b hb' => by have h1 := HF0.out b hb'; exact hb.block b (by omega))
    have HK29 : Hid (Cod.recs.Sl F w29 (.slice Ak ks.length ck) ks) := Lib.hid (HK28.out.keep fun b hb' => by have h1 := HF0.out b hb'; exact hb.block b (by omega))
    have HS29 : Hid (VRd (Cod.val d) (fun b => w4.heap.size ≤ b ∧ b < w5.heap.size) w29 (.slice As r.parts.length vas) (.slice Bs r.path.length vbs) r) := Lib.hid (HS28.out.keep fun b hb' => by have h1 := hb'.1; have h2 := hb'.2; exact hb.block b (by omega))
    have HR29 : Hid ((Cod.kept (Cod.val d)).Sl (fun b => w4.heap.size ≤ b ∧ b < w5.heap.size) w29 (.slice Ys ys.length cys) ys) := Lib.hid (HR28.out.keep fun b hb' => by have h1 := hb'.1; have h2 := hb'.2; exact hb.block b (by omega))
    have HXS29 : Hid (Blk w29 w5.heap.size 31 #[.string r.ty, .int .i64 r.n, .slice As r.parts.length vas, .slice Bs r.path.length vbs]) := Lib.hid ((hb.block (w5.heap.size) (by omega)).trans HXS28.out)
    have HXG29 : Hid (Blk w29 w9.heap.size 31 #[.string r.ty, .int .i64 r.n, .slice Ag r.parts.length vag, .slice Bg r.path.length vbg]) := Lib.hid ((hb.block (w9.heap.size) (by omega)).trans HXG28.out)
    have HOrg29 : Hid (Own (OKept d) 35 s1g e1g w29 (.slice Yg (markL (mkKep d) ys 1).1.length cyg) (markL (mkKep d) ys 1).1) := Lib.hid (HOrg28.out.keep fun b g1 g2 => hb.block b (by omega))
    have HOvg29 : Hid (OV (OCod.val 31 3 d) 31 3 s2g e2g w29 (.slice Ag r.parts.length vag) (.slice Bg r.path.length vbg) (mkTop (mkV d) r (markL (mkKep d) ys 1).2).1) := Lib.hid (HOvg28.out.keep fun b g1 g2 => hb.block b (by omega))
    have HOrh29 : Hid (Own (OKept d) 35 s1h e1h w29 (.slice Yh ys.length cyh) ys) := Lib.hid (HOrh28.out.keep fun b g1 g2 => hb.block b (by omega))
    have HOvh29 : Hid (OV (OCod.val 31 3 d) 31 3 s2h e2h w29 (.slice Ah r.parts.length vah) (.slice Bh r.path.length vbh) r) := Lib.hid (HOvh28.out.keep fun b g1 g2 => hb.block b (by omega))
    have HXH29 : Hid (Blk w29 w27.heap.size 31 #[.string r.ty, .int .i64 r.n, .slice Ah r.parts.length vah, .slice Bh r.path.length vbh]) := Lib.hid ((hb.block (w27.heap.size) (by omega)).trans HXH28.out)
    have HE29 := Lib.hid (HE28.out.trans (hb.mono (by omega)))
    clear hb
    have HC := Lib.hid (eqValue_any d (fun b => b < w29.heap.size) (.slice Ah r.parts.length vah) (.slice Bh r.path.length vbh) (.slice As r.parts.length vas) (.slice Bs r.path.length vbs) r w29 (((show VRd (Cod.val d) _ _ _ _ _ by have := HOvh29.out.rd; rw [OCod.val_cod] at this; exact this)).mono (fun b hb => by have := hb.1; have := hb.2; omega)) ((HS29.out).mono (fun b hb => by have := hb.1; have := hb.2; omega)) fun b hb => hb)
    obtain ⟨p0, p1, p2, p3⟩ := HXH29.out.c2
    obtain ⟨q0, q1, q2, q3⟩ := HXS29.out.c2
    go_wp2_with fail
    refine HC.out.mono ?_
    rintro e w30 ⟨rfl, hb⟩
    clear HC p0 p1 p2 p3 q0 q1 q2 q3
    have hz29 := hb.size
    have HV30 : Hid ((Cod.kept (Cod.val d)).Sl F w30 (.slice A xs.length cap) xs) := Lib.hid (HV29.out.keep fun b hb' => by have h1 := HF0.out b hb'; exact hb.block b (by omega))
    have HK30 : Hid (Cod.recs.Sl F w30 (.slice Ak ks.length ck) ks) := Lib.hid (HK29.out.keep fun b hb' => by have h1 := HF0.out b hb'; exact hb.block b (by omega))
    have HS30 : Hid (VRd (Cod.val d) (fun b => w4.heap.size ≤ b ∧ b < w5.heap.size) w30 (.slice As r.parts.length vas) (.slice Bs r.path.length vbs) r) := Lib.hid (HS29.out.keep fun b hb' => by have h1 := hb'.1; have h2 := hb'.2; exact hb.block b (by omega))
    have HR30 : Hid ((Cod.kept (Cod.val d)).Sl (fun b => w4.heap.size ≤ b ∧ b < w5.heap.size) w30 (.slice Ys ys.length cys) ys) := Lib.hid (HR29.out.keep fun b hb' => by have h1 := hb'.1; have h2 := hb'.2; exact hb.block b (by omega))
    have HXS30 : Hid (Blk w30 w5.heap.size 31 #[.string r.ty, .int .i64 r.n, .slice As r.parts.length vas, .slice Bs r.path.length vbs]) := Lib.hid ((hb.block (w5.heap.size) (by omega)).trans HXS29.out)
    have HXG30 : Hid (Blk w30 w9.heap.size 31 #[.string r.ty, .int .i64 r.n, .slice Ag r.parts.length vag, .slice Bg r.path.length vbg]) := Lib.hid ((hb.block (w9.heap.size) (by omega)).trans HXG29.out)
    have HOrg30 : Hid (Own (OKept d) 35 s1g e1g w30 (.slice Yg (markL (mkKep d) ys 1).1.length cyg) (markL (mkKep d) ys 1).1) := Lib.hid (HOrg29.out.keep fun b g1 g2 => hb.block b (by omega))
    have HOvg30 : Hid (OV (OCod.val 31 3 d) 31 3 s2g e2g w30 (.slice Ag r.parts.length vag) (.slice Bg r.path.length vbg) (mkTop (mkV d) r (markL (mkKep d) ys 1).2).1) := Lib.hid (HOvg29.out.keep fun b g1 g2 => hb.block b (by omega))
    have HOrh30 : Hid (Own (OKept d) 35 s1h e1h w30 (.slice Yh ys.length cyh) ys) := Lib.hid (HOrh29.out.keep fun b g1 g2 => hb.block b (by omega))
    have HOvh30 : Hid (OV (OCod.val 31 3 d) 31 3 s2h e2h w30 (.slice Ah r.parts.length vah) (.slice Bh r.path.length vbh) r) := Lib.hid (HOvh29.out.keep fun b g1 g2 => hb.block b (by omega))
    have HXH30 : Hid (Blk w30 w27.heap.size 31 #[.string r.ty, .int .i64 r.n, .slice Ah r.parts.length vah, .slice Bh r.path.length vbh]) := Lib.hid ((hb.block (w27.heap.size) (by omega)).trans HXH29.out)
    have HE30 := Lib.hid (HE29.out.trans (hb.mono (by omega)))
    clear hb
    have HC := Lib.hid (held_kept d (fun b => b < w30.heap.size) 1 (.slice Yg ys.length cyg) ys w30 (by have := (show (Cod.kept (Cod.val d)).Sl _ _ _ _ by have := HOrg30.out.sl; rw [okept_cod] at this; exact this); rw [markL_length] at this; exact (this).mono (fun b hb => by have := hb.1; have := hb.2; omega)) (fun b hb => hb) (by omega) HMR.out)
    go_wp2_with fail
    refine HC.out.mono ?_
    rintro e w31 ⟨rfl, hb⟩
    clear HC
    have hz30 := hb.size
    have HV31 : Hid ((Cod.kept (Cod.val d)).Sl F w31 (.slice A xs.length cap) xs) := Lib.hid (HV30.out.keep fun b hb' => by have h1 := HF0.out b hb'; exact hb.block b (by omega))
    have HK31 : Hid (Cod.recs.Sl F w31 (.slice Ak ks.length ck) ks) := Lib.hid (HK30.out.keep fun b hb' => by have h1 := HF0.out b hb'; exact hb.block b (by omega))
    have HS31 : Hid (VRd (Cod.val d) (fun b => w4.heap.size ≤ b ∧ b < w5.heap.size) w31 (.slice As r.parts.length vas) (.slice Bs r.path.length vbs) r) := Lib.hid (HS30.out.keep fun b hb' => by have h1 := hb'.1; have h2 := hb'.2; exact hb.block b (by omega))
    have HR31 : Hid ((Cod.kept (Cod.val d)).Sl (fun b => w4.heap.size ≤ b ∧ b < w5.heap.size) w31 (.slice Ys ys.length cys) ys) := Lib.hid (HR30.out.keep fun b hb' => by have h1 := hb'.1; have h2 := hb'.2; exact hb.block b (by omega))
    have HXS31 : Hid (Blk w31 w5.heap.size 31 #[.string r.ty, .int .i64 r.n, .slice As r.parts.length vas, .slice Bs r.path.length vbs]) := Lib.hid ((hb.block (w5.heap.size) (by omega)).trans HXS30.out)
    have HXG31 : Hid (Blk w31 w9.heap.size 31 #[.string r.ty, .int .i64 r.n, .slice Ag r.parts.length vag, .slice Bg r.path.length vbg]) := Lib.hid ((hb.block (w9.heap.size) (by omega)).trans HXG30.out)
    have HOrg31 : Hid (Own (OKept d) 35 s1g e1g w31 (.slice Yg (markL (mkKep d) ys 1).1.length cyg) (markL (mkKep d) ys 1).1) := Lib.hid (HOrg30.out.keep fun b g1 g2 => hb.block b (by omega))
    have HOvg31 : Hid (OV (OCod.val 31 3 d) 31 3 s2g e2g w31 (.slice Ag r.parts.length vag) (.slice Bg r.path.length vbg) (mkTop (mkV d) r (markL (mkKep d) ys 1).2).1) := Lib.hid (HOvg30.out.keep fun b g1 g2 => hb.block b (by omega))
    have HOrh31 : Hid (Own (OKept d) 35 s1h e1h w31 (.slice Yh ys.length cyh) ys) := Lib.hid (HOrh30.out.keep fun b g1 g2 => hb.block b (by omega))
    have HOvh31 : Hid (OV (OCod.val 31 3 d) 31 3 s2h e2h w31 (.slice Ah r.parts.length vah) (.slice Bh r.path.length vbh) r) := Lib.hid (HOvh30.out.keep fun b g1 g2 => hb.block b (by omega))
    have HXH31 : Hid (Blk w31 w27.heap.size 31 #[.string r.ty, .int .i64 r.n, .slice Ah r.parts.length vah, .slice Bh r.path.length vbh]) := Lib.hid ((hb.block (w27.heap.size) (by omega)).trans HXH30.out)
    have HE31 := Lib.hid (HE30.out.trans (hb.mono (by omega)))
    clear hb
    have HC := Lib.hid (heldValue_any d (fun b => b < w31.heap.size) (markL (mkKep d) ys 1).2 Ag Bg _ _ vag vbg r w31 (((show VRd (Cod.val d) _ _ _ _ _ by have := HOvg31.out.rd; rw [OCod.val_cod] at this; exact this)).mono (fun b hb => by have := hb.1; have := hb.2; omega)) (fun b hb => hb) (by have := markL_le (mkKep_le d) ys 1; omega) HMF.out)
    obtain ⟨p0, p1, p2, p3⟩ := HXG31.out.c2
    go_wp2_with fail
    refine HC.out.mono ?_
    rintro e w32 ⟨rfl, hb⟩
    clear HC p0 p1 p2 p3
    have hz31 := hb.size
    have HV32 : Hid ((Cod.kept (Cod.val d)).Sl F w32 (.slice A xs.length cap) xs) := Lib.hid (HV31.out.keep fun b hb' => by have h1 := HF0.out b hb'; exact hb.block b (by omega))
    have HK32 : Hid (Cod.recs.Sl F w32 (.slice Ak ks.length ck) ks) := Lib.hid (HK31.out.keep fun b hb' => by have h1 := HF0.out b hb'; exact hb.block b (by omega))
    have HS32 : Hid (VRd (Cod.val d) (fun b => w4.heap.size ≤ b ∧ b < w5.heap.size) w32 (.slice As r.parts.length vas) (.slice Bs r.path.length vbs) r) := Lib.hid (HS31.out.keep fun b hb' => by have h1 := hb'.1; have h2 := hb'.2; exact hb.block b (by omega))
    have HR32 : Hid ((Cod.kept (Cod.val d)).Sl (fun b => w4.heap.size ≤ b ∧ b < w5.heap.size) w32 (.slice Ys ys.length cys) ys) := Lib.hid (HR31.out.keep fun b hb' => by have h1 := hb'.1; have h2 := hb'.2; exact hb.block b (by omega))
    have HXS32 : Hid (Blk w32 w5.heap.size 31 #[.string r.ty, .int .i64 r.n, .slice As r.parts.length vas, .slice Bs r.path.length vbs]) := Lib.hid ((hb.block (w5.heap.size) (by omega)).trans HXS31.out)
    have HXG32 : Hid (Blk w32 w9.heap.size 31 #[.string r.ty, .int .i64 r.n, .slice Ag r.parts.length vag, .slice Bg r.path.length vbg]) := Lib.hid ((hb.block (w9.heap.size) (by omega)).trans HXG31.out)
    have HOrg32 : Hid (Own (OKept d) 35 s1g e1g w32 (.slice Yg (markL (mkKep d) ys 1).1.length cyg) (markL (mkKep d) ys 1).1) := Lib.hid (HOrg31.out.keep fun b g1 g2 => hb.block b (by omega))
    have HOvg32 : Hid (OV (OCod.val 31 3 d) 31 3 s2g e2g w32 (.slice Ag r.parts.length vag) (.slice Bg r.path.length vbg) (mkTop (mkV d) r (markL (mkKep d) ys 1).2).1) := Lib.hid (HOvg31.out.keep fun b g1 g2 => hb.block b (by omega))
    have HOrh32 : Hid (Own (OKept d) 35 s1h e1h w32 (.slice Yh ys.length cyh) ys) := Lib.hid (HOrh31.out.keep fun b g1 g2 => hb.block b (by omega))
    have HOvh32 : Hid (OV (OCod.val 31 3 d) 31 3 s2h e2h w32 (.slice Ah r.parts.length vah) (.slice Bh r.path.length vbh) r) := Lib.hid (HOvh31.out.keep fun b g1 g2 => hb.block b (by omega))
    have HXH32 : Hid (Blk w32 w27.heap.size 31 #[.string r.ty, .int .i64 r.n, .slice Ah r.parts.length vah, .slice Bh r.path.length vbh]) := Lib.hid ((hb.block (w27.heap.size) (by omega)).trans HXH31.out)
    have HE32 := Lib.hid (HE31.out.trans (hb.mono (by omega)))
    clear hb
    go_wp2_with fail
    go_ret
    exact ⟨rfl, HE32.out⟩
end Go.Proofs.Ytemlpiokdoeeeaa
