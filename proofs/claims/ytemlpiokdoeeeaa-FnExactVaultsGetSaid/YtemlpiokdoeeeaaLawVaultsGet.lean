/- Whatever the arguments, the exact law of VaultsGet answers true: the program's VaultsGet is the model's, leaves its arguments alone, and hands back memory of its own. -/
import Derived.Test.YtemlpiokdoeeeaaWn
import Derived.Test.YtemlpiokdoeeeaaWo
import Derived.Test.YtemlpiokdoeeeaaWi
import Derived.Test.YtemlpiokdoeeeaaTo
import Derived.Test.YtemlpiokdoeeeaaEq
namespace Go.Proofs.Ytemlpiokdoeeeaa
open Go.ChangeShapes Go.WideShapes Go.ChangeAt Go.RowKit Go.Deep
open Go.ChangeMaps (open_string shut_string)

theorem mkRS_pos (ks : Ks) (k : Nat) : k ≤ (markL mkRS ks k).2 := markL_le mkRS_le ks k

/-- What the program's VaultsGet does. -/
def ImplGet5 : Prop := ∀ (d : Nat) (F : Nat → Prop) (kv v : Value) (ks : Ks) (xs : List KepR) (o : Int) (t : ByteArray) (w : World), Cod.recs.Sl F w kv ks → (Cod.kept (Cod.val d)).Sl F w v xs → (∀ b, F b → b < w.heap.size) → VSmall ks d xs → t.size ≤ 1048576 → I64 o →
    Calls Try.prog 13 #[kv, v, .int .i64 o, .string t] w fun e w' => ∃ A cA B cB, e = .returned (.tuple #[.agg #[.string (getR ks d xs o t).1.ty, .int .i64 (getR ks d xs o t).1.n, .slice A (getR ks d xs o t).1.parts.length cA, .slice B (getR ks d xs o t).1.path.length cB], .bool (getR ks d xs o t).2]) ∧
      OV (OCod.val 31 3 d) 31 3 w.heap.size w'.heap.size w' (.slice A (getR ks d xs o t).1.parts.length cA) (.slice B (getR ks d xs o t).1.path.length cB) (getR ks d xs o t).1 ∧ Below w.heap.size w w'
theorem getR_mark {ks : Ks} {d : Nat} {xs : List KepR} (h : VSmall ks d xs) (o : Int) (t : ByteArray) : (mkTop (mkV d) (getR ks d xs o t).1 1).2 ≤ 100000000 := by
  unfold getR
  cases hi : idxK ks d xs o t with
  | none => show (1 : Nat) ≤ _; omega
  | some j =>
    obtain ⟨-, -, hj⟩ := idxK_some hi
    show (mkTop (mkV d) (xs.getD j zeroK).v 1).2 ≤ _
    rw [getK hj]
    exact Nat.le_trans (h.mv _ (List.getElem_mem hj) 1 (by omega)) (by omega)

set_option maxRecDepth 100000 in
set_option maxHeartbeats 16000000 in
theorem lawVaultsGet (himpl : ImplGet5) {d : Nat} (F : Nat → Prop) (kv v : Value) (ks : Ks) (xs : List KepR) (o : Int) (kind : ByteArray) (w : World) (hks : Cod.recs.Sl F w kv ks) (h : (Cod.kept (Cod.val d)).Sl F w v xs) (hF : ∀ b, F b → b < w.heap.size) (ho : I64 o) (hkd : kind.size ≤ maxLen) :
    Calls Try.prog 5 #[kv, v, .int .i64 o, .string kind] w fun e w' => e = .returned (.bool true) ∧ Below w.heap.size w w' := by
  obtain ⟨Ak, ck, rfl, _⟩ := id hks
  obtain ⟨A, cap, rfl, _⟩ := id h
  obtain ⟨w0, hw0⟩ : ∃ w0, w0 = w := ⟨_, rfl⟩
  subst hw0
  have HK0 := Lib.hid hks
  have HV0 := Lib.hid h
  have HF0 := Lib.hid hF
  have HE0 := Lib.hid (Below.refl w0.heap.size w0)
  unfold maxLen at hkd
  clear hF h hks
  by_cases hkl : 1048576 < kind.size
  · go_enter Try.func5, Try.ntmps5
    go_wp2
    go_ret
    exact ⟨rfl, HE0.out⟩
  have HC1 := Lib.hid (szRecordSS_any F _ ks 1048576 w0 HK0.out HF0.out (by omega) (by omega))
  by_cases hz : szS (szS szRec) ks 1048576 < 0
  · go_enter Try.func5, Try.ntmps5
    go_wp2_with (go_at_call 15; refine HC1.out.mono ?_; rintro e w1 ⟨rfl, hb⟩)
    go_ret
    exact ⟨rfl, hb⟩
  have hle := szS_le (szS_le szRec_le) ks 1048576 (by omega)
  by_cases hz2 : szS (szKep d) xs (szS (szS szRec) ks 1048576) < 0
  · go_enter Try.func5, Try.ntmps5
    go_wp2_with fail
    refine HC1.out.mono ?_
    rintro e w1 ⟨rfl, hb⟩
    have HC2 := Lib.hid (sz_kept d F _ xs (szS (szS szRec) ks 1048576) w1 (HV0.out.keep (below_keeps hb HF0.out)) (below_goF HF0.out hb) (by omega) (by omega))
    have HE1 := Lib.hid hb
    clear hb HC1
    go_wp2_with (go_at_call 16; refine HC2.out.mono ?_; rintro e w2 ⟨rfl, hb⟩)
    go_ret
    exact ⟨rfl, HE1.out.trans (hb.mono HE1.out.size)⟩
  · have HSm := Lib.hid (vsmall hz hz2)
    have HMF0 := getR_mark HSm.out o kind
    have HSP0 := fun (F : Nat → Prop) (kv v : Value) (w : World) (h1 : Cod.recs.Sl F w kv ks) (h2 : (Cod.kept (Cod.val d)).Sl F w v xs) (h3 : ∀ b, F b → b < w.heap.size) => specVaultsGet_any d F kv v xs o kind w h1 h2 h3 HSm.out.xr
    have HIM0 := fun (F : Nat → Prop) (kv v : Value) (w : World) (h1 : Cod.recs.Sl F w kv ks) (h2 : (Cod.kept (Cod.val d)).Sl F w v xs) (h3 : ∀ b, F b → b < w.heap.size) => himpl d F kv v ks xs o kind w h1 h2 h3 HSm.out (by omega) ho
    unfold GetD at HSP0
    obtain ⟨rr, hrr⟩ : ∃ rr, rr = getR ks d xs o kind := ⟨_, rfl⟩
    rw [← hrr] at HMF0 HSP0 HIM0
    clear hrr
    obtain ⟨r, bo⟩ := rr
    simp only at HMF0 HSP0 HIM0
    have HMF := Lib.hid HMF0
    have HSP := Lib.hid HSP0
    have HIM := Lib.hid HIM0
    clear HMF0 HSP0 HIM0 himpl
    go_enter Try.func5, Try.ntmps5
    go_wp2_with fail
    refine HC1.out.mono ?_
    rintro e w1 ⟨rfl, hb⟩
    have hz0 := hb.size
    have HC2 := Lib.hid (sz_kept d F _ xs (szS (szS szRec) ks 1048576) w1 (HV0.out.keep (below_keeps hb HF0.out)) (below_goF HF0.out hb) (by omega) (by omega))
    have HK1 := Lib.hid (HK0.out.keep (below_keeps hb HF0.out))
    have HV1 := Lib.hid (HV0.out.keep (below_keeps hb HF0.out))
    have HE1 := Lib.hid hb
    clear hb HC1
    go_wp2_with fail
    refine HC2.out.mono ?_
    rintro e w2 ⟨rfl, hb⟩
    have hz1 := hb.size
    have HK2 := Lib.hid (HK1.out.keep (below_keeps hb (below_goF HF0.out HE1.out)))
    have HV2 := Lib.hid (HV1.out.keep (below_keeps hb (below_goF HF0.out HE1.out)))
    have HE2 := Lib.hid (HE1.out.trans (hb.mono HE1.out.size))
    clear hb HC2
    have HC := Lib.hid (toRecordSS_any F _ ks w2 HK2.out (fun b hb => by have := HF0.out b hb; omega) HSm.out.kn HSm.out.kr)
    go_wp2_with fail
    refine HC.out.mono ?_
    rintro e w3 ⟨Ks, kcs, rfl, hI, hb⟩
    clear HC
    have hz2 := hb.size
    have HV3 : Hid ((Cod.kept (Cod.val d)).Sl F w3 (.slice A xs.length cap) xs) := Lib.hid (HV2.out.keep fun b hb' => by have h1 := HF0.out b hb'; exact hb.block b (by omega))
    have HK3 : Hid (Cod.recs.Sl F w3 (.slice Ak ks.length ck) ks) := Lib.hid (HK2.out.keep fun b hb' => by have h1 := HF0.out b hb'; exact hb.block b (by omega))
    have HE3 := Lib.hid (HE2.out.trans (hb.mono (by omega)))
    have Hks3 : Hid (Cod.recs.Sl (fun b => w2.heap.size ≤ b ∧ b < w3.heap.size) w3 (.slice Ks ks.length kcs) ks) := Lib.hid hI
    clear hb hI
    have HC := Lib.hid (to_kept d F _ xs w3 (by rw [okept_cod]; exact HV3.out) (fun b hb => by have := HF0.out b hb; omega) (Nat.le_trans HSm.out.xn (by omega)) HSm.out.xr)
    go_wp2_with fail
    refine HC.out.mono ?_
    rintro e w4 ⟨Ls, lcs, rfl, hO, hb⟩
    clear HC
    have hz3 := hb.size
    have HV4 : Hid ((Cod.kept (Cod.val d)).Sl F w4 (.slice A xs.length cap) xs) := Lib.hid (HV3.out.keep fun b hb' => by have h1 := HF0.out b hb'; exact hb.block b (by omega))
    have HK4 : Hid (Cod.recs.Sl F w4 (.slice Ak ks.length ck) ks) := Lib.hid (HK3.out.keep fun b hb' => by have h1 := HF0.out b hb'; exact hb.block b (by omega))
    have Hks4 : Hid (Cod.recs.Sl (fun b => w2.heap.size ≤ b ∧ b < w3.heap.size) w4 (.slice Ks ks.length kcs) ks) := Lib.hid (Hks3.out.keep fun b hb' => by have h1 := hb'.1; have h2 := hb'.2; exact hb.block b (by omega))
    have HE4 := Lib.hid (HE3.out.trans (hb.mono (by omega)))
    have Hls4 : Hid ((Cod.kept (Cod.val d)).Sl (fun b => w3.heap.size ≤ b ∧ b < w4.heap.size) w4 (.slice Ls xs.length lcs) xs) := Lib.hid (by have := hO.sl; rw [okept_cod] at this; exact this)
    clear hb hO
    have HC := Lib.hid (HSP.out (fun b => b < w4.heap.size) _ _ w4 ((Hks4.out).mono (fun b hb => by have := hb.1; have := hb.2; omega)) ((Hls4.out).mono (fun b hb => by have := hb.1; have := hb.2; omega)) (fun b hb => hb))
    go_wp2_with fail
    refine HC.out.mono ?_
    rintro e w5 ⟨As, vas, Bs, vbs, rfl, hI, hb⟩
    clear HC
    have hz4 := hb.size
    have HV5 : Hid ((Cod.kept (Cod.val d)).Sl F w5 (.slice A xs.length cap) xs) := Lib.hid (HV4.out.keep fun b hb' => by have h1 := HF0.out b hb'; exact hb.block b (by omega))
    have HK5 : Hid (Cod.recs.Sl F w5 (.slice Ak ks.length ck) ks) := Lib.hid (HK4.out.keep fun b hb' => by have h1 := HF0.out b hb'; exact hb.block b (by omega))
    have HE5 := Lib.hid (HE4.out.trans (hb.mono (by omega)))
    have HS5 : Hid (VRd (Cod.val d) (fun b => w4.heap.size ≤ b ∧ b < w5.heap.size) w5 (.slice As r.parts.length vas) (.slice Bs r.path.length vbs) r) := Lib.hid hI
    clear hb hI
    obtain ⟨w6, hw6⟩ : ∃ u, u = w5.alloc (.cells #[.string r.ty, .int .i64 r.n, .slice As r.parts.length vas, .slice Bs r.path.length vbs] 31) := ⟨_, rfl⟩
    have HXS6 := Lib.hid (show Blk w6 w5.heap.size 31 #[.string r.ty, .int .i64 r.n, .slice As r.parts.length vas, .slice Bs r.path.length vbs] by rw [hw6]; exact Blk.new _ _ _)
    have hb : Below w5.heap.size w5 w6 := by rw [hw6]; exact (Below.refl _ _).alloc (Nat.le_refl _) _
    have hy6 : w5.heap.size + 1 = w6.heap.size := by rw [hw6]; simp
    have Hw6 := Lib.hid hw6
    clear hw6
    have hz5 := hb.size
    have HV6 : Hid ((Cod.kept (Cod.val d)).Sl F w6 (.slice A xs.length cap) xs) := Lib.hid (HV5.out.keep fun b hb' => by have h1 := HF0.out b hb'; exact hb.block b (by omega))
    have HK6 : Hid (Cod.recs.Sl F w6 (.slice Ak ks.length ck) ks) := Lib.hid (HK5.out.keep fun b hb' => by have h1 := HF0.out b hb'; exact hb.block b (by omega))
    have HS6 : Hid (VRd (Cod.val d) (fun b => w4.heap.size ≤ b ∧ b < w5.heap.size) w6 (.slice As r.parts.length vas) (.slice Bs r.path.length vbs) r) := Lib.hid (HS5.out.keep fun b hb' => by have h1 := hb'.1; have h2 := hb'.2; exact hb.block b (by omega))
    have HE6 := Lib.hid (HE5.out.trans (hb.mono (by omega)))
    clear hb
    have HC := Lib.hid (toRecordSS_own F _ ks w6 HK6.out (fun b hb => by have := HF0.out b hb; omega) HSm.out.kn HSm.out.kr)
    go_wp2_with fail
    rw [← Hw6.out]
    refine HC.out.mono ?_
    rintro e w7 ⟨Km, kcm, rfl, hO, hb⟩
    clear HC
    have hz6 := hb.size
    have HV7 : Hid ((Cod.kept (Cod.val d)).Sl F w7 (.slice A xs.length cap) xs) := Lib.hid (HV6.out.keep fun b hb' => by have h1 := HF0.out b hb'; exact hb.block b (by omega))
    have HK7 : Hid (Cod.recs.Sl F w7 (.slice Ak ks.length ck) ks) := Lib.hid (HK6.out.keep fun b hb' => by have h1 := HF0.out b hb'; exact hb.block b (by omega))
    have HS7 : Hid (VRd (Cod.val d) (fun b => w4.heap.size ≤ b ∧ b < w5.heap.size) w7 (.slice As r.parts.length vas) (.slice Bs r.path.length vbs) r) := Lib.hid (HS6.out.keep fun b hb' => by have h1 := hb'.1; have h2 := hb'.2; exact hb.block b (by omega))
    have HXS7 : Hid (Blk w7 w5.heap.size 31 #[.string r.ty, .int .i64 r.n, .slice As r.parts.length vas, .slice Bs r.path.length vbs]) := Lib.hid ((hb.block (w5.heap.size) (by omega)).trans HXS6.out)
    have HE7 := Lib.hid (HE6.out.trans (hb.mono (by omega)))
    have HOkm7 : Hid (Own ((OCod.rec_ 9).row 112) 85 w6.heap.size w7.heap.size w7 (.slice Km ks.length kcm) ks) := Lib.hid hO
    clear hb hO
    have HC := Lib.hid (to_kept d F _ xs w7 (by rw [okept_cod]; exact HV7.out) (fun b hb => by have := HF0.out b hb; omega) (Nat.le_trans HSm.out.xn (by omega)) HSm.out.xr)
    go_wp2_with fail
    refine HC.out.mono ?_
    rintro e w8 ⟨Lm, lcm, rfl, hO, hb⟩
    clear HC
    have hz7 := hb.size
    have HV8 : Hid ((Cod.kept (Cod.val d)).Sl F w8 (.slice A xs.length cap) xs) := Lib.hid (HV7.out.keep fun b hb' => by have h1 := HF0.out b hb'; exact hb.block b (by omega))
    have HK8 : Hid (Cod.recs.Sl F w8 (.slice Ak ks.length ck) ks) := Lib.hid (HK7.out.keep fun b hb' => by have h1 := HF0.out b hb'; exact hb.block b (by omega))
    have HS8 : Hid (VRd (Cod.val d) (fun b => w4.heap.size ≤ b ∧ b < w5.heap.size) w8 (.slice As r.parts.length vas) (.slice Bs r.path.length vbs) r) := Lib.hid (HS7.out.keep fun b hb' => by have h1 := hb'.1; have h2 := hb'.2; exact hb.block b (by omega))
    have HXS8 : Hid (Blk w8 w5.heap.size 31 #[.string r.ty, .int .i64 r.n, .slice As r.parts.length vas, .slice Bs r.path.length vbs]) := Lib.hid ((hb.block (w5.heap.size) (by omega)).trans HXS7.out)
    have HOkm8 : Hid (Own ((OCod.rec_ 9).row 112) 85 w6.heap.size w7.heap.size w8 (.slice Km ks.length kcm) ks) := Lib.hid (HOkm7.out.keep fun b g1 g2 => hb.block b (by omega))
    have HE8 := Lib.hid (HE7.out.trans (hb.mono (by omega)))
    have HOlm8 : Hid (Own (OKept d) 35 w7.heap.size w8.heap.size w8 (.slice Lm xs.length lcm) xs) := Lib.hid hO
    clear hb hO
    have HC := Lib.hid (HIM.out (fun b => b < w8.heap.size) _ _ w8 ((HOkm8.out.sl).mono (fun b hb => by have := hb.1; have := hb.2; omega)) (((show (Cod.kept (Cod.val d)).Sl _ _ _ _ by have := HOlm8.out.sl; rw [okept_cod] at this; exact this)).mono (fun b hb => by have := hb.1; have := hb.2; omega)) (fun b hb => hb))
    go_wp2_with fail
    refine HC.out.mono ?_
    rintro e w9 ⟨Ag, vag, Bg, vbg, rfl, hO, hb⟩
    clear HC
    have hz8 := hb.size
    have HV9 : Hid ((Cod.kept (Cod.val d)).Sl F w9 (.slice A xs.length cap) xs) := Lib.hid (HV8.out.keep fun b hb' => by have h1 := HF0.out b hb'; exact hb.block b (by omega))
    have HK9 : Hid (Cod.recs.Sl F w9 (.slice Ak ks.length ck) ks) := Lib.hid (HK8.out.keep fun b hb' => by have h1 := HF0.out b hb'; exact hb.block b (by omega))
    have HS9 : Hid (VRd (Cod.val d) (fun b => w4.heap.size ≤ b ∧ b < w5.heap.size) w9 (.slice As r.parts.length vas) (.slice Bs r.path.length vbs) r) := Lib.hid (HS8.out.keep fun b hb' => by have h1 := hb'.1; have h2 := hb'.2; exact hb.block b (by omega))
    have HXS9 : Hid (Blk w9 w5.heap.size 31 #[.string r.ty, .int .i64 r.n, .slice As r.parts.length vas, .slice Bs r.path.length vbs]) := Lib.hid ((hb.block (w5.heap.size) (by omega)).trans HXS8.out)
    have HOkm9 : Hid (Own ((OCod.rec_ 9).row 112) 85 w6.heap.size w7.heap.size w9 (.slice Km ks.length kcm) ks) := Lib.hid (HOkm8.out.keep fun b g1 g2 => hb.block b (by omega))
    have HOlm9 : Hid (Own (OKept d) 35 w7.heap.size w8.heap.size w9 (.slice Lm xs.length lcm) xs) := Lib.hid (HOlm8.out.keep fun b g1 g2 => hb.block b (by omega))
    have HE9 := Lib.hid (HE8.out.trans (hb.mono (by omega)))
    have HOvg9 : Hid (OV (OCod.val 31 3 d) 31 3 w8.heap.size w9.heap.size w9 (.slice Ag r.parts.length vag) (.slice Bg r.path.length vbg) r) := Lib.hid hO
    clear hb hO
    obtain ⟨w10, hw10⟩ : ∃ u, u = w9.alloc (.cells #[.string r.ty, .int .i64 r.n, .slice Ag r.parts.length vag, .slice Bg r.path.length vbg] 31) := ⟨_, rfl⟩
    have HXG10 := Lib.hid (show Blk w10 w9.heap.size 31 #[.string r.ty, .int .i64 r.n, .slice Ag r.parts.length vag, .slice Bg r.path.length vbg] by rw [hw10]; exact Blk.new _ _ _)
    have hb : Below w9.heap.size w9 w10 := by rw [hw10]; exact (Below.refl _ _).alloc (Nat.le_refl _) _
    have hy10 : w9.heap.size + 1 = w10.heap.size := by rw [hw10]; simp
    have Hw10 := Lib.hid hw10
    clear hw10
    have hz9 := hb.size
    have HV10 : Hid ((Cod.kept (Cod.val d)).Sl F w10 (.slice A xs.length cap) xs) := Lib.hid (HV9.out.keep fun b hb' => by have h1 := HF0.out b hb'; exact hb.block b (by omega))
    have HK10 : Hid (Cod.recs.Sl F w10 (.slice Ak ks.length ck) ks) := Lib.hid (HK9.out.keep fun b hb' => by have h1 := HF0.out b hb'; exact hb.block b (by omega))
    have HS10 : Hid (VRd (Cod.val d) (fun b => w4.heap.size ≤ b ∧ b < w5.heap.size) w10 (.slice As r.parts.length vas) (.slice Bs r.path.length vbs) r) := Lib.hid (HS9.out.keep fun b hb' => by have h1 := hb'.1; have h2 := hb'.2; exact hb.block b (by omega))
    have HXS10 : Hid (Blk w10 w5.heap.size 31 #[.string r.ty, .int .i64 r.n, .slice As r.parts.length vas, .slice Bs r.path.length vbs]) := Lib.hid ((hb.block (w5.heap.size) (by omega)).trans HXS9.out)
    have HOkm10 : Hid (Own ((OCod.rec_ 9).row 112) 85 w6.heap.size w7.heap.size w10 (.slice Km ks.length kcm) ks) := Lib.hid (HOkm9.out.keep fun b g1 g2 => hb.block b (by omega))
    have HOlm10 : Hid (Own (OKept d) 35 w7.heap.size w8.heap.size w10 (.slice Lm xs.length lcm) xs) := Lib.hid (HOlm9.out.keep fun b g1 g2 => hb.block b (by omega))
    have HOvg10 : Hid (OV (OCod.val 31 3 d) 31 3 w8.heap.size w9.heap.size w10 (.slice Ag r.parts.length vag) (.slice Bg r.path.length vbg) r) := Lib.hid (HOvg9.out.keep fun b g1 g2 => hb.block b (by omega))
    have HE10 := Lib.hid (HE9.out.trans (hb.mono (by omega)))
    clear hb
    have HC := Lib.hid (eqValue_any d (fun b => b < w10.heap.size) (.slice Ag r.parts.length vag) (.slice Bg r.path.length vbg) (.slice As r.parts.length vas) (.slice Bs r.path.length vbs) r w10 (((show VRd (Cod.val d) _ _ _ _ _ by have := HOvg10.out.rd; rw [OCod.val_cod] at this; exact this)).mono (fun b hb => by have := hb.1; have := hb.2; omega)) ((HS10.out).mono (fun b hb => by have := hb.1; have := hb.2; omega)) fun b hb => hb)
    obtain ⟨q0, q1, q2, q3⟩ := HXS9.out.c2
    have hbd1 : w5.heap.size < w9.heap.size := by omega
    go_wp2_with fail
    rw [← Hw10.out]
    refine HC.out.mono ?_
    rintro e w11 ⟨rfl, hb⟩
    clear HC q0 q1 q2 q3 hbd1
    have hz10 := hb.size
    have HV11 : Hid ((Cod.kept (Cod.val d)).Sl F w11 (.slice A xs.length cap) xs) := Lib.hid (HV10.out.keep fun b hb' => by have h1 := HF0.out b hb'; exact hb.block b (by omega))
    have HK11 : Hid (Cod.recs.Sl F w11 (.slice Ak ks.length ck) ks) := Lib.hid (HK10.out.keep fun b hb' => by have h1 := HF0.out b hb'; exact hb.block b (by omega))
    have HS11 : Hid (VRd (Cod.val d) (fun b => w4.heap.size ≤ b ∧ b < w5.heap.size) w11 (.slice As r.parts.length vas) (.slice Bs r.path.length vbs) r) := Lib.hid (HS10.out.keep fun b hb' => by have h1 := hb'.1; have h2 := hb'.2; exact hb.block b (by omega))
    have HXS11 : Hid (Blk w11 w5.heap.size 31 #[.string r.ty, .int .i64 r.n, .slice As r.parts.length vas, .slice Bs r.path.length vbs]) := Lib.hid ((hb.block (w5.heap.size) (by omega)).trans HXS10.out)
    have HOkm11 : Hid (Own ((OCod.rec_ 9).row 112) 85 w6.heap.size w7.heap.size w11 (.slice Km ks.length kcm) ks) := Lib.hid (HOkm10.out.keep fun b g1 g2 => hb.block b (by omega))
    have HOlm11 : Hid (Own (OKept d) 35 w7.heap.size w8.heap.size w11 (.slice Lm xs.length lcm) xs) := Lib.hid (HOlm10.out.keep fun b g1 g2 => hb.block b (by omega))
    have HOvg11 : Hid (OV (OCod.val 31 3 d) 31 3 w8.heap.size w9.heap.size w11 (.slice Ag r.parts.length vag) (.slice Bg r.path.length vbg) r) := Lib.hid (HOvg10.out.keep fun b g1 g2 => hb.block b (by omega))
    have HXG11 : Hid (Blk w11 w9.heap.size 31 #[.string r.ty, .int .i64 r.n, .slice Ag r.parts.length vag, .slice Bg r.path.length vbg]) := Lib.hid ((hb.block (w9.heap.size) (by omega)).trans HXG10.out)
    have HE11 := Lib.hid (HE10.out.trans (hb.mono (by omega)))
    clear hb
    have HC := Lib.hid (toRecordSS_any F _ ks w11 HK11.out (fun b hb => by have := HF0.out b hb; omega) HSm.out.kn HSm.out.kr)
    go_wp2_with fail
    refine HC.out.mono ?_
    rintro e w12 ⟨Ke, kce, rfl, hI, hb⟩
    clear HC
    have hz11 := hb.size
    have HV12 : Hid ((Cod.kept (Cod.val d)).Sl F w12 (.slice A xs.length cap) xs) := Lib.hid (HV11.out.keep fun b hb' => by have h1 := HF0.out b hb'; exact hb.block b (by omega))
    have HK12 : Hid (Cod.recs.Sl F w12 (.slice Ak ks.length ck) ks) := Lib.hid (HK11.out.keep fun b hb' => by have h1 := HF0.out b hb'; exact hb.block b (by omega))
    have HS12 : Hid (VRd (Cod.val d) (fun b => w4.heap.size ≤ b ∧ b < w5.heap.size) w12 (.slice As r.parts.length vas) (.slice Bs r.path.length vbs) r) := Lib.hid (HS11.out.keep fun b hb' => by have h1 := hb'.1; have h2 := hb'.2; exact hb.block b (by omega))
    have HXS12 : Hid (Blk w12 w5.heap.size 31 #[.string r.ty, .int .i64 r.n, .slice As r.parts.length vas, .slice Bs r.path.length vbs]) := Lib.hid ((hb.block (w5.heap.size) (by omega)).trans HXS11.out)
    have HOkm12 : Hid (Own ((OCod.rec_ 9).row 112) 85 w6.heap.size w7.heap.size w12 (.slice Km ks.length kcm) ks) := Lib.hid (HOkm11.out.keep fun b g1 g2 => hb.block b (by omega))
    have HOlm12 : Hid (Own (OKept d) 35 w7.heap.size w8.heap.size w12 (.slice Lm xs.length lcm) xs) := Lib.hid (HOlm11.out.keep fun b g1 g2 => hb.block b (by omega))
    have HOvg12 : Hid (OV (OCod.val 31 3 d) 31 3 w8.heap.size w9.heap.size w12 (.slice Ag r.parts.length vag) (.slice Bg r.path.length vbg) r) := Lib.hid (HOvg11.out.keep fun b g1 g2 => hb.block b (by omega))
    have HXG12 : Hid (Blk w12 w9.heap.size 31 #[.string r.ty, .int .i64 r.n, .slice Ag r.parts.length vag, .slice Bg r.path.length vbg]) := Lib.hid ((hb.block (w9.heap.size) (by omega)).trans HXG11.out)
    have HE12 := Lib.hid (HE11.out.trans (hb.mono (by omega)))
    have Hke12 : Hid (Cod.recs.Sl (fun b => w11.heap.size ≤ b ∧ b < w12.heap.size) w12 (.slice Ke ks.length kce) ks) := Lib.hid hI
    clear hb hI
    have HC := Lib.hid (eqRecordSS_any (fun b => b < w12.heap.size) _ _ ks w12 ((HOkm12.out.sl).mono (fun b hb => by have := hb.1; have := hb.2; omega)) ((Hke12.out).mono (fun b hb => by have := hb.1; have := hb.2; omega)) fun b hb => hb)
    go_wp2_with fail
    refine HC.out.mono ?_
    rintro e w13 ⟨rfl, hb⟩
    clear HC
    have hz12 := hb.size
    have HV13 : Hid ((Cod.kept (Cod.val d)).Sl F w13 (.slice A xs.length cap) xs) := Lib.hid (HV12.out.keep fun b hb' => by have h1 := HF0.out b hb'; exact hb.block b (by omega))
    have HK13 : Hid (Cod.recs.Sl F w13 (.slice Ak ks.length ck) ks) := Lib.hid (HK12.out.keep fun b hb' => by have h1 := HF0.out b hb'; exact hb.block b (by omega))
    have HS13 : Hid (VRd (Cod.val d) (fun b => w4.heap.size ≤ b ∧ b < w5.heap.size) w13 (.slice As r.parts.length vas) (.slice Bs r.path.length vbs) r) := Lib.hid (HS12.out.keep fun b hb' => by have h1 := hb'.1; have h2 := hb'.2; exact hb.block b (by omega))
    have HXS13 : Hid (Blk w13 w5.heap.size 31 #[.string r.ty, .int .i64 r.n, .slice As r.parts.length vas, .slice Bs r.path.length vbs]) := Lib.hid ((hb.block (w5.heap.size) (by omega)).trans HXS12.out)
    have HOkm13 : Hid (Own ((OCod.rec_ 9).row 112) 85 w6.heap.size w7.heap.size w13 (.slice Km ks.length kcm) ks) := Lib.hid (HOkm12.out.keep fun b g1 g2 => hb.block b (by omega))
    have HOlm13 : Hid (Own (OKept d) 35 w7.heap.size w8.heap.size w13 (.slice Lm xs.length lcm) xs) := Lib.hid (HOlm12.out.keep fun b g1 g2 => hb.block b (by omega))
    have HOvg13 : Hid (OV (OCod.val 31 3 d) 31 3 w8.heap.size w9.heap.size w13 (.slice Ag r.parts.length vag) (.slice Bg r.path.length vbg) r) := Lib.hid (HOvg12.out.keep fun b g1 g2 => hb.block b (by omega))
    have HXG13 : Hid (Blk w13 w9.heap.size 31 #[.string r.ty, .int .i64 r.n, .slice Ag r.parts.length vag, .slice Bg r.path.length vbg]) := Lib.hid ((hb.block (w9.heap.size) (by omega)).trans HXG12.out)
    have HE13 := Lib.hid (HE12.out.trans (hb.mono (by omega)))
    clear hb
    have HC := Lib.hid (to_kept d F _ xs w13 (by rw [okept_cod]; exact HV13.out) (fun b hb => by have := HF0.out b hb; omega) (Nat.le_trans HSm.out.xn (by omega)) HSm.out.xr)
    go_wp2_with fail
    refine HC.out.mono ?_
    rintro e w14 ⟨Le, lce, rfl, hO, hb⟩
    clear HC
    have hz13 := hb.size
    have HV14 : Hid ((Cod.kept (Cod.val d)).Sl F w14 (.slice A xs.length cap) xs) := Lib.hid (HV13.out.keep fun b hb' => by have h1 := HF0.out b hb'; exact hb.block b (by omega))
    have HK14 : Hid (Cod.recs.Sl F w14 (.slice Ak ks.length ck) ks) := Lib.hid (HK13.out.keep fun b hb' => by have h1 := HF0.out b hb'; exact hb.block b (by omega))
    have HS14 : Hid (VRd (Cod.val d) (fun b => w4.heap.size ≤ b ∧ b < w5.heap.size) w14 (.slice As r.parts.length vas) (.slice Bs r.path.length vbs) r) := Lib.hid (HS13.out.keep fun b hb' => by have h1 := hb'.1; have h2 := hb'.2; exact hb.block b (by omega))
    have HXS14 : Hid (Blk w14 w5.heap.size 31 #[.string r.ty, .int .i64 r.n, .slice As r.parts.length vas, .slice Bs r.path.length vbs]) := Lib.hid ((hb.block (w5.heap.size) (by omega)).trans HXS13.out)
    have HOkm14 : Hid (Own ((OCod.rec_ 9).row 112) 85 w6.heap.size w7.heap.size w14 (.slice Km ks.length kcm) ks) := Lib.hid (HOkm13.out.keep fun b g1 g2 => hb.block b (by omega))
    have HOlm14 : Hid (Own (OKept d) 35 w7.heap.size w8.heap.size w14 (.slice Lm xs.length lcm) xs) := Lib.hid (HOlm13.out.keep fun b g1 g2 => hb.block b (by omega))
    have HOvg14 : Hid (OV (OCod.val 31 3 d) 31 3 w8.heap.size w9.heap.size w14 (.slice Ag r.parts.length vag) (.slice Bg r.path.length vbg) r) := Lib.hid (HOvg13.out.keep fun b g1 g2 => hb.block b (by omega))
    have HXG14 : Hid (Blk w14 w9.heap.size 31 #[.string r.ty, .int .i64 r.n, .slice Ag r.parts.length vag, .slice Bg r.path.length vbg]) := Lib.hid ((hb.block (w9.heap.size) (by omega)).trans HXG13.out)
    have HE14 := Lib.hid (HE13.out.trans (hb.mono (by omega)))
    have Hle14 : Hid ((Cod.kept (Cod.val d)).Sl (fun b => w13.heap.size ≤ b ∧ b < w14.heap.size) w14 (.slice Le xs.length lce) xs) := Lib.hid (by have := hO.sl; rw [okept_cod] at this; exact this)
    clear hb hO
    have HC := Lib.hid (eq_kept d (fun b => b < w14.heap.size) _ _ xs w14 (((show (Cod.kept (Cod.val d)).Sl _ _ _ _ by have := HOlm14.out.sl; rw [okept_cod] at this; exact this)).mono (fun b hb => by have := hb.1; have := hb.2; omega)) ((Hle14.out).mono (fun b hb => by have := hb.1; have := hb.2; omega)) fun b hb => hb)
    go_wp2_with fail
    refine HC.out.mono ?_
    rintro e w15 ⟨rfl, hb⟩
    clear HC
    have hz14 := hb.size
    have HV15 : Hid ((Cod.kept (Cod.val d)).Sl F w15 (.slice A xs.length cap) xs) := Lib.hid (HV14.out.keep fun b hb' => by have h1 := HF0.out b hb'; exact hb.block b (by omega))
    have HK15 : Hid (Cod.recs.Sl F w15 (.slice Ak ks.length ck) ks) := Lib.hid (HK14.out.keep fun b hb' => by have h1 := HF0.out b hb'; exact hb.block b (by omega))
    have HS15 : Hid (VRd (Cod.val d) (fun b => w4.heap.size ≤ b ∧ b < w5.heap.size) w15 (.slice As r.parts.length vas) (.slice Bs r.path.length vbs) r) := Lib.hid (HS14.out.keep fun b hb' => by have h1 := hb'.1; have h2 := hb'.2; exact hb.block b (by omega))
    have HXS15 : Hid (Blk w15 w5.heap.size 31 #[.string r.ty, .int .i64 r.n, .slice As r.parts.length vas, .slice Bs r.path.length vbs]) := Lib.hid ((hb.block (w5.heap.size) (by omega)).trans HXS14.out)
    have HOkm15 : Hid (Own ((OCod.rec_ 9).row 112) 85 w6.heap.size w7.heap.size w15 (.slice Km ks.length kcm) ks) := Lib.hid (HOkm14.out.keep fun b g1 g2 => hb.block b (by omega))
    have HOlm15 : Hid (Own (OKept d) 35 w7.heap.size w8.heap.size w15 (.slice Lm xs.length lcm) xs) := Lib.hid (HOlm14.out.keep fun b g1 g2 => hb.block b (by omega))
    have HOvg15 : Hid (OV (OCod.val 31 3 d) 31 3 w8.heap.size w9.heap.size w15 (.slice Ag r.parts.length vag) (.slice Bg r.path.length vbg) r) := Lib.hid (HOvg14.out.keep fun b g1 g2 => hb.block b (by omega))
    have HXG15 : Hid (Blk w15 w9.heap.size 31 #[.string r.ty, .int .i64 r.n, .slice Ag r.parts.length vag, .slice Bg r.path.length vbg]) := Lib.hid ((hb.block (w9.heap.size) (by omega)).trans HXG14.out)
    have HE15 := Lib.hid (HE14.out.trans (hb.mono (by omega)))
    clear hb
    have HC := Lib.hid (markRecordSS_any w6.heap.size w7.heap.size 1 _ ks w15 HOkm15.out (by omega) (by omega) (Nat.le_trans HSm.out.mks (by omega)))
    go_wp2_with fail
    refine HC.out.mono ?_
    rintro e w16 ⟨rfl, hO, hW⟩
    clear HC
    have hz15 := hW.size
    have HV16 : Hid ((Cod.kept (Cod.val d)).Sl F w16 (.slice A xs.length cap) xs) := Lib.hid (HV15.out.keep fun b hb' => by have h1 := HF0.out b hb'; exact hW.block b (by omega) (by omega))
    have HK16 : Hid (Cod.recs.Sl F w16 (.slice Ak ks.length ck) ks) := Lib.hid (HK15.out.keep fun b hb' => by have h1 := HF0.out b hb'; exact hW.block b (by omega) (by omega))
    have HS16 : Hid (VRd (Cod.val d) (fun b => w4.heap.size ≤ b ∧ b < w5.heap.size) w16 (.slice As r.parts.length vas) (.slice Bs r.path.length vbs) r) := Lib.hid (HS15.out.keep fun b hb' => by have h1 := hb'.1; have h2 := hb'.2; exact hW.block b (by omega) (by omega))
    have HXS16 : Hid (Blk w16 w5.heap.size 31 #[.string r.ty, .int .i64 r.n, .slice As r.parts.length vas, .slice Bs r.path.length vbs]) := Lib.hid ((hW.block (w5.heap.size) (by omega) (by omega)).trans HXS15.out)
    have HOlm16 : Hid (Own (OKept d) 35 w7.heap.size w8.heap.size w16 (.slice Lm xs.length lcm) xs) := Lib.hid (HOlm15.out.keep fun b g1 g2 => hW.block b (by omega) (by omega))
    have HOvg16 : Hid (OV (OCod.val 31 3 d) 31 3 w8.heap.size w9.heap.size w16 (.slice Ag r.parts.length vag) (.slice Bg r.path.length vbg) r) := Lib.hid (HOvg15.out.keep fun b g1 g2 => hW.block b (by omega) (by omega))
    have HXG16 : Hid (Blk w16 w9.heap.size 31 #[.string r.ty, .int .i64 r.n, .slice Ag r.parts.length vag, .slice Bg r.path.length vbg]) := Lib.hid ((hW.block (w9.heap.size) (by omega) (by omega)).trans HXG15.out)
    have HE16 := Lib.hid (HE15.out.trans (Wrote.to_below hW (by omega) (by omega)))
    clear hW hO
    have HC := Lib.hid (mark_kept d w7.heap.size w8.heap.size _ _ xs w16 HOlm16.out (by omega) (by have := mkRS_pos ks 1; omega) (Nat.le_trans HSm.out.mx (by omega)))
    go_wp2_with fail
    refine HC.out.mono ?_
    rintro e w17 ⟨rfl, hO, hW⟩
    clear HC
    have hz16 := hW.size
    have HV17 : Hid ((Cod.kept (Cod.val d)).Sl F w17 (.slice A xs.length cap) xs) := Lib.hid (HV16.out.keep fun b hb' => by have h1 := HF0.out b hb'; exact hW.block b (by omega) (by omega))
    have HK17 : Hid (Cod.recs.Sl F w17 (.slice Ak ks.length ck) ks) := Lib.hid (HK16.out.keep fun b hb' => by have h1 := HF0.out b hb'; exact hW.block b (by omega) (by omega))
    have HS17 : Hid (VRd (Cod.val d) (fun b => w4.heap.size ≤ b ∧ b < w5.heap.size) w17 (.slice As r.parts.length vas) (.slice Bs r.path.length vbs) r) := Lib.hid (HS16.out.keep fun b hb' => by have h1 := hb'.1; have h2 := hb'.2; exact hW.block b (by omega) (by omega))
    have HXS17 : Hid (Blk w17 w5.heap.size 31 #[.string r.ty, .int .i64 r.n, .slice As r.parts.length vas, .slice Bs r.path.length vbs]) := Lib.hid ((hW.block (w5.heap.size) (by omega) (by omega)).trans HXS16.out)
    have HOvg17 : Hid (OV (OCod.val 31 3 d) 31 3 w8.heap.size w9.heap.size w17 (.slice Ag r.parts.length vag) (.slice Bg r.path.length vbg) r) := Lib.hid (HOvg16.out.keep fun b g1 g2 => hW.block b (by omega) (by omega))
    have HXG17 : Hid (Blk w17 w9.heap.size 31 #[.string r.ty, .int .i64 r.n, .slice Ag r.parts.length vag, .slice Bg r.path.length vbg]) := Lib.hid ((hW.block (w9.heap.size) (by omega) (by omega)).trans HXG16.out)
    have HE17 := Lib.hid (HE16.out.trans (Wrote.to_below hW (by omega) (by omega)))
    clear hW hO
    have hpos : ¬ (((markL (mkKep d) xs (markL mkRS ks 1).2).2 : Nat) : Int) < 0 := by omega
    have HC := Lib.hid (eqValue_any d (fun b => b < w17.heap.size) (.slice Ag r.parts.length vag) (.slice Bg r.path.length vbg) (.slice As r.parts.length vas) (.slice Bs r.path.length vbs) r w17 (((show VRd (Cod.val d) _ _ _ _ _ by have := HOvg17.out.rd; rw [OCod.val_cod] at this; exact this)).mono (fun b hb => by have := hb.1; have := hb.2; omega)) ((HS17.out).mono (fun b hb => by have := hb.1; have := hb.2; omega)) fun b hb => hb)
    obtain ⟨p0, p1, p2, p3⟩ := HXG17.out.c2
    obtain ⟨q0, q1, q2, q3⟩ := HXS17.out.c2
    go_wp2_with fail
    refine HC.out.mono ?_
    rintro e w18 ⟨rfl, hb⟩
    clear HC p0 p1 p2 p3 q0 q1 q2 q3
    have hz17 := hb.size
    have HV18 : Hid ((Cod.kept (Cod.val d)).Sl F w18 (.slice A xs.length cap) xs) := Lib.hid (HV17.out.keep fun b hb' => by have h1 := HF0.out b hb'; exact hb.block b (by omega))
    have HK18 : Hid (Cod.recs.Sl F w18 (.slice Ak ks.length ck) ks) := Lib.hid (HK17.out.keep fun b hb' => by have h1 := HF0.out b hb'; exact hb.block b (by omega))
    have HS18 : Hid (VRd (Cod.val d) (fun b => w4.heap.size ≤ b ∧ b < w5.heap.size) w18 (.slice As r.parts.length vas) (.slice Bs r.path.length vbs) r) := Lib.hid (HS17.out.keep fun b hb' => by have h1 := hb'.1; have h2 := hb'.2; exact hb.block b (by omega))
    have HXS18 : Hid (Blk w18 w5.heap.size 31 #[.string r.ty, .int .i64 r.n, .slice As r.parts.length vas, .slice Bs r.path.length vbs]) := Lib.hid ((hb.block (w5.heap.size) (by omega)).trans HXS17.out)
    have HOvg18 : Hid (OV (OCod.val 31 3 d) 31 3 w8.heap.size w9.heap.size w18 (.slice Ag r.parts.length vag) (.slice Bg r.path.length vbg) r) := Lib.hid (HOvg17.out.keep fun b g1 g2 => hb.block b (by omega))
    have HXG18 : Hid (Blk w18 w9.heap.size 31 #[.string r.ty, .int .i64 r.n, .slice Ag r.parts.length vag, .slice Bg r.path.length vbg]) := Lib.hid ((hb.block (w9.heap.size) (by omega)).trans HXG17.out)
    have HE18 := Lib.hid (HE17.out.trans (hb.mono (by omega)))
    clear hb
    clear hpos
    have HC := Lib.hid (markValue_any d w8.heap.size w9.heap.size 1 Ag Bg _ _ vag vbg r w18 HOvg18.out (by omega) (by omega) HMF.out)
    obtain ⟨p0, p1, p2, p3⟩ := HXG18.out.c2
    go_wp2_with fail
    refine HC.out.mono ?_
    rintro e w19 ⟨rfl, hO, hW⟩
    clear HC p0 p1 p2 p3
    have hz18 := hW.size
    have HV19 : Hid ((Cod.kept (Cod.val d)).Sl F w19 (.slice A xs.length cap) xs) := Lib.hid (HV18.out.keep fun b hb' => by have h1 := HF0.out b hb'; exact hW.block b (by omega) (by omega))
    have HK19 : Hid (Cod.recs.Sl F w19 (.slice Ak ks.length ck) ks) := Lib.hid (HK18.out.keep fun b hb' => by have h1 := HF0.out b hb'; exact hW.block b (by omega) (by omega))
    have HS19 : Hid (VRd (Cod.val d) (fun b => w4.heap.size ≤ b ∧ b < w5.heap.size) w19 (.slice As r.parts.length vas) (.slice Bs r.path.length vbs) r) := Lib.hid (HS18.out.keep fun b hb' => by have h1 := hb'.1; have h2 := hb'.2; exact hW.block b (by omega) (by omega))
    have HXS19 : Hid (Blk w19 w5.heap.size 31 #[.string r.ty, .int .i64 r.n, .slice As r.parts.length vas, .slice Bs r.path.length vbs]) := Lib.hid ((hW.block (w5.heap.size) (by omega) (by omega)).trans HXS18.out)
    have HXG19 : Hid (Blk w19 w9.heap.size 31 #[.string r.ty, .int .i64 r.n, .slice Ag r.parts.length vag, .slice Bg r.path.length vbg]) := Lib.hid ((hW.block (w9.heap.size) (by omega) (by omega)).trans HXG18.out)
    have HE19 := Lib.hid (HE18.out.trans (Wrote.to_below hW (by omega) (by omega)))
    have HOvg19 : Hid (OV (OCod.val 31 3 d) 31 3 w8.heap.size w9.heap.size w19 (.slice Ag r.parts.length vag) (.slice Bg r.path.length vbg) (mkTop (mkV d) r 1).1) := Lib.hid hO
    clear hW hO
    have hpos : ¬ (((mkTop (mkV d) r 1).2 : Nat) : Int) < 0 := by omega
    have HC := Lib.hid (heldValue_any d (fun b => b < w19.heap.size) 1 Ag Bg _ _ vag vbg r w19 (((show VRd (Cod.val d) _ _ _ _ _ by have := HOvg19.out.rd; rw [OCod.val_cod] at this; exact this)).mono (fun b hb => by have := hb.1; have := hb.2; omega)) (fun b hb => hb) (by omega) HMF.out)
    obtain ⟨p0, p1, p2, p3⟩ := HXG19.out.c2
    go_wp2_with fail
    refine HC.out.mono ?_
    rintro e w20 ⟨rfl, hb⟩
    clear HC p0 p1 p2 p3
    have hz19 := hb.size
    have HV20 : Hid ((Cod.kept (Cod.val d)).Sl F w20 (.slice A xs.length cap) xs) := Lib.hid (HV19.out.keep fun b hb' => by have h1 := HF0.out b hb'; exact hb.block b (by omega))
    have HK20 : Hid (Cod.recs.Sl F w20 (.slice Ak ks.length ck) ks) := Lib.hid (HK19.out.keep fun b hb' => by have h1 := HF0.out b hb'; exact hb.block b (by omega))
    have HS20 : Hid (VRd (Cod.val d) (fun b => w4.heap.size ≤ b ∧ b < w5.heap.size) w20 (.slice As r.parts.length vas) (.slice Bs r.path.length vbs) r) := Lib.hid (HS19.out.keep fun b hb' => by have h1 := hb'.1; have h2 := hb'.2; exact hb.block b (by omega))
    have HXS20 : Hid (Blk w20 w5.heap.size 31 #[.string r.ty, .int .i64 r.n, .slice As r.parts.length vas, .slice Bs r.path.length vbs]) := Lib.hid ((hb.block (w5.heap.size) (by omega)).trans HXS19.out)
    have HXG20 : Hid (Blk w20 w9.heap.size 31 #[.string r.ty, .int .i64 r.n, .slice Ag r.parts.length vag, .slice Bg r.path.length vbg]) := Lib.hid ((hb.block (w9.heap.size) (by omega)).trans HXG19.out)
    have HOvg20 : Hid (OV (OCod.val 31 3 d) 31 3 w8.heap.size w9.heap.size w20 (.slice Ag r.parts.length vag) (.slice Bg r.path.length vbg) (mkTop (mkV d) r 1).1) := Lib.hid (HOvg19.out.keep fun b g1 g2 => hb.block b (by omega))
    have HE20 := Lib.hid (HE19.out.trans (hb.mono (by omega)))
    clear hb
    have HC := Lib.hid (toRecordSS_any F _ ks w20 HK20.out (fun b hb => by have := HF0.out b hb; omega) HSm.out.kn HSm.out.kr)
    go_wp2_with fail
    refine HC.out.mono ?_
    rintro e w21 ⟨Kh, kch, rfl, hI, hb⟩
    clear HC
    have hz20 := hb.size
    have HV21 : Hid ((Cod.kept (Cod.val d)).Sl F w21 (.slice A xs.length cap) xs) := Lib.hid (HV20.out.keep fun b hb' => by have h1 := HF0.out b hb'; exact hb.block b (by omega))
    have HK21 : Hid (Cod.recs.Sl F w21 (.slice Ak ks.length ck) ks) := Lib.hid (HK20.out.keep fun b hb' => by have h1 := HF0.out b hb'; exact hb.block b (by omega))
    have HS21 : Hid (VRd (Cod.val d) (fun b => w4.heap.size ≤ b ∧ b < w5.heap.size) w21 (.slice As r.parts.length vas) (.slice Bs r.path.length vbs) r) := Lib.hid (HS20.out.keep fun b hb' => by have h1 := hb'.1; have h2 := hb'.2; exact hb.block b (by omega))
    have HXS21 : Hid (Blk w21 w5.heap.size 31 #[.string r.ty, .int .i64 r.n, .slice As r.parts.length vas, .slice Bs r.path.length vbs]) := Lib.hid ((hb.block (w5.heap.size) (by omega)).trans HXS20.out)
    have HXG21 : Hid (Blk w21 w9.heap.size 31 #[.string r.ty, .int .i64 r.n, .slice Ag r.parts.length vag, .slice Bg r.path.length vbg]) := Lib.hid ((hb.block (w9.heap.size) (by omega)).trans HXG20.out)
    have HOvg21 : Hid (OV (OCod.val 31 3 d) 31 3 w8.heap.size w9.heap.size w21 (.slice Ag r.parts.length vag) (.slice Bg r.path.length vbg) (mkTop (mkV d) r 1).1) := Lib.hid (HOvg20.out.keep fun b g1 g2 => hb.block b (by omega))
    have HE21 := Lib.hid (HE20.out.trans (hb.mono (by omega)))
    have Hkh21 : Hid (Cod.recs.Sl (fun b => w20.heap.size ≤ b ∧ b < w21.heap.size) w21 (.slice Kh ks.length kch) ks) := Lib.hid hI
    clear hb hI
    have HC := Lib.hid (to_kept d F _ xs w21 (by rw [okept_cod]; exact HV21.out) (fun b hb => by have := HF0.out b hb; omega) (Nat.le_trans HSm.out.xn (by omega)) HSm.out.xr)
    go_wp2_with fail
    refine HC.out.mono ?_
    rintro e w22 ⟨Lh, lch, rfl, hO, hb⟩
    clear HC
    have hz21 := hb.size
    have HV22 : Hid ((Cod.kept (Cod.val d)).Sl F w22 (.slice A xs.length cap) xs) := Lib.hid (HV21.out.keep fun b hb' => by have h1 := HF0.out b hb'; exact hb.block b (by omega))
    have HK22 : Hid (Cod.recs.Sl F w22 (.slice Ak ks.length ck) ks) := Lib.hid (HK21.out.keep fun b hb' => by have h1 := HF0.out b hb'; exact hb.block b (by omega))
    have HS22 : Hid (VRd (Cod.val d) (fun b => w4.heap.size ≤ b ∧ b < w5.heap.size) w22 (.slice As r.parts.length vas) (.slice Bs r.path.length vbs) r) := Lib.hid (HS21.out.keep fun b hb' => by have h1 := hb'.1; have h2 := hb'.2; exact hb.block b (by omega))
    have HXS22 : Hid (Blk w22 w5.heap.size 31 #[.string r.ty, .int .i64 r.n, .slice As r.parts.length vas, .slice Bs r.path.length vbs]) := Lib.hid ((hb.block (w5.heap.size) (by omega)).trans HXS21.out)
    have HXG22 : Hid (Blk w22 w9.heap.size 31 #[.string r.ty, .int .i64 r.n, .slice Ag r.parts.length vag, .slice Bg r.path.length vbg]) := Lib.hid ((hb.block (w9.heap.size) (by omega)).trans HXG21.out)
    have HOvg22 : Hid (OV (OCod.val 31 3 d) 31 3 w8.heap.size w9.heap.size w22 (.slice Ag r.parts.length vag) (.slice Bg r.path.length vbg) (mkTop (mkV d) r 1).1) := Lib.hid (HOvg21.out.keep fun b g1 g2 => hb.block b (by omega))
    have Hkh22 : Hid (Cod.recs.Sl (fun b => w20.heap.size ≤ b ∧ b < w21.heap.size) w22 (.slice Kh ks.length kch) ks) := Lib.hid (Hkh21.out.keep fun b hb' => by have h1 := hb'.1; have h2 := hb'.2; exact hb.block b (by omega))
    have HE22 := Lib.hid (HE21.out.trans (hb.mono (by omega)))
    have Hlh22 : Hid ((Cod.kept (Cod.val d)).Sl (fun b => w21.heap.size ≤ b ∧ b < w22.heap.size) w22 (.slice Lh xs.length lch) xs) := Lib.hid (by have := hO.sl; rw [okept_cod] at this; exact this)
    clear hb hO
    have HC := Lib.hid (HIM.out (fun b => b < w22.heap.size) _ _ w22 ((Hkh22.out).mono (fun b hb => by have := hb.1; have := hb.2; omega)) ((Hlh22.out).mono (fun b hb => by have := hb.1; have := hb.2; omega)) (fun b hb => hb))
    go_wp2_with fail
    refine HC.out.mono ?_
    rintro e w23 ⟨Ah, vah, Bh, vbh, rfl, hO, hb⟩
    clear HC
    have hz22 := hb.size
    have HV23 : Hid ((Cod.kept (Cod.val d)).Sl F w23 (.slice A xs.length cap) xs) := Lib.hid (HV22.out.keep fun b hb' => by have h1 := HF0.out b hb'; exact hb.block b (by omega))
    have HK23 : Hid (Cod.recs.Sl F w23 (.slice Ak ks.length ck) ks) := Lib.hid (HK22.out.keep fun b hb' => by have h1 := HF0.out b hb'; exact hb.block b (by omega))
    have HS23 : Hid (VRd (Cod.val d) (fun b => w4.heap.size ≤ b ∧ b < w5.heap.size) w23 (.slice As r.parts.length vas) (.slice Bs r.path.length vbs) r) := Lib.hid (HS22.out.keep fun b hb' => by have h1 := hb'.1; have h2 := hb'.2; exact hb.block b (by omega))
    have HXS23 : Hid (Blk w23 w5.heap.size 31 #[.string r.ty, .int .i64 r.n, .slice As r.parts.length vas, .slice Bs r.path.length vbs]) := Lib.hid ((hb.block (w5.heap.size) (by omega)).trans HXS22.out)
    have HXG23 : Hid (Blk w23 w9.heap.size 31 #[.string r.ty, .int .i64 r.n, .slice Ag r.parts.length vag, .slice Bg r.path.length vbg]) := Lib.hid ((hb.block (w9.heap.size) (by omega)).trans HXG22.out)
    have HOvg23 : Hid (OV (OCod.val 31 3 d) 31 3 w8.heap.size w9.heap.size w23 (.slice Ag r.parts.length vag) (.slice Bg r.path.length vbg) (mkTop (mkV d) r 1).1) := Lib.hid (HOvg22.out.keep fun b g1 g2 => hb.block b (by omega))
    have HE23 := Lib.hid (HE22.out.trans (hb.mono (by omega)))
    have HOvh23 : Hid (OV (OCod.val 31 3 d) 31 3 w22.heap.size w23.heap.size w23 (.slice Ah r.parts.length vah) (.slice Bh r.path.length vbh) r) := Lib.hid hO
    clear hb hO
    obtain ⟨w24, hw24⟩ : ∃ u, u = w23.alloc (.cells #[.string r.ty, .int .i64 r.n, .slice Ah r.parts.length vah, .slice Bh r.path.length vbh] 31) := ⟨_, rfl⟩
    have HXH24 := Lib.hid (show Blk w24 w23.heap.size 31 #[.string r.ty, .int .i64 r.n, .slice Ah r.parts.length vah, .slice Bh r.path.length vbh] by rw [hw24]; exact Blk.new _ _ _)
    have hb : Below w23.heap.size w23 w24 := by rw [hw24]; exact (Below.refl _ _).alloc (Nat.le_refl _) _
    have hy24 : w23.heap.size + 1 = w24.heap.size := by rw [hw24]; simp
    have Hw24 := Lib.hid hw24
    clear hw24
    have hz23 := hb.size
    have HV24 : Hid ((Cod.kept (Cod.val d)).Sl F w24 (.slice A xs.length cap) xs) := Lib.hid (HV23.out.keep fun b hb' => by have h1 := HF0.out b hb'; exact hb.block b (by omega))
    have HK24 : Hid (Cod.recs.Sl F w24 (.slice Ak ks.length ck) ks) := Lib.hid (HK23.out.keep fun b hb' => by have h1 := HF0.out b hb'; exact hb.block b (by omega))
    have HS24 : Hid (VRd (Cod.val d) (fun b => w4.heap.size ≤ b ∧ b < w5.heap.size) w24 (.slice As r.parts.length vas) (.slice Bs r.path.length vbs) r) := Lib.hid (HS23.out.keep fun b hb' => by have h1 := hb'.1; have h2 := hb'.2; exact hb.block b (by omega))
    have HXS24 : Hid (Blk w24 w5.heap.size 31 #[.string r.ty, .int .i64 r.n, .slice As r.parts.length vas, .slice Bs r.path.length vbs]) := Lib.hid ((hb.block (w5.heap.size) (by omega)).trans HXS23.out)
    have HXG24 : Hid (Blk w24 w9.heap.size 31 #[.string r.ty, .int .i64 r.n, .slice Ag r.parts.length vag, .slice Bg r.path.length vbg]) := Lib.hid ((hb.block (w9.heap.size) (by omega)).trans HXG23.out)
    have HOvg24 : Hid (OV (OCod.val 31 3 d) 31 3 w8.heap.size w9.heap.size w24 (.slice Ag r.parts.length vag) (.slice Bg r.path.length vbg) (mkTop (mkV d) r 1).1) := Lib.hid (HOvg23.out.keep fun b g1 g2 => hb.block b (by omega))
    have HOvh24 : Hid (OV (OCod.val 31 3 d) 31 3 w22.heap.size w23.heap.size w24 (.slice Ah r.parts.length vah) (.slice Bh r.path.length vbh) r) := Lib.hid (HOvh23.out.keep fun b g1 g2 => hb.block b (by omega))
    have HE24 := Lib.hid (HE23.out.trans (hb.mono (by omega)))
    clear hb
    have HC := Lib.hid (eqValue_any d (fun b => b < w24.heap.size) (.slice Ah r.parts.length vah) (.slice Bh r.path.length vbh) (.slice As r.parts.length vas) (.slice Bs r.path.length vbs) r w24 (((show VRd (Cod.val d) _ _ _ _ _ by have := HOvh24.out.rd; rw [OCod.val_cod] at this; exact this)).mono (fun b hb => by have := hb.1; have := hb.2; omega)) ((HS24.out).mono (fun b hb => by have := hb.1; have := hb.2; omega)) fun b hb => hb)
    obtain ⟨q0, q1, q2, q3⟩ := HXS23.out.c2
    have hbd1 : w5.heap.size < w23.heap.size := by omega
    go_wp2_with fail
    rw [← Hw24.out]
    refine HC.out.mono ?_
    rintro e w25 ⟨rfl, hb⟩
    clear HC q0 q1 q2 q3 hbd1
    have hz24 := hb.size
    have HV25 : Hid ((Cod.kept (Cod.val d)).Sl F w25 (.slice A xs.length cap) xs) := Lib.hid (HV24.out.keep fun b hb' => by have h1 := HF0.out b hb'; exact hb.block b (by omega))
    have HK25 : Hid (Cod.recs.Sl F w25 (.slice Ak ks.length ck) ks) := Lib.hid (HK24.out.keep fun b hb' => by have h1 := HF0.out b hb'; exact hb.block b (by omega))
    have HS25 : Hid (VRd (Cod.val d) (fun b => w4.heap.size ≤ b ∧ b < w5.heap.size) w25 (.slice As r.parts.length vas) (.slice Bs r.path.length vbs) r) := Lib.hid (HS24.out.keep fun b hb' => by have h1 := hb'.1; have h2 := hb'.2; exact hb.block b (by omega))
    have HXS25 : Hid (Blk w25 w5.heap.size 31 #[.string r.ty, .int .i64 r.n, .slice As r.parts.length vas, .slice Bs r.path.length vbs]) := Lib.hid ((hb.block (w5.heap.size) (by omega)).trans HXS24.out)
    have HXG25 : Hid (Blk w25 w9.heap.size 31 #[.string r.ty, .int .i64 r.n, .slice Ag r.parts.length vag, .slice Bg r.path.length vbg]) := Lib.hid ((hb.block (w9.heap.size) (by omega)).trans HXG24.out)
    have HOvg25 : Hid (OV (OCod.val 31 3 d) 31 3 w8.heap.size w9.heap.size w25 (.slice Ag r.parts.length vag) (.slice Bg r.path.length vbg) (mkTop (mkV d) r 1).1) := Lib.hid (HOvg24.out.keep fun b g1 g2 => hb.block b (by omega))
    have HOvh25 : Hid (OV (OCod.val 31 3 d) 31 3 w22.heap.size w23.heap.size w25 (.slice Ah r.parts.length vah) (.slice Bh r.path.length vbh) r) := Lib.hid (HOvh24.out.keep fun b g1 g2 => hb.block b (by omega))
    have HXH25 : Hid (Blk w25 w23.heap.size 31 #[.string r.ty, .int .i64 r.n, .slice Ah r.parts.length vah, .slice Bh r.path.length vbh]) := Lib.hid ((hb.block (w23.heap.size) (by omega)).trans HXH24.out)
    have HE25 := Lib.hid (HE24.out.trans (hb.mono (by omega)))
    clear hb
    have HC := Lib.hid (heldValue_any d (fun b => b < w25.heap.size) 1 Ag Bg _ _ vag vbg r w25 (((show VRd (Cod.val d) _ _ _ _ _ by have := HOvg25.out.rd; rw [OCod.val_cod] at this; exact this)).mono (fun b hb => by have := hb.1; have := hb.2; omega)) (fun b hb => hb) (by omega) HMF.out)
    obtain ⟨p0, p1, p2, p3⟩ := HXG25.out.c2
    go_wp2_with fail
    refine HC.out.mono ?_
    rintro e w26 ⟨rfl, hb⟩
    clear HC p0 p1 p2 p3
    have hz25 := hb.size
    have HV26 : Hid ((Cod.kept (Cod.val d)).Sl F w26 (.slice A xs.length cap) xs) := Lib.hid (HV25.out.keep fun b hb' => by have h1 := HF0.out b hb'; exact hb.block b (by omega))
    have HK26 : Hid (Cod.recs.Sl F w26 (.slice Ak ks.length ck) ks) := Lib.hid (HK25.out.keep fun b hb' => by have h1 := HF0.out b hb'; exact hb.block b (by omega))
    have HS26 : Hid (VRd (Cod.val d) (fun b => w4.heap.size ≤ b ∧ b < w5.heap.size) w26 (.slice As r.parts.length vas) (.slice Bs r.path.length vbs) r) := Lib.hid (HS25.out.keep fun b hb' => by have h1 := hb'.1; have h2 := hb'.2; exact hb.block b (by omega))
    have HXS26 : Hid (Blk w26 w5.heap.size 31 #[.string r.ty, .int .i64 r.n, .slice As r.parts.length vas, .slice Bs r.path.length vbs]) := Lib.hid ((hb.block (w5.heap.size) (by omega)).trans HXS25.out)
    have HXG26 : Hid (Blk w26 w9.heap.size 31 #[.string r.ty, .int .i64 r.n, .slice Ag r.parts.length vag, .slice Bg r.path.length vbg]) := Lib.hid ((hb.block (w9.heap.size) (by omega)).trans HXG25.out)
    have HOvg26 : Hid (OV (OCod.val 31 3 d) 31 3 w8.heap.size w9.heap.size w26 (.slice Ag r.parts.length vag) (.slice Bg r.path.length vbg) (mkTop (mkV d) r 1).1) := Lib.hid (HOvg25.out.keep fun b g1 g2 => hb.block b (by omega))
    have HOvh26 : Hid (OV (OCod.val 31 3 d) 31 3 w22.heap.size w23.heap.size w26 (.slice Ah r.parts.length vah) (.slice Bh r.path.length vbh) r) := Lib.hid (HOvh25.out.keep fun b g1 g2 => hb.block b (by omega))
    have HXH26 : Hid (Blk w26 w23.heap.size 31 #[.string r.ty, .int .i64 r.n, .slice Ah r.parts.length vah, .slice Bh r.path.length vbh]) := Lib.hid ((hb.block (w23.heap.size) (by omega)).trans HXH25.out)
    have HE26 := Lib.hid (HE25.out.trans (hb.mono (by omega)))
    clear hb
    go_wp2_with fail
    go_ret
    exact ⟨rfl, HE26.out⟩
end Go.Proofs.Ytemlpiokdoeeeaa
