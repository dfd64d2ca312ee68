/- The program's recordAt and VaultsGet. -/
import Derived.Test.YtmomdflfjcboiaaYc
import Derived.Test.YtmomdflfjcboiaaYd
import Derived.Test.YtmomdflfjcboiaaYf
namespace Go.Proofs.Ytmomdflfjcboiaa
open Go.RowKit

set_option maxRecDepth 100000 in
set_option maxHeartbeats 2000000 in
theorem recordAt_any {ks : Ks} (d : Nat) (F : Nat → Prop) (kv v : Value) (xs : List KepR) (o : Int) (kind : ByteArray) (w : World) (hks : Cod.recs.Sl F w kv ks) (h : (Cod.kept (Cod.val d)).Sl F w v xs) (hF : ∀ b, F b → b < w.heap.size) :
    Calls Try.prog 50 #[kv, v, .int .i64 o, .string kind] w (RecPD ks d xs o kind w) := by
  have HO := Lib.hid (implVaultsOk_any (ks := ks) d F kv v xs w hks h hF)
  have HV := Lib.hid h
  have HF := Lib.hid hF
  obtain ⟨Ak, ck, rfl, _⟩ := hks
  obtain ⟨A, cap, rfl, _⟩ := h
  clear hF
  cases hok : vOk ks d xs with
  | false =>
    rw [hok] at HO
    have HI := Lib.hid (idxK_no (o := o) (t := kind) hok)
    clear hok
    go_enter Try.func50, Try.ntmps50
    go_wp2_with (go_at_call 24; (with_reducible refine HO.out.mono ?_); rintro e w1 ⟨rfl, hb⟩)
    go_ret2
    exact ⟨0, by rw [HI.out]; rfl, (fun j hj => by rw [HI.out] at hj; cases hj), hb⟩
  | true =>
    rw [hok] at HO
    have HC := Lib.hid (fun (w1 : World) (hb : Below w.heap.size w w1) => placeOf_any F _ xs o kind w1 (HV.out.keep (below_keeps hb HF.out)) (below_goF HF.out hb) (vOk_sorted hok) (vOk_ables hok).2)
    have HPl := Lib.hid (fun p hp => place_idx (o := o) (kind := kind) (p := p) hok hp)
    clear hok
    go_enter Try.func50, Try.ntmps50
    go_wp2_with (first
      | (go_at_call 24; (with_reducible refine HO.out.mono ?_); rintro e w1 ⟨rfl, hb⟩)
      | (go_at_call 71; (with_reducible refine (HC.out _ hb).mono ?_); rintro e w2 ⟨p, hp, rfl, hb2⟩))
    go_ret2
    obtain ⟨h1, h2⟩ := HPl.out p hp
    exact ⟨p, by rw [← h1]; rfl, h2, hb.trans (hb2.mono hb.size)⟩

theorem kept_okOf {ks : Ks} {d : Nat} {v : Val} (h : keptB ks d v = true) : okOf ks (okV ks d) v = true := by
  unfold keptB at h
  simp only [Bool.and_eq_true] at h
  exact h.2.1
theorem idx_kept {ks : Ks} {d : Nat} {xs : List KepR} {o : Int} {t : ByteArray} {j : Nat} (h : idxK ks d xs o t = some j) : ∃ hj : j < xs.length, okOf ks (okV ks d) xs[j].v = true := by
  obtain ⟨h1, -, h3⟩ := idxK_some h
  unfold vOk at h1
  simp only [Bool.and_eq_true] at h1
  have := okList_at h1.2 h3
  unfold okAtK at this
  rw [getK h3] at this
  simp only [Bool.and_eq_true] at this
  exact ⟨h3, kept_okOf this.1.2⟩

set_option maxRecDepth 100000 in
set_option maxHeartbeats 4000000 in
theorem implVaultsGet_any {ks : Ks} (d : Nat) (F : Nat → Prop) (kv v : Value) (xs : List KepR) (o : Int) (kind : ByteArray) (w : World) (hks : Cod.recs.Sl F w kv ks) (h : (Cod.kept (Cod.val d)).Sl F w v xs) (hF : ∀ b, F b → b < w.heap.size) (hsm : ∀ x ∈ xs, SmolKep d x) :
    Calls Try.prog 26 #[kv, v, .int .i64 o, .string kind] w fun e w' => ∃ A cA B cB, e = .returned (.tuple #[.agg #[.string (getR ks d xs o kind).1.ty, .int .i64 (getR ks d xs o kind).1.n, .slice A (getR ks d xs o kind).1.parts.length cA, .slice B (getR ks d xs o kind).1.path.length cB], .bool (getR ks d xs o kind).2]) ∧
      OV (OCod.val 57 3 d) 57 3 w.heap.size w'.heap.size w' (.slice A (getR ks d xs o kind).1.parts.length cA) (.slice B (getR ks d xs o kind).1.path.length cB) (getR ks d xs o kind).1 ∧ Below w.heap.size w w' := by
  obtain ⟨w0, hw0⟩ : ∃ w0, w0 = w.alloc (.cells #[.string ⟨#[]⟩, .int .i64 0, .slice none 0 0, .slice none 0 0] 57) := ⟨_, rfl⟩
  have hb0 : Below w.heap.size w w0 := by rw [hw0]; exact (Below.refl _ _).alloc (Nat.le_refl _) _
  have hs0 : w0.heap.size = w.heap.size + 1 := by rw [hw0]; simp
  have hF0 : ∀ b, F b → b < w0.heap.size := fun b hb => by have := hF b hb; omega
  have HR0 := Lib.hid (show Blk w0 w.heap.size 57 #[.string ⟨#[]⟩, .int .i64 0, .slice none 0 0, .slice none 0 0] by rw [hw0]; exact Blk.new _ _ _)
  have HV0 := Lib.hid (h.keep (w' := w0) (below_keeps hb0 hF))
  have HC := Lib.hid (recordAt_any (ks := ks) d F kv v xs o kind w0 (hks.keep (w' := w0) (below_keeps hb0 hF)) (h.keep (w' := w0) (below_keeps hb0 hF)) hF0)
  have HF0 := Lib.hid hF0
  have HE := Lib.hid hb0
  have Hw0 := Lib.hid hw0
  obtain ⟨Ak, ck, rfl, _⟩ := hks
  obtain ⟨A, cap, rfl, hlc, hcm, _⟩ := h
  unfold maxLen at hcm
  clear hF hb0 hw0 hF0
  cases hi : idxK ks d xs o kind with
  | none =>
    have HG := Lib.hid (show getR ks d xs o kind = (zeroV5, false) by unfold getR; rw [hi])
    have HC2 : Hid (Calls Try.prog 50 #[.slice Ak ks.length ck, .slice A xs.length cap, .int .i64 o, .string kind] w0 fun e w' => ∃ p : Nat, e = .returned (.tuple #[.int .i64 p, .bool false]) ∧ Below w0.heap.size w0 w') := Lib.hid (HC.out.mono fun e w' ⟨p, h1, _, h3⟩ => ⟨p, by rw [h1, hi]; rfl, h3⟩)
    clear hi HC
    go_enter Try.func26, Try.ntmps26
    go_wp2_with fail
    rw [← Hw0.out]
    go_at_call 50
    with_reducible refine HC2.out.mono ?_
    rintro e w1 ⟨p, rfl, hb⟩
    have HR1 := Lib.hid (HR0.out.below hb HR0.out.lt)
    obtain ⟨r0, r1, r2, r3⟩ := HR1.out.c2
    obtain ⟨f0, f1, f2, f3⟩ := HR1.out.f4
    obtain ⟨wE, hwE⟩ : ∃ wE, wE = (((w1.setCell ⟨w.heap.size, 0, none⟩ (.string ⟨#[]⟩)).setCell ⟨w.heap.size, 1, none⟩ (.int .i64 0)).setCell ⟨w.heap.size, 2, none⟩ (.slice none 0 0)).setCell ⟨w.heap.size, 3, none⟩ (.slice none 0 0) := ⟨_, rfl⟩
    have HRE := Lib.hid (show Blk wE w.heap.size 57 #[.string ⟨#[]⟩, .int .i64 0, .slice none 0 0, .slice none 0 0] by rw [hwE]; exact set4_blk HR1.out _ _ _ _)
    have HBE := Lib.hid (show Below w.heap.size w wE by rw [hwE]; exact set4_below (HE.out.trans (hb.mono HE.out.size)) (Nat.le_refl _) _ _ _ _)
    have HwE := Lib.hid hwE
    clear hb hwE HC2 HV0
    go_wp2
    rw [← HwE.out, HG.out]
    obtain ⟨r0, r1, r2, r3⟩ := HRE.out.c2
    exact bodyPost_ret (v := .tuple #[.agg #[.string ⟨#[]⟩, .int .i64 0, .slice none 0 0, .slice none 0 0], .bool false]) (by simp [results, Try.results26, go_sem, r0, r1, r2, r3]) rfl
      ⟨none, 0, none, 0, rfl, ⟨by show (0 : Nat) ≤ maxLen; unfold maxLen; omega, by show I64 0; unfold I64; omega, w.heap.size, Nat.le_refl _, HBE.out.size, own_nil5, own_nil5⟩, HBE.out⟩
  | some j =>
    obtain ⟨hj, hok⟩ := idx_kept hi
    have HG := Lib.hid (show getR ks d xs o kind = (xs[j].v, true) by unfold getR; rw [hi]; simp only [getK hj])
    have HC2 : Hid (Calls Try.prog 50 #[.slice Ak ks.length ck, .slice A xs.length cap, .int .i64 o, .string kind] w0 fun e w' => e = .returned (.tuple #[.int .i64 j, .bool true]) ∧ Below w0.heap.size w0 w') := Lib.hid (HC.out.mono fun e w' ⟨p, h1, h2, h3⟩ => ⟨by rw [h1, ← h2 j hi, hi]; rfl, h3⟩)
    have HPa := Lib.hid (ok_bare hok).1
    have HOk := Lib.hid hok
    have HSm := Lib.hid (hsm _ (List.getElem_mem hj))
    have j0 : (0 : Int) ≤ j := by omega
    have j1 : (j : Int) < xs.length := by omega
    have Hj := Lib.hid hj
    clear hi HC hok hsm
    go_enter Try.func26, Try.ntmps26
    go_wp2_with fail
    rw [← Hw0.out]
    go_at_call 50
    with_reducible refine HC2.out.mono ?_
    rintro e w1 ⟨rfl, hb⟩
    obtain ⟨b, off, cap', A2, cA2, B2, cB2, hv, hFb, _, _, hc0, hc1, hc2, hc3, hc4, -, hV⟩ := (HV0.out.keep (below_keeps hb HF0.out)).kept_at Hj.out
    obtain ⟨rfl, rfl⟩ : A = some ⟨b, off, none⟩ ∧ cap = cap' := by simpa using hv
    have HCp := Lib.hid (copyValue_any ks d F A2 B2 _ _ cA2 cB2 xs[j].v w1 (by rw [OCod.val_cod]; exact hV) (below_goF HF0.out hb) HOk.out HSm.out)
    have HR1 := Lib.hid (HR0.out.below hb HR0.out.lt)
    have HTy := Lib.hid hV.ty
    have HNn := Lib.hid hV.n
    have Hb := Lib.hid hb
    have hsw := hb.size
    clear hv hV hb HC2
    generalize xs[j] = x at *
    go_wp2_with fail
    go_at_call 51
    with_reducible refine HCp.out.mono ?_
    rintro e w2 ⟨A3, c3, rfl, hO, hb2, -⟩
    have HR2 := Lib.hid (HR1.out.below hb2 HR1.out.lt)
    obtain ⟨r0, r1, r2, r3⟩ := HR2.out.c2
    obtain ⟨f0, f1, f2, f3⟩ := HR2.out.f4
    obtain ⟨wE, hwE⟩ : ∃ wE, wE = (((w2.setCell ⟨w.heap.size, 0, none⟩ (.string x.v.ty)).setCell ⟨w.heap.size, 1, none⟩ (.int .i64 x.v.n)).setCell ⟨w.heap.size, 2, none⟩ (.slice A3 x.v.parts.length c3)).setCell ⟨w.heap.size, 3, none⟩ (.slice none 0 0) := ⟨_, rfl⟩
    have HRE := Lib.hid (show Blk wE w.heap.size 57 #[.string x.v.ty, .int .i64 x.v.n, .slice A3 x.v.parts.length c3, .slice none 0 0] by rw [hwE]; exact set4_blk HR2.out _ _ _ _)
    have hbE : Below w.heap.size w wE := by rw [hwE]; exact set4_below ((HE.out.trans (Hb.out.mono HE.out.size)).trans (hb2.mono (by omega))) (Nat.le_refl _) _ _ _ _
    have hsE : wE.heap.size = w2.heap.size := by rw [hwE, set4_size]
    have HOE := Lib.hid (show OV (OCod.val 57 3 d) 57 3 w.heap.size wE.heap.size wE (.slice A3 x.v.parts.length c3) (.slice none 0 0) x.v from
      ⟨HTy.out, HNn.out, wE.heap.size, hbE.size, Nat.le_refl _, (hO.keep (w' := wE) fun i h1 _ => by rw [hwE]; exact set4_heap _ _ _ _ (by omega)).mono (by omega) (by omega), by rw [HPa.out]; exact own_nil5⟩)
    have HBE := Lib.hid hbE
    have HwE := Lib.hid hwE
    clear hO hb2 hbE hwE hsE HCp HV0 hc0 hc1 hc2 hc3 hc4
    go_wp2
    rw [← HwE.out, HG.out]
    obtain ⟨r0, r1, r2, r3⟩ := HRE.out.c2
    refine bodyPost_ret (v := .tuple #[.agg #[.string x.v.ty, .int .i64 x.v.n, .slice A3 x.v.parts.length c3, .slice none 0 0], .bool true]) (by simp [results, Try.results26, go_sem, r0, r1, r2, r3]) rfl ?_
    have hp0 : x.v.path.length = 0 := by rw [HPa.out]; rfl
    exact ⟨A3, c3, none, 0, by simp only [hp0], by simp only [hp0]; exact HOE.out, HBE.out⟩
end Go.Proofs.Ytmomdflfjcboiaa
