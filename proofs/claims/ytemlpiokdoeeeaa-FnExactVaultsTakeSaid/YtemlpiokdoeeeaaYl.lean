/- The program's VaultsTake. -/
import Derived.Test.YtemlpiokdoeeeaaYj
import Derived.Test.YtemlpiokdoeeeaaWl
import Derived.Deep.RegionHeld3
namespace Go.Proofs.Ytemlpiokdoeeeaa
open Go.RowKit

def TakeP (ks : Ks) (d : Nat) (xs : List KepR) (o : Int) (t : ByteArray) (w : World) (e : Ending) (w' : World) : Prop :=
  ∃ Av cv A cA B cB s1 e1 s2 e2, e = .returned (.tuple #[.slice Av (takeR ks d xs o t).1.length cv, .agg #[.string (takeR ks d xs o t).2.1.ty, .int .i64 (takeR ks d xs o t).2.1.n, .slice A (takeR ks d xs o t).2.1.parts.length cA, .slice B (takeR ks d xs o t).2.1.path.length cB], .bool (takeR ks d xs o t).2.2]) ∧
      w.heap.size ≤ s1 ∧ e1 ≤ w'.heap.size ∧ w.heap.size ≤ s2 ∧ e2 ≤ w'.heap.size ∧ (e1 ≤ s2 ∨ e2 ≤ s1) ∧ Own (OKept d) 35 s1 e1 w' (.slice Av (takeR ks d xs o t).1.length cv) (takeR ks d xs o t).1 ∧
      OV (OCod.val 31 3 d) 31 3 s2 e2 w' (.slice A (takeR ks d xs o t).2.1.parts.length cA) (.slice B (takeR ks d xs o t).2.1.path.length cB) (takeR ks d xs o t).2.1 ∧ Below w.heap.size w w'

theorem takeP_end {ks : Ks} {d : Nat} {xs ys : List KepR} {o : Int} {t : ByteArray} {v : Val} {w wl : World} {s1 e1 s2 e2 : Nat} {Y A3 : Option Addr} {cy c3 : Nat} (hG : takeR ks d xs o t = (ys, v, true)) (hp : v.path = []) (hty : v.ty.size ≤ maxLen) (hn : I64 v.n) (hb : Below w.heap.size w wl)
    (h1 : w.heap.size < s1) (h2 : e1 ≤ wl.heap.size) (h3 : w.heap.size < s2) (h4 : s2 ≤ e2) (h4' : e2 ≤ wl.heap.size) (h5 : e1 ≤ s2 ∨ e2 ≤ s1) (hO : Own (OKept d) 35 s1 e1 wl (.slice Y ys.length cy) ys) (hV : Own (OCod.val 31 3 d) 31 s2 e2 wl (.slice A3 v.parts.length c3) v.parts) (a b c e : Value) :
    TakeP ks d xs o t w (.returned (.tuple #[.slice Y ys.length cy, .agg #[.string v.ty, .int .i64 v.n, .slice A3 v.parts.length c3, .slice none 0 0], .bool true])) ((((wl.setCell ⟨w.heap.size, 0, none⟩ a).setCell ⟨w.heap.size, 1, none⟩ b).setCell ⟨w.heap.size, 2, none⟩ c).setCell ⟨w.heap.size, 3, none⟩ e) := by
  have hp0 : v.path.length = 0 := by rw [hp]; rfl
  unfold TakeP
  rw [hG]
  refine ⟨Y, cy, A3, c3, none, 0, s1, e1, s2, e2, by simp only [hp0], by omega, by rw [set4_size]; exact h2, by omega, by rw [set4_size]; exact h4', h5, hO.keep fun i g1 _ => set4_heap _ _ _ _ (by omega), ?_, set4_below hb (Nat.le_refl _) _ _ _ _⟩
  simp only [hp0]
  exact ⟨hty, hn, e2, h4, Nat.le_refl _, hV.keep fun i g1 _ => set4_heap _ _ _ _ (by omega), by rw [hp]; exact own_nil5⟩

set_option maxRecDepth 100000 in
set_option maxHeartbeats 8000000 in
theorem implVaultsTake_any {ks : Ks} (d : Nat) (F : Nat → Prop) (kv vl : Value) (xs : List KepR) (o : Int) (kind : ByteArray) (w : World) (hks : Cod.recs.Sl F w kv ks) (h : (Cod.kept (Cod.val d)).Sl F w vl xs) (hF : ∀ b, F b → b < w.heap.size) (hsm : ∀ x ∈ xs, SmolKep d x) :
    Calls Try.prog 33 #[kv, vl, .int .i64 o, .string kind] w (TakeP ks d xs o kind w) := by
  obtain ⟨w0, hw0⟩ : ∃ w0, w0 = w.alloc (.cells #[.string ⟨#[]⟩, .int .i64 0, .slice none 0 0, .slice none 0 0] 31) := ⟨_, rfl⟩
  have hb0 : Below w.heap.size w w0 := by rw [hw0]; exact (Below.refl _ _).alloc (Nat.le_refl _) _
  have hs0 : w0.heap.size = w.heap.size + 1 := by rw [hw0]; simp
  have hF0 : ∀ b, F b → b < w0.heap.size := fun b hb => by have := hF b hb; omega
  have HR0 := Lib.hid (show Blk w0 w.heap.size 31 #[.string ⟨#[]⟩, .int .i64 0, .slice none 0 0, .slice none 0 0] by rw [hw0]; exact Blk.new _ _ _)
  have HV0 := Lib.hid (h.keep (w' := w0) (below_keeps hb0 hF))
  have HC := Lib.hid (recordAt_any (ks := ks) d F kv vl xs o kind w0 (hks.keep (w' := w0) (below_keeps hb0 hF)) (h.keep (w' := w0) (below_keeps hb0 hF)) hF0)
  have HF0 := Lib.hid hF0
  have HE := Lib.hid hb0
  have Hw0 := Lib.hid hw0
  obtain ⟨Ak, ck, rfl, _⟩ := hks
  obtain ⟨Al, cap, rfl, hlc, hcm, _⟩ := h
  unfold maxLen at hcm
  have HFo := Lib.hid hF
  clear hF hb0 hw0 hF0
  cases hi : idxK ks d xs o kind with
  | none =>
    have HG := Lib.hid (takeR_no (ks := ks) (d := d) hi)
    have HC2 : Hid (Calls Try.prog 47 #[.slice Ak ks.length ck, .slice Al xs.length cap, .int .i64 o, .string kind] w0 fun e w' => ∃ p : Nat, e = .returned (.tuple #[.int .i64 p, .bool false]) ∧ Below w0.heap.size w0 w') := Lib.hid (HC.out.mono fun e w' ⟨p, h1, _, h3⟩ => ⟨p, by rw [h1, hi]; rfl, h3⟩)
    clear hi HC
    go_enter Try.func33, Try.ntmps33
    go_wp2_with fail
    rw [← Hw0.out]
    go_at_call 47
    with_reducible refine HC2.out.mono ?_
    rintro e w1 ⟨p, rfl, hb⟩
    have HR1 := Lib.hid (HR0.out.below hb HR0.out.lt)
    obtain ⟨r0, r1, r2, r3⟩ := HR1.out.c2
    obtain ⟨f0, f1, f2, f3⟩ := HR1.out.f4
    obtain ⟨wE, hwE⟩ : ∃ wE, wE = (((w1.setCell ⟨w.heap.size, 0, none⟩ (.string ⟨#[]⟩)).setCell ⟨w.heap.size, 1, none⟩ (.int .i64 0)).setCell ⟨w.heap.size, 2, none⟩ (.slice none 0 0)).setCell ⟨w.heap.size, 3, none⟩ (.slice none 0 0) := ⟨_, rfl⟩
    have HRE := Lib.hid (show Blk wE w.heap.size 31 #[.string ⟨#[]⟩, .int .i64 0, .slice none 0 0, .slice none 0 0] by rw [hwE]; exact set4_blk HR1.out _ _ _ _)
    have HBE := Lib.hid (show Below w.heap.size w wE by rw [hwE]; exact set4_below (HE.out.trans (hb.mono HE.out.size)) (Nat.le_refl _) _ _ _ _)
    have HwE := Lib.hid hwE
    have HQ := Lib.hid (show TakeP ks d xs o kind w (.returned (.tuple #[.slice none 0 0, .agg #[.string ⟨#[]⟩, .int .i64 0, .slice none 0 0, .slice none 0 0], .bool false])) wE from by
      unfold TakeP
      rw [HG.out]
      exact ⟨none, 0, none, 0, none, 0, w.heap.size, w.heap.size, w.heap.size, wE.heap.size, rfl, Nat.le_refl _, HBE.out.size, Nat.le_refl _, Nat.le_refl _, .inl (Nat.le_refl _), own_nil5, ⟨by show (0 : Nat) ≤ maxLen; unfold maxLen; omega, by show I64 0; unfold I64; omega, w.heap.size, Nat.le_refl _, HBE.out.size, own_nil5, own_nil5⟩, HBE.out⟩)
    clear hb hwE HC2 HV0
    go_wp2
    rw [← HwE.out]
    obtain ⟨r0, r1, r2, r3⟩ := HRE.out.c2
    exact bodyPost_ret (v := .tuple #[.slice none 0 0, .agg #[.string ⟨#[]⟩, .int .i64 0, .slice none 0 0, .slice none 0 0], .bool false]) (by simp [results, Try.results33, go_sem, r0, r1, r2, r3]) rfl HQ.out
  | some j =>
    obtain ⟨hj, hok⟩ := idx_kept hi
    have hVo := (idxK_some hi).1
    have HG := Lib.hid (show takeR ks d xs o kind = (xs.take j ++ xs.drop (j + 1), xs[j].v, true) by unfold takeR; rw [hi]; simp only [getK hj])
    have HC2 : Hid (Calls Try.prog 47 #[.slice Ak ks.length ck, .slice Al xs.length cap, .int .i64 o, .string kind] w0 fun e w' => e = .returned (.tuple #[.int .i64 j, .bool true]) ∧ Below w0.heap.size w0 w') := Lib.hid (HC.out.mono fun e w' ⟨p, h1, h2, h3⟩ => ⟨by rw [h1, ← h2 j hi, hi]; rfl, h3⟩)
    have HPa := Lib.hid (ok_bare hok).1
    have HOk := Lib.hid hok
    have HVo := Lib.hid hVo
    have HSm := Lib.hid hsm
    have HSj := Lib.hid (hsm _ (List.getElem_mem hj))
    have j0 : (0 : Int) ≤ j := by omega
    have j1 : (j : Int) < xs.length := by omega
    have Hj := Lib.hid hj
    have hlcap : (xs.length : Int) ≤ cap := by omega
    have hp1 : ((j : Nat) : Int) ≤ xs.length := by omega
    have hp3 : ((j : Nat) : Int) ≤ cap := by omega
    have hp4 : ((j : Nat) : Int) + 1 ≤ xs.length := by omega
    have hp5 : ((j : Nat) : Int) + 1 ≤ cap := by omega
    have hp6 : (0 : Int) ≤ (j : Nat) + 1 := by omega
    have hp7 : (((j : Nat) : Int) + 1).toNat = j + 1 := by omega
    have hp8 : (j : Int) + 1 ≤ 9223372036854775807 := by omega
    have hp9 : IntKind.i64.wrap ((j : Int) + 1) = (j : Int) + 1 := by
      simp only [IntKind.wrap, IntKind.bits, IntKind.signed]
      simp
      omega
    clear hi HC hok hsm hVo
    go_enter Try.func33, Try.ntmps33
    go_wp2_with fail
    rw [← Hw0.out]
    go_at_call 47
    with_reducible refine HC2.out.mono ?_
    rintro e w4 ⟨rfl, hb⟩
    have hV4 := HV0.out.keep (below_keeps hb HF0.out)
    have hF4 := below_goF HF0.out hb
    have hbW : Below w.heap.size w w4 := HE.out.trans (hb.mono HE.out.size)
    obtain ⟨b, off, cap', A2, cA2, B2, cB2, hv, hFb, _, _, hc0, hc1, hc2, hc3, hc4, -, hV⟩ := hV4.kept_at Hj.out
    obtain ⟨rfl, rfl⟩ : Al = some ⟨b, off, none⟩ ∧ cap = cap' := by simpa using hv
    obtain ⟨D, hD⟩ : ∃ D, (if cap = j + 1 then (some ⟨b, off, none⟩ : Option Addr) else some ⟨b, off + (j + 1) * 5, none⟩) = D := ⟨_, rfl⟩
    have HCv := Lib.hid (fun (W : World) (hW : Below w4.heap.size w4 W) => show Calls Try.prog 48 #[.agg #[.string xs[j].v.ty, .int .i64 xs[j].v.n, .slice A2 xs[j].v.parts.length cA2, .slice B2 xs[j].v.path.length cB2]] W fun e w' => ∃ A' cA', e = .returned (.agg #[.string xs[j].v.ty, .int .i64 xs[j].v.n, .slice A' xs[j].v.parts.length cA', .slice none 0 0]) ∧ Own (OCod.val 31 3 d) 31 W.heap.size w'.heap.size w' (.slice A' xs[j].v.parts.length cA') xs[j].v.parts ∧ Below W.heap.size W w' from
      (copyValue_any ks d F A2 B2 _ _ cA2 cB2 xs[j].v W (by rw [OCod.val_cod]; exact hV.keep (below_keeps hW hF4)) (below_goF hF4 hW) HOk.out HSj.out).mono fun e w' ⟨A', c', h1, h2, h3, _⟩ => ⟨A', c', h1, h2, h3⟩)
    have hfl : [xs.take j, xs.drop (j + 1)].flatten = xs.take j ++ xs.drop (j + 1) := by simp
    obtain ⟨ys, hys⟩ : ∃ ys, ys = xs.take j ++ xs.drop (j + 1) := ⟨_, rfl⟩
    have HCk := Lib.hid (fun (W : World) (bp : Nat) (hW : Below w4.heap.size w4 W) (hB : Blk W bp 24 #[.slice (some ⟨b, off, none⟩) j cap, .slice D (xs.length - (j + 1)) (cap - (j + 1))]) => show Calls Try.prog 77 #[.slice (some ⟨bp, 0, none⟩) 2 2] W fun e w' => ∃ Y cy, e = .returned (.slice Y ys.length cy) ∧ Own (OKept d) 35 W.heap.size w'.heap.size w' (.slice Y ys.length cy) ys ∧ Below W.heap.size W w' from by
      have hVW := hV4.keep (below_keeps hW hF4)
      have hpc : Pieces d F W bp [xs.take j, xs.drop (j + 1)] := pieces_of (vs := [.slice (some ⟨b, off, none⟩) j cap, .slice D (xs.length - (j + 1)) (cap - (j + 1))]) hB (fun i hi => by
        have : i = 0 ∨ i = 1 := by simp at hi; omega
        rcases this with rfl | rfl
        · exact ⟨_, rfl, sl_take5 hVW (by omega)⟩
        · exact ⟨_, rfl, by
            have h5 := sl_dropG hVW (p := j + 1) (by omega)
            simp only [Option.map_some, Go.WideShapes.add_plain] at h5
            rw [← hD]
            exact h5⟩)
      have hC := copyKept_any (ks := ks) d F bp 2 [xs.take j, xs.drop (j + 1)] W hpc hB.lt (below_goF hF4 hW) (by simp) (by omega) (by simp)
        (fun y hy => by
          rw [hfl] at hy
          have hm : y ∈ xs := by
            rcases List.mem_append.1 hy with h | h
            · exact List.mem_of_mem_take h
            · exact List.mem_of_mem_drop h
          obtain ⟨i, hi, rfl⟩ := List.getElem_of_mem hm
          have hvo := HVo.out
          unfold vOk at hvo
          simp only [Bool.and_eq_true] at hvo
          have := okList_at hvo.2 hi
          unfold okAtK at this
          rw [getK hi] at this
          simp only [Bool.and_eq_true] at this
          exact ⟨kept_okOf this.1.2, HSm.out _ hm⟩)
        (by rw [hfl]; have := (vOk_ables HVo.out).2; simp; omega)
      rw [hfl, ← hys] at hC
      exact hC)
    rw [← hys] at HG
    have HTy := Lib.hid hV.ty
    have HNn := Lib.hid hV.n
    have HR4 := Lib.hid (HR0.out.below hb HR0.out.lt)
    have HBW := Lib.hid hbW
    have hbl := hF4 b hFb
    have hrl : w.heap.size < w4.heap.size := HR4.out.lt
    have HSc := Lib.hid (fun (W : World) (hW : Below w4.heap.size w4 W) => show (W.cell? ⟨b, off + j * 5 + 1, none⟩ = some (.string xs[j].v.ty) ∧ W.cell? ⟨b, off + j * 5 + 2, none⟩ = some (.int .i64 xs[j].v.n)) ∧ W.cell? ⟨b, off + j * 5 + 3, none⟩ = some (.slice A2 xs[j].v.parts.length cA2) ∧ W.cell? ⟨b, off + j * 5 + 4, none⟩ = some (.slice B2 xs[j].v.path.length cB2) from
      ⟨⟨(hW.cell (p := ⟨b, _, none⟩) hbl).trans hc1, (hW.cell (p := ⟨b, _, none⟩) hbl).trans hc2⟩, (hW.cell (p := ⟨b, _, none⟩) hbl).trans hc3, (hW.cell (p := ⟨b, _, none⟩) hbl).trans hc4⟩)
    have HRc := Lib.hid (fun (W : World) (hW : Below w4.heap.size w4 W) => show Blk W w.heap.size 31 #[.string ⟨#[]⟩, .int .i64 0, .slice none 0 0, .slice none 0 0] from HR4.out.below hW hrl)
    have HBd := Lib.hid (show Below w4.heap.size w4 w4.drew from below_draw w4)
    have HBa := Lib.hid (show Below w4.heap.size w4 (w4.alloc (.cells #[.slice (some ⟨b, off, none⟩) j cap, .slice D (xs.length - (j + 1)) (cap - (j + 1))] 24)).drew from ((Below.refl _ _).alloc (Nat.le_refl _) _).drew)
    have HRa := Lib.hid (show Blk (w4.alloc (.cells #[.slice (some ⟨b, off, none⟩) j cap, .slice D (xs.length - (j + 1)) (cap - (j + 1))] 24)).drew w4.heap.size 24 #[.slice (some ⟨b, off, none⟩) j cap, .slice D (xs.length - (j + 1)) (cap - (j + 1))] from Blk.new w4 _ _)
    have hbne : b ≠ w.heap.size := by have := HFo.out b hFb; omega
    have HSa := Lib.hid (show (w4.alloc (.cells #[.slice (some ⟨b, off, none⟩) j cap, .slice D (xs.length - (j + 1)) (cap - (j + 1))] 24)).drew.heap.size = w4.heap.size + 1 by show (w4.alloc _).heap.size = _; simp)
    clear hb hv hV4 hF4 hbW hV HC2 HV0 hys hfl hc0 hc1 hc2 hc3 hc4
    generalize xs[j] = x at *
    go_wp2_with fail
    go_region_held3 (fun w' => (w'.cell? ⟨b, off + j * 5 + 1, none⟩ = some (.string x.v.ty) ∧ w'.cell? ⟨b, off + j * 5 + 2, none⟩ = some (.int .i64 x.v.n)) ∧ w'.cell? ⟨b, off + j * 5 + 3, none⟩ = some (.slice A2 x.v.parts.length cA2) ∧ w'.cell? ⟨b, off + j * 5 + 4, none⟩ = some (.slice B2 x.v.path.length cB2)) (first | (with_reducible exact HSc.out _ HBd.out) | (with_reducible exact HSc.out _ HBa.out) | (with_reducible exact HSc.out _ HBk1.out) | (with_reducible exact HSc.out _ HBv1.out) | (with_reducible exact HSc.out _ HBv2.out) | (with_reducible exact HSc.out _ HBva.out) | (with_reducible exact HSc.out _ HBv3.out) | (with_reducible exact HSc.out _ HBk2.out) | (with_reducible exact HSc.out _ HBk3.out) | (with_reducible exact HSc.out _ (Below.refl _ _)) | (with_reducible exact HSc.out _ ((Below.refl _ _).alloc (Nat.le_refl _) _)) | (with_reducible exact ⟨⟨(cell_set4 hbne _ _ _ _ _).trans q0, (cell_set4 hbne _ _ _ _ _).trans q1⟩, (cell_set4 hbne _ _ _ _ _).trans q2, (cell_set4 hbne _ _ _ _ _).trans q3⟩) | fail) (first
      | (go_at_call 48; (with_reducible refine (HCv.out _ HBd.out).mono ?_); rintro e wv1 ⟨A3, c3, rfl, hO, hbv⟩; go_must (have hb' : Below w4.heap.size w4 wv1 := HBd.out.trans (hbv.mono HBd.out.size); have HBv1 := Lib.hid hb'; have HOv1 := Lib.hid (show Own (OCod.val 31 3 d) 31 w4.heap.size wv1.heap.size wv1 (.slice A3 x.v.parts.length c3) x.v.parts from hO); have HRv1 := Lib.hid (Blk.new wv1 24 #[.slice (some ⟨b, off, none⟩) j cap, .slice D (xs.length - (j + 1)) (cap - (j + 1))]); have HBva := Lib.hid (hb'.alloc hb'.size (.cells #[.slice (some ⟨b, off, none⟩) j cap, .slice D (xs.length - (j + 1)) (cap - (j + 1))] 24)); have hsv := hb'.size; clear hO hbv hb'))
      | (go_at_call 48; (with_reducible refine (HCv.out _ HBa.out).mono ?_); rintro e wv2 ⟨A3, c3, rfl, hO, hbv⟩; go_must (have hb' : Below w4.heap.size w4 wv2 := HBa.out.trans (hbv.mono HBa.out.size); have HBv2 := Lib.hid hb'; have HOv2 := Lib.hid (show Own (OCod.val 31 3 d) 31 (w4.heap.size + 1) wv2.heap.size wv2 (.slice A3 x.v.parts.length c3) x.v.parts from hO.mono (Nat.le_of_eq HSa.out.symm) (Nat.le_refl _)); have HRv2 := Lib.hid (HRa.out.below hbv HRa.out.lt); have hsv : w4.heap.size + 1 ≤ wv2.heap.size := Nat.le_trans (Nat.le_of_eq HSa.out.symm) hbv.size; clear hO hbv hb'))
      | (go_at_call 77; (with_reducible refine (HCk.out _ _ HBa.out HRa.out).mono ?_); rintro e wk1 ⟨Y, cy, rfl, hO, hbk⟩; go_must (have hb' : Below w4.heap.size w4 wk1 := HBa.out.trans (hbk.mono HBa.out.size); have HBk1 := Lib.hid hb'; have HOk1 := Lib.hid (show Own (OKept d) 35 (w4.heap.size + 1) wk1.heap.size wk1 (.slice Y ys.length cy) ys from hO.mono (Nat.le_of_eq HSa.out.symm) (Nat.le_refl _)); have hsk : w4.heap.size + 1 ≤ wk1.heap.size := Nat.le_trans (Nat.le_of_eq HSa.out.symm) hbk.size; clear hO hbk hb'))
      | (go_at_call 48; (with_reducible refine (HCv.out _ HBk1.out).mono ?_); rintro e wv3 ⟨A3, c3, rfl, hO, hbv⟩; go_must (have hb' : Below w4.heap.size w4 wv3 := HBk1.out.trans (hbv.mono HBk1.out.size); have HBv3 := Lib.hid hb'; have hsv := hbv.size; have HQ := Lib.hid (takeP_end HG.out HPa.out HTy.out HNn.out (HBW.out.trans (hb'.mono HBW.out.size)) (by omega) hsv (by omega) hsv (Nat.le_refl _) (.inl (Nat.le_refl _)) (HOk1.out.keep fun i _ g2 => hbv.block i g2) hO (.string x.v.ty) (.int .i64 x.v.n) (.slice A3 x.v.parts.length c3) (.slice none 0 0)); clear hO hbv hb'; have HRE := Lib.hid (set4_blk (HRc.out _ HBv3.out) (.string x.v.ty) (.int .i64 x.v.n) (.slice A3 x.v.parts.length c3) (.slice none 0 0)); obtain ⟨r0, r1, r2, r3⟩ := (HRc.out _ HBv3.out).c2; obtain ⟨f0, f1, f2, f3⟩ := (HRc.out _ HBv3.out).f4; obtain ⟨⟨q0, q1⟩, q2, q3⟩ := HSc.out _ HBv3.out))
      | (go_at_call 77; (with_reducible refine (HCk.out _ _ HBv2.out HRv2.out).mono ?_); rintro e wk2 ⟨Y, cy, rfl, hO, hbk⟩; go_must (have hb' : Below w4.heap.size w4 wk2 := HBv2.out.trans (hbk.mono HBv2.out.size); have HBk2 := Lib.hid hb'; have hsk := hbk.size; have HQ := Lib.hid (takeP_end HG.out HPa.out HTy.out HNn.out (HBW.out.trans (hb'.mono HBW.out.size)) (by omega) (Nat.le_refl _) (by omega) hsv hsk (.inr (Nat.le_refl _)) hO (HOv2.out.keep fun i _ g2 => hbk.block i g2) (.string x.v.ty) (.int .i64 x.v.n) (.slice A3 x.v.parts.length c3) (.slice none 0 0)); clear hO hbk hb'; have HRE := Lib.hid (set4_blk (HRc.out _ HBk2.out) (.string x.v.ty) (.int .i64 x.v.n) (.slice A3 x.v.parts.length c3) (.slice none 0 0)); obtain ⟨r0, r1, r2, r3⟩ := (HRc.out _ HBk2.out).c2; obtain ⟨f0, f1, f2, f3⟩ := (HRc.out _ HBk2.out).f4; obtain ⟨⟨q0, q1⟩, q2, q3⟩ := HSc.out _ HBk2.out))
      | (go_at_call 77; (with_reducible refine (HCk.out _ _ HBva.out HRv1.out).mono ?_); rintro e wk3 ⟨Y, cy, rfl, hO, hbk⟩; go_must (have hb' : Below w4.heap.size w4 wk3 := HBva.out.trans (hbk.mono HBva.out.size); have HBk3 := Lib.hid hb'; have hsk : wv1.heap.size + 1 ≤ wk3.heap.size := Nat.le_trans (Nat.le_of_eq (World.size_alloc wv1 _).symm) hbk.size; have hkk : ∀ i, i < wv1.heap.size → wk3.heap[i]? = wv1.heap[i]? := (fun i g2 => (hbk.block i (Nat.lt_trans g2 (Nat.lt_of_lt_of_eq (Nat.lt_succ_self _) (World.size_alloc wv1 _).symm))).trans (Below.heap_alloc _ _ _ g2)); have hO' : Own (OKept d) 35 (wv1.heap.size + 1) wk3.heap.size wk3 (.slice Y ys.length cy) ys := hO.mono (Nat.le_of_eq (World.size_alloc wv1 _).symm) (Nat.le_refl _); have HQ := Lib.hid (takeP_end HG.out HPa.out HTy.out HNn.out (HBW.out.trans (hb'.mono HBW.out.size)) (by omega) (Nat.le_refl _) (by omega) hsv (by omega) (.inr (Nat.le_succ _)) hO' (HOv1.out.keep fun i _ g2 => hkk i g2) (.string x.v.ty) (.int .i64 x.v.n) (.slice A3 x.v.parts.length c3) (.slice none 0 0)); clear hO hbk hb'; have HRE := Lib.hid (set4_blk (HRc.out _ HBk3.out) (.string x.v.ty) (.int .i64 x.v.n) (.slice A3 x.v.parts.length c3) (.slice none 0 0)); obtain ⟨r0, r1, r2, r3⟩ := (HRc.out _ HBk3.out).c2; obtain ⟨f0, f1, f2, f3⟩ := (HRc.out _ HBk3.out).f4; obtain ⟨⟨q0, q1⟩, q2, q3⟩ := HSc.out _ HBk3.out))
      | fail)
    all_goals
      go_wp2
      obtain ⟨u0, u1, u2, u3⟩ := HRE.out.c2
      exact bodyPost_ret (v := .tuple #[.slice Y ys.length cy, .agg #[.string x.v.ty, .int .i64 x.v.n, .slice A3 x.v.parts.length c3, .slice none 0 0], .bool true]) (by simp [results, Try.results33, go_sem, u0, u1, u2, u3]) rfl HQ.out
end Go.Proofs.Ytemlpiokdoeeeaa
