/- Whatever the arguments, the exact law of VaultsSet answers true: the program's VaultsSet is the model's, leaves its arguments alone, and hands back memory of its own. -/
import Derived.Test.YtemlpiokdoeeeaaWn
import Derived.Test.YtemlpiokdoeeeaaWo
import Derived.Test.YtemlpiokdoeeeaaWk
import Derived.Test.YtemlpiokdoeeeaaTo
import Derived.Test.YtemlpiokdoeeeaaEq
namespace Go.Proofs.Ytemlpiokdoeeeaa
open Go.ChangeShapes Go.WideShapes Go.ChangeAt Go.RowKit Go.Deep
open Go.ChangeMaps (open_string shut_string)

theorem mkRS_pos (ks : Ks) (k : Nat) : k ≤ (markL mkRS ks k).2 := markL_le mkRS_le ks k
theorem kept_own {d : Nat} {w0 w : World} {v : Value} {xs : List KepR} (h : Own (OKept d) 35 w0.heap.size w.heap.size w v xs) : (Cod.kept (Cod.val d)).Sl (fun b => w0.heap.size ≤ b ∧ b < w.heap.size) w v xs := by
  have := h.sl
  rw [okept_cod] at this
  exact this
theorem kept_up {D E : Nat} (h : D ≤ E) {F : Nat → Prop} {w : World} {v : Value} {xs : List KepR} (hs : (Cod.kept (Cod.val D)).Sl F w v xs) : (Cod.kept (Cod.val E)).Sl F w v xs :=
  Cod.Sl.imp (c := Cod.kept (Cod.val D)) (c' := Cod.kept (Cod.val E)) rfl (fun hr => by
    obtain ⟨a, p, hc, h0, hV⟩ := hr
    exact ⟨a, p, hc, h0, hV.ty, hV.n, hV.parts.imp (by rw [val_size, val_size]) (fun h' => val_le h h'), hV.path⟩) hs
theorem val_up {D E : Nat} (h : D ≤ E) {F : Nat → Prop} {w : World} {a p : Value} {x : Val} (hV : VRd (Cod.val D) F w a p x) : VRd (Cod.val E) F w a p x :=
  ⟨hV.ty, hV.n, hV.parts.imp (by rw [val_size, val_size]) (fun h' => val_le h h'), hV.path⟩
theorem setK_sum (d : Nat) (v : Val) (xs : List KepR) (j : Nat) : ((setK xs j v).map (cK d)).sum ≤ 3 + cT d v + (xs.map (cK d)).sum := by
  unfold setK
  generalize (xs.getD j zeroK).o = q
  induction xs generalizing j with
  | nil => show (0 : Nat) ≤ _; omega
  | cons x r ih =>
    cases j with
    | zero => show cK d ⟨q, v⟩ + (r.map (cK d)).sum ≤ 3 + cT d v + (cK d x + (r.map (cK d)).sum); have : cK d ⟨q, v⟩ = 3 + cT d v := rfl; omega
    | succ j => have := ih j; show cK d x + ((r.set j ⟨q, v⟩).map (cK d)).sum ≤ 3 + cT d v + (cK d x + (r.map (cK d)).sum); omega
theorem setR_mark {ks : Ks} {d : Nat} {xs : List KepR} {o : Int} {x : Val} (h : VSmall ks d xs) (hx : cT d x ≤ 10000000) : (markL (mkKep d) (setR ks d xs o x).1 1).2 ≤ 100000000 := by
  rw [mkKs_shift]
  unfold setR
  have h2 := h.sum
  split
  · rename_i j _
    split
    · have := setK_sum d x xs j
      show 1 + ((setK xs j x).map (cK d)).sum ≤ _
      omega
    · exact (by decide : (1 : Nat) ≤ 100000000)
  · exact (by decide : (1 : Nat) ≤ 100000000)

/-- What the program's VaultsSet does. -/
def ImplSet5 : Prop := ∀ (d : Nat) (F : Nat → Prop) (kv vl : Value) (ks : Ks) (xs : List KepR) (o : Int) (A B : Option Addr) (n m cA cB : Nat) (x : Val) (w : World), Cod.recs.Sl F w kv ks → (Cod.kept (Cod.val d)).Sl F w vl xs → VRd (Cod.val d) F w (.slice A n cA) (.slice B m cB) x → (∀ b, F b → b < w.heap.size) → VSmall ks d xs → Smol (SmolD d) x → cT d x ≤ 10000000 → I64 o →
    Calls Try.prog 35 #[kv, vl, .int .i64 o, .agg #[.string x.ty, .int .i64 x.n, .slice A n cA, .slice B m cB]] w fun e w' => ∃ Y cy, e = .returned (.tuple #[.slice Y (setR ks d xs o x).1.length cy, .bool (setR ks d xs o x).2]) ∧ Own (OKept d) 35 w.heap.size w'.heap.size w' (.slice Y (setR ks d xs o x).1.length cy) (setR ks d xs o x).1 ∧ Below w.heap.size w w'

set_option maxRecDepth 100000 in
set_option maxHeartbeats 16000000 in
theorem lawVaultsSet (himpl : ImplSet5) {d : Nat} (F : Nat → Prop) (kv vl : Value) (ks : Ks) (xs : List KepR) (o : Int) (A B : Option Addr) (n m cA cB : Nat) (x : Val) (wb : World) (hks : Cod.recs.Sl F wb kv ks) (h : (Cod.kept (Cod.val d)).Sl F wb vl xs) (hx : VRd (Cod.val d) F wb (.slice A n cA) (.slice B m cB) x) (hF : ∀ b, F b → b < wb.heap.size) (ho : I64 o) :
    Calls Try.prog 8 #[kv, vl, .int .i64 o, .agg #[.string x.ty, .int .i64 x.n, .slice A n cA, .slice B m cB]] wb fun e w' => e = .returned (.bool true) ∧ Below wb.heap.size wb w' := by
  obtain ⟨w0, hwb⟩ : ∃ w0, w0 = wb.alloc (.cells #[.string x.ty, .int .i64 x.n, .slice A n cA, .slice B m cB] 53) := ⟨_, rfl⟩
  have hb0 : Below wb.heap.size wb w0 := by rw [hwb]; exact (Below.refl _ _).alloc (Nat.le_refl _) _
  have hs0 : wb.heap.size + 1 = w0.heap.size := by rw [hwb]; simp
  have hk0 : ∀ b, F b → w0.heap[b]? = wb.heap[b]? := fun b hb => hb0.block b (hF b hb)
  have HXB0 := Lib.hid (show Blk w0 wb.heap.size 53 #[.string x.ty, .int .i64 x.n, .slice A n cA, .slice B m cB] by rw [hwb]; exact Blk.new _ _ _)
  obtain ⟨Ak, ck, rfl, _⟩ := id hks
  obtain ⟨A0, cap, rfl, _⟩ := id h
  have HK0 := Lib.hid (hks.keep hk0)
  have HV0 := Lib.hid (h.keep hk0)
  have HKx0 := Lib.hid (hx.keep hk0)
  have HF0 := Lib.hid (show ∀ b, F b → b < w0.heap.size from fun b hb => by have := hF b hb; omega)
  have HEb := Lib.hid hb0
  have HE0 := Lib.hid (Below.refl w0.heap.size w0)
  have Hwb := Lib.hid hwb
  have hbb : wb.heap.size < w0.heap.size := by omega
  clear hF h hks hx hk0 hb0 hwb
  have HC1 := Lib.hid (szRecordSS_any F _ ks 1048576 w0 HK0.out HF0.out (by omega) (by omega))
  by_cases hz : szS (szS szRec) ks 1048576 < 0
  · go_enter Try.func8, Try.ntmps8
    go_wp2_with fail
    rw [← Hwb.out]
    refine HC1.out.mono ?_
    rintro e w1 ⟨rfl, hb⟩
    go_wp2
    go_ret
    exact ⟨rfl, HEb.out.trans (hb.mono HEb.out.size)⟩
  have hle := szS_le (szS_le szRec_le) ks 1048576 (by omega)
  have HC2 := Lib.hid (fun (W : World) (hb : Below w0.heap.size w0 W) => sz_kept d F _ xs (szS (szS szRec) ks 1048576) W (HV0.out.keep (below_keeps hb HF0.out)) (below_goF HF0.out hb) (by omega) (by omega))
  by_cases hz2 : szS (szKep d) xs (szS (szS szRec) ks 1048576) < 0
  · go_enter Try.func8, Try.ntmps8
    go_wp2_with fail
    rw [← Hwb.out]
    refine HC1.out.mono ?_
    rintro e w1 ⟨rfl, hb⟩
    have HC3 := Lib.hid (HC2.out w1 hb)
    have HE1 := Lib.hid hb
    clear hb HC1 HC2
    go_wp2_with fail
    refine HC3.out.mono ?_
    rintro e w2 ⟨rfl, hb⟩
    go_wp2
    go_ret
    exact ⟨rfl, HEb.out.trans ((HE1.out.trans (hb.mono HE1.out.size)).mono HEb.out.size)⟩
  have hle2 := szS_le (szKep_le d) xs (szS (szS szRec) ks 1048576) (by omega)
  have HC3 := Lib.hid (fun (W : World) (hb : Below w0.heap.size w0 W) => szValue_any d F A B n m cA cB x (szS (szKep d) xs (szS (szS szRec) ks 1048576)) W (HKx0.out.keep (below_keeps hb HF0.out)) (below_goF HF0.out hb) (by omega) (by omega))
  by_cases hz3 : szOf (szVal d) x (szS (szKep d) xs (szS (szS szRec) ks 1048576)) < 0
  · go_enter Try.func8, Try.ntmps8
    go_wp2_with fail
    rw [← Hwb.out]
    refine HC1.out.mono ?_
    rintro e w1 ⟨rfl, hb⟩
    have HC4 := Lib.hid (HC2.out w1 hb)
    have HE1 := Lib.hid hb
    clear hb HC1 HC2
    go_wp2_with fail
    refine HC4.out.mono ?_
    rintro e w2 ⟨rfl, hb⟩
    have HE2 := Lib.hid (HE1.out.trans (hb.mono HE1.out.size))
    have HC5 := Lib.hid (HC3.out w2 HE2.out)
    obtain ⟨x0, x1, x2, x3⟩ := (HXB0.out.below HE2.out hbb).c2
    clear hb HC4 HC3
    go_wp2_with fail
    refine HC5.out.mono ?_
    rintro e w3 ⟨rfl, hb⟩
    go_wp2
    go_ret
    exact ⟨rfl, HEb.out.trans ((HE2.out.trans (hb.mono HE2.out.size)).mono HEb.out.size)⟩
  · have HSm := Lib.hid (vsmall hz hz2)
    have HSx := Lib.hid (sz_val (d := d) (v := x) (l := szS (szKep d) xs (szS (szS szRec) ks 1048576)) (by omega) (by omega) (by omega))
    have hcT : cT d x ≤ 10000000 := by
      have := marks_parts5 (marks_val5 d) x (szS (szKep d) xs (szS (szS szRec) ks 1048576)) 0 (by omega) (by omega)
      have e : (mkTop (mkV d) x 0).2 = (markL mkI x.path (markL (mkV d) x.parts 0).2).2 := rfl
      rw [← e, mkTop_shift] at this
      omega
    have HMR0 : (markL (mkKep d) (setR ks d xs o x).1 1).2 ≤ 100000000 := setR_mark HSm.out hcT
    have HMx := Lib.hid (show (mkTop (mkV d) x (markL (mkKep d) xs (markL mkRS ks 1).2).2).2 ≤ 100000000 by rw [mkTop_shift]; have := HSm.out.mx; omega)
    have HSP0 := fun (F : Nat → Prop) (kv vl : Value) (A B : Option Addr) (n m cA cB : Nat) (w : World) (h1 : Cod.recs.Sl F w kv ks) (h2 : (Cod.kept (Cod.val d)).Sl F w vl xs) (h4 : VRd (Cod.val d) F w (.slice A n cA) (.slice B m cB) x) (h3 : ∀ b, F b → b < w.heap.size) => specVaultsSet_any d F kv vl xs o A B n m cA cB x w h1 h2 h4 h3 HSm.out.xr HSx.out ho
    have HIM0 := fun (F : Nat → Prop) (kv vl : Value) (A B : Option Addr) (n m cA cB : Nat) (w : World) (h1 : Cod.recs.Sl F w kv ks) (h2 : (Cod.kept (Cod.val d)).Sl F w vl xs) (h4 : VRd (Cod.val d) F w (.slice A n cA) (.slice B m cB) x) (h3 : ∀ b, F b → b < w.heap.size) => himpl d F kv vl ks xs o A B n m cA cB x w h1 h2 h4 h3 HSm.out HSx.out hcT ho
    unfold RowKD at HSP0
    obtain ⟨rr, hrr⟩ : ∃ rr, rr = setR ks d xs o x := ⟨_, rfl⟩
    rw [← hrr] at HMR0 HSP0 HIM0
    clear hrr hcT
    obtain ⟨ys, bo⟩ := rr
    simp only at HMR0 HSP0 HIM0
    have HMR := Lib.hid HMR0
    have HSP := Lib.hid HSP0
    have HIM := Lib.hid HIM0
    clear HMR0 HSP0 HIM0 himpl
    go_enter Try.func8, Try.ntmps8
    go_wp2_with fail
    rw [← Hwb.out]
    refine HC1.out.mono ?_
    rintro e w1 ⟨rfl, hb⟩
    have HC4 := Lib.hid (HC2.out w1 hb)
    have HE1 := Lib.hid hb
    clear hb HC1 HC2
    go_wp2_with fail
    refine HC4.out.mono ?_
    rintro e w2 ⟨rfl, hb⟩
    have HE2 := Lib.hid (HE1.out.trans (hb.mono HE1.out.size))
    have HC5 := Lib.hid (HC3.out w2 HE2.out)
    obtain ⟨x0, x1, x2, x3⟩ := (HXB0.out.below HE2.out hbb).c2
    clear hb HC4 HC3
    go_wp2_with fail
    refine HC5.out.mono ?_
    rintro e w3 ⟨rfl, hb⟩
    have HE3 := Lib.hid (HE2.out.trans (hb.mono HE2.out.size))
    have hz03 := HE3.out.size
    have HK3 := Lib.hid (HK0.out.keep (below_keeps HE3.out HF0.out))
    have HV3 := Lib.hid (HV0.out.keep (below_keeps HE3.out HF0.out))
    have HKx3 := Lib.hid (HKx0.out.keep (below_keeps HE3.out HF0.out))
    have HXB3 := Lib.hid (HXB0.out.below HE3.out hbb)
    clear hb HC5 x0 x1 x2 x3 HK0 HV0 HKx0 HXB0 HE1 HE2
    go_upto_region 11 with fail
    have HBd := Lib.hid (show Below w3.heap.size w3 w3.drew from below_draw w3)
    have HCk := Lib.hid (fun (W : World) (hb : Below w3.heap.size w3 W) => toRecordSS_any F _ ks W (HK3.out.keep fun b h => hb.block b (by have := HF0.out b h; omega)) (fun b h => by have := HF0.out b h; have := hb.size; omega) HSm.out.kn HSm.out.kr)
    have HCl := Lib.hid (fun (W : World) (hb : Below w3.heap.size w3 W) => to_kept d F _ xs W (by rw [okept_cod]; exact HV3.out.keep fun b h => hb.block b (by have := HF0.out b h; omega)) (fun b h => by have := HF0.out b h; have := hb.size; omega) (Nat.le_trans HSm.out.xn (by omega)) HSm.out.xr)
    have HCv := Lib.hid (fun (W : World) (hb : Below w3.heap.size w3 W) => toValue_any d F A B n m cA cB x W (HKx3.out.keep fun b h => hb.block b (by have := HF0.out b h; omega)) (fun b h => by have := HF0.out b h; have := hb.size; omega) HSx.out)
    have HSc := Lib.hid (fun (w' : World) (hb : Below w3.heap.size w3 w') => show w'.cell? ⟨wb.heap.size, 0, none⟩ = some (.string x.ty) ∧ w'.cell? ⟨wb.heap.size, 1, none⟩ = some (.int .i64 x.n) ∧ w'.cell? ⟨wb.heap.size, 2, none⟩ = some (.slice A n cA) ∧ w'.cell? ⟨wb.heap.size, 3, none⟩ = some (.slice B m cB) from (HXB3.out.below hb (by omega)).c2)
    go_cut [10, 11] (fun s10 s11 wx => ∃ (Y : Option Addr) (cy : Nat), s10 = .slice Y ys.length cy ∧ s11 = .bool bo ∧ Hid ((Cod.kept (Cod.val d)).Sl (fun b => w3.heap.size ≤ b ∧ b < wx.heap.size) wx (.slice Y ys.length cy) ys) ∧ Hid (Below w3.heap.size w3 wx))
    case first =>
      go_region_held3 (fun w' => w'.cell? ⟨wb.heap.size, 0, none⟩ = some (.string x.ty) ∧ w'.cell? ⟨wb.heap.size, 1, none⟩ = some (.int .i64 x.n) ∧ w'.cell? ⟨wb.heap.size, 2, none⟩ = some (.slice A n cA) ∧ w'.cell? ⟨wb.heap.size, 3, none⟩ = some (.slice B m cB)) (exact HSc.out _ (by first | with_reducible exact HBd.out | with_reducible exact HBk.out | with_reducible exact HBl.out | with_reducible exact HBv.out | with_reducible exact HBs.out)) (first
          | (go_at_call 17; (with_reducible refine (HCk.out _ (by first | with_reducible exact HBd.out | with_reducible exact HBk.out | with_reducible exact HBl.out | with_reducible exact HBv.out)).mono ?_); rintro e wk ⟨Kx, kcx, rfl, hMk⟩; go_must (
            have hbk := Lib.hid hMk.2;
            have HBk := Lib.hid (show Below w3.heap.size w3 wk from Below.trans (by first | with_reducible exact HBd.out | with_reducible exact HBk.out | with_reducible exact HBl.out | with_reducible exact HBv.out) (hbk.out.mono (by first | with_reducible exact HBd.out.size | with_reducible exact HBk.out.size | with_reducible exact HBl.out.size | with_reducible exact HBv.out.size)));
            have HMk := Lib.hid hMk.1;
            clear hMk))
          | (go_at_call 18; (with_reducible refine (HCl.out _ (by first | with_reducible exact HBd.out | with_reducible exact HBk.out | with_reducible exact HBl.out | with_reducible exact HBv.out)).mono ?_); rintro e wl ⟨Lx, lcx, rfl, hMl⟩; go_must (
            have hbl := Lib.hid hMl.2;
            have HBl := Lib.hid (show Below w3.heap.size w3 wl from Below.trans (by first | with_reducible exact HBd.out | with_reducible exact HBk.out | with_reducible exact HBl.out | with_reducible exact HBv.out) (hbl.out.mono (by first | with_reducible exact HBd.out.size | with_reducible exact HBk.out.size | with_reducible exact HBl.out.size | with_reducible exact HBv.out.size)));
            have HMl := Lib.hid hMl.1;
            clear hMl))
          | (go_at_call 29; (with_reducible refine (HCv.out _ (by first | with_reducible exact HBd.out | with_reducible exact HBk.out | with_reducible exact HBl.out | with_reducible exact HBv.out)).mono ?_); rintro e wv ⟨Ax, vax, Bx, vbx, rfl, hMx⟩; go_must (
            have hbv := Lib.hid hMx.2;
            have HBv := Lib.hid (show Below w3.heap.size w3 wv from Below.trans (by first | with_reducible exact HBd.out | with_reducible exact HBk.out | with_reducible exact HBl.out | with_reducible exact HBv.out) (hbv.out.mono (by first | with_reducible exact HBd.out.size | with_reducible exact HBk.out.size | with_reducible exact HBl.out.size | with_reducible exact HBv.out.size)));
            have HMv := Lib.hid hMx.1;
            clear hMx))
          | (go_at_call 34; (first
              | (have HX := HSP.out (fun b => b < wk.heap.size) _ _ _ _ _ _ _ _ wk ((HMk.out.keep (below_keeps (show Below wk.heap.size wk wk from Below.refl _ _) (fun b hb => hb.2))).mono (fun b hb => Nat.lt_of_lt_of_le hb.2 (Below.size (show Below wk.heap.size wk wk from Below.refl _ _)))) (((kept_own HMl.out).keep (below_keeps (show Below wl.heap.size wl wk from (by first | exact hbk.out | exact (hbv.out.trans (hbk.out.mono hbv.out.size)))) (fun b hb => hb.2))).mono (fun b hb => Nat.lt_of_lt_of_le hb.2 (Below.size (show Below wl.heap.size wl wk from (by first | exact hbk.out | exact (hbv.out.trans (hbk.out.mono hbv.out.size))))))) ((HMv.out.keep (below_keeps (show Below wv.heap.size wv wk from (by first | exact hbk.out | exact (hbl.out.trans (hbk.out.mono hbl.out.size)))) (fun b hb => hb.2))).mono (fun b hb => Nat.lt_of_lt_of_le hb.2 (Below.size (show Below wv.heap.size wv wk from (by first | exact hbk.out | exact (hbl.out.trans (hbk.out.mono hbl.out.size))))))) (fun b hb => hb); with_reducible refine HX.mono ?_)
              | (have HX := HSP.out (fun b => b < wl.heap.size) _ _ _ _ _ _ _ _ wl ((HMk.out.keep (below_keeps (show Below wk.heap.size wk wl from (by first | exact hbl.out | exact (hbv.out.trans (hbl.out.mono hbv.out.size)))) (fun b hb => hb.2))).mono (fun b hb => Nat.lt_of_lt_of_le hb.2 (Below.size (show Below wk.heap.size wk wl from (by first | exact hbl.out | exact (hbv.out.trans (hbl.out.mono hbv.out.size))))))) (((kept_own HMl.out).keep (below_keeps (show Below wl.heap.size wl wl from Below.refl _ _) (fun b hb => hb.2))).mono (fun b hb => Nat.lt_of_lt_of_le hb.2 (Below.size (show Below wl.heap.size wl wl from Below.refl _ _)))) ((HMv.out.keep (below_keeps (show Below wv.heap.size wv wl from (by first | exact hbl.out | exact (hbk.out.trans (hbl.out.mono hbk.out.size)))) (fun b hb => hb.2))).mono (fun b hb => Nat.lt_of_lt_of_le hb.2 (Below.size (show Below wv.heap.size wv wl from (by first | exact hbl.out | exact (hbk.out.trans (hbl.out.mono hbk.out.size))))))) (fun b hb => hb); with_reducible refine HX.mono ?_)
              | (have HX := HSP.out (fun b => b < wv.heap.size) _ _ _ _ _ _ _ _ wv ((HMk.out.keep (below_keeps (show Below wk.heap.size wk wv from (by first | exact hbv.out | exact (hbl.out.trans (hbv.out.mono hbl.out.size)))) (fun b hb => hb.2))).mono (fun b hb => Nat.lt_of_lt_of_le hb.2 (Below.size (show Below wk.heap.size wk wv from (by first | exact hbv.out | exact (hbl.out.trans (hbv.out.mono hbl.out.size))))))) (((kept_own HMl.out).keep (below_keeps (show Below wl.heap.size wl wv from (by first | exact hbv.out | exact (hbk.out.trans (hbv.out.mono hbk.out.size)))) (fun b hb => hb.2))).mono (fun b hb => Nat.lt_of_lt_of_le hb.2 (Below.size (show Below wl.heap.size wl wv from (by first | exact hbv.out | exact (hbk.out.trans (hbv.out.mono hbk.out.size))))))) ((HMv.out.keep (below_keeps (show Below wv.heap.size wv wv from Below.refl _ _) (fun b hb => hb.2))).mono (fun b hb => Nat.lt_of_lt_of_le hb.2 (Below.size (show Below wv.heap.size wv wv from Below.refl _ _)))) (fun b hb => hb); with_reducible refine HX.mono ?_)); rintro e wz ⟨Ys, cys, rfl, hR, hbz⟩; go_must (
            have HBs := Lib.hid (show Below w3.heap.size w3 wz from Below.trans (by first | with_reducible exact HBk.out | with_reducible exact HBl.out | with_reducible exact HBv.out) (hbz.mono (by first | with_reducible exact HBk.out.size | with_reducible exact HBl.out.size | with_reducible exact HBv.out.size)));
            have HRes := Lib.hid (show (Cod.kept (Cod.val d)).Sl (fun b => w3.heap.size ≤ b ∧ b < wz.heap.size) wz (.slice Ys ys.length cys) ys from hR.mono (fun b hb => ⟨Nat.le_trans (by first | with_reducible exact HBk.out.size | with_reducible exact HBl.out.size | with_reducible exact HBv.out.size) hb.1, hb.2⟩));
            clear hR;
            clear hbz)))
      all_goals
        go_wp2
        go_meet
        exact ⟨_, _, rfl, rfl, HRes, HBs⟩
    case rest =>
      obtain ⟨Ys, cys, rfl, rfl, HR, HB⟩ := hcut
      obtain ⟨w4, hw4⟩ : ∃ u, u = wc := ⟨_, rfl⟩
      subst hw4
      clear HBd HCk HCl HCv HSc
      have hb := HB.out
      have hz3 := hb.size
      have HV4 : Hid ((Cod.kept (Cod.val d)).Sl F w4 (.slice A0 xs.length cap) xs) := Lib.hid (HV3.out.keep fun b hb' => by have h1 := HF0.out b hb'; exact hb.block b (by omega))
      have HK4 : Hid (Cod.recs.Sl F w4 (.slice Ak ks.length ck) ks) := Lib.hid (HK3.out.keep fun b hb' => by have h1 := HF0.out b hb'; exact hb.block b (by omega))
      have HKx4 : Hid (VRd (Cod.val d) F w4 (.slice A n cA) (.slice B m cB) x) := Lib.hid (HKx3.out.keep fun b hb' => by have h1 := HF0.out b hb'; exact hb.block b (by omega))
      have HXB4 : Hid (Blk w4 wb.heap.size 53 #[.string x.ty, .int .i64 x.n, .slice A n cA, .slice B m cB]) := Lib.hid ((hb.block (wb.heap.size) (by omega)).trans HXB3.out)
      have HE4 := Lib.hid (HE3.out.trans (hb.mono (by omega)))
      have HR4 : Hid ((Cod.kept (Cod.val d)).Sl (fun b => w3.heap.size ≤ b ∧ b < w4.heap.size) w4 (.slice Ys ys.length cys) ys) := HR
      clear hb HR HB
      have HC := Lib.hid (toRecordSS_own F _ ks w4 HK4.out (fun b hb => by have := HF0.out b hb; omega) HSm.out.kn HSm.out.kr)
      go_wp2_with fail
      refine HC.out.mono ?_
      rintro e w5 ⟨Km, kcm, rfl, hO, hb⟩
      clear HC
      have hz4 := hb.size
      have HV5 : Hid ((Cod.kept (Cod.val d)).Sl F w5 (.slice A0 xs.length cap) xs) := Lib.hid (HV4.out.keep fun b hb' => by have h1 := HF0.out b hb'; exact hb.block b (by omega))
      have HK5 : Hid (Cod.recs.Sl F w5 (.slice Ak ks.length ck) ks) := Lib.hid (HK4.out.keep fun b hb' => by have h1 := HF0.out b hb'; exact hb.block b (by omega))
      have HKx5 : Hid (VRd (Cod.val d) F w5 (.slice A n cA) (.slice B m cB) x) := Lib.hid (HKx4.out.keep fun b hb' => by have h1 := HF0.out b hb'; exact hb.block b (by omega))
      have HXB5 : Hid (Blk w5 wb.heap.size 53 #[.string x.ty, .int .i64 x.n, .slice A n cA, .slice B m cB]) := Lib.hid ((hb.block (wb.heap.size) (by omega)).trans HXB4.out)
      have HR5 : Hid ((Cod.kept (Cod.val d)).Sl (fun b => w3.heap.size ≤ b ∧ b < w4.heap.size) w5 (.slice Ys ys.length cys) ys) := Lib.hid (HR4.out.keep fun b hb' => by have h1 := hb'.1; have h2 := hb'.2; exact hb.block b (by omega))
      have HE5 := Lib.hid (HE4.out.trans (hb.mono (by omega)))
      have HOkm5 : Hid (Own ((OCod.rec_ 9).row 112) 85 w4.heap.size w5.heap.size w5 (.slice Km ks.length kcm) ks) := Lib.hid hO
      clear hb hO
      have HC := Lib.hid (to_kept d F _ xs w5 (by rw [okept_cod]; exact HV5.out) (fun b hb => by have := HF0.out b hb; omega) (Nat.le_trans HSm.out.xn (by omega)) HSm.out.xr)
      go_wp2_with fail
      refine HC.out.mono ?_
      rintro e w6 ⟨Lm, lcm, rfl, hO, hb⟩
      clear HC
      have hz5 := hb.size
      have HV6 : Hid ((Cod.kept (Cod.val d)).Sl F w6 (.slice A0 xs.length cap) xs) := Lib.hid (HV5.out.keep fun b hb' => by have h1 := HF0.out b hb'; exact hb.block b (by omega))
      have HK6 : Hid (Cod.recs.Sl F w6 (.slice Ak ks.length ck) ks) := Lib.hid (HK5.out.keep fun b hb' => by have h1 := HF0.out b hb'; exact hb.block b (by omega))
      have HKx6 : Hid (VRd (Cod.val d) F w6 (.slice A n cA) (.slice B m cB) x) := Lib.hid (HKx5.out.keep fun b hb' => by have h1 := HF0.out b hb'; exact hb.block b (by omega))
      have HXB6 : Hid (Blk w6 wb.heap.size 53 #[.string x.ty, .int .i64 x.n, .slice A n cA, .slice B m cB]) := Lib.hid ((hb.block (wb.heap.size) (by omega)).trans HXB5.out)
      have HR6 : Hid ((Cod.kept (Cod.val d)).Sl (fun b => w3.heap.size ≤ b ∧ b < w4.heap.size) w6 (.slice Ys ys.length cys) ys) := Lib.hid (HR5.out.keep fun b hb' => by have h1 := hb'.1; have h2 := hb'.2; exact hb.block b (by omega))
      have HOkm6 : Hid (Own ((OCod.rec_ 9).row 112) 85 w4.heap.size w5.heap.size w6 (.slice Km ks.length kcm) ks) := Lib.hid (HOkm5.out.keep fun b g1 g2 => hb.block b (by omega))
      have HE6 := Lib.hid (HE5.out.trans (hb.mono (by omega)))
      have HOlm6 : Hid (Own (OKept d) 35 w5.heap.size w6.heap.size w6 (.slice Lm xs.length lcm) xs) := Lib.hid hO
      clear hb hO
      have HC := Lib.hid (toValue_own d F A B n m cA cB x w6 (by rw [OCod.val_cod]; exact HKx6.out) (fun b hb => by have := HF0.out b hb; omega) HSx.out)
      obtain ⟨p0, p1, p2, p3⟩ := HXB6.out.c2
      go_wp2_with fail
      refine HC.out.mono ?_
      rintro e w7 ⟨Am, vam, Bm, vbm, rfl, hO, hb⟩
      clear HC p0 p1 p2 p3
      have hz6 := hb.size
      have HV7 : Hid ((Cod.kept (Cod.val d)).Sl F w7 (.slice A0 xs.length cap) xs) := Lib.hid (HV6.out.keep fun b hb' => by have h1 := HF0.out b hb'; exact hb.block b (by omega))
      have HK7 : Hid (Cod.recs.Sl F w7 (.slice Ak ks.length ck) ks) := Lib.hid (HK6.out.keep fun b hb' => by have h1 := HF0.out b hb'; exact hb.block b (by omega))
      have HKx7 : Hid (VRd (Cod.val d) F w7 (.slice A n cA) (.slice B m cB) x) := Lib.hid (HKx6.out.keep fun b hb' => by have h1 := HF0.out b hb'; exact hb.block b (by omega))
      have HXB7 : Hid (Blk w7 wb.heap.size 53 #[.string x.ty, .int .i64 x.n, .slice A n cA, .slice B m cB]) := Lib.hid ((hb.block (wb.heap.size) (by omega)).trans HXB6.out)
      have HR7 : Hid ((Cod.kept (Cod.val d)).Sl (fun b => w3.heap.size ≤ b ∧ b < w4.heap.size) w7 (.slice Ys ys.length cys) ys) := Lib.hid (HR6.out.keep fun b hb' => by have h1 := hb'.1; have h2 := hb'.2; exact hb.block b (by omega))
      have HOkm7 : Hid (Own ((OCod.rec_ 9).row 112) 85 w4.heap.size w5.heap.size w7 (.slice Km ks.length kcm) ks) := Lib.hid (HOkm6.out.keep fun b g1 g2 => hb.block b (by omega))
      have HOlm7 : Hid (Own (OKept d) 35 w5.heap.size w6.heap.size w7 (.slice Lm xs.length lcm) xs) := Lib.hid (HOlm6.out.keep fun b g1 g2 => hb.block b (by omega))
      have HE7 := Lib.hid (HE6.out.trans (hb.mono (by omega)))
      have HOvm7 : Hid (OV (OCod.val 31 3 d) 31 3 w6.heap.size w7.heap.size w7 (.slice Am x.parts.length vam) (.slice Bm x.path.length vbm) x) := Lib.hid hO
      clear hb hO
      obtain ⟨w8, hw8⟩ : ∃ u, u = w7.alloc (.cells #[.string x.ty, .int .i64 x.n, .slice Am x.parts.length vam, .slice Bm x.path.length vbm] 31) := ⟨_, rfl⟩
      have HXM8 := Lib.hid (show Blk w8 w7.heap.size 31 #[.string x.ty, .int .i64 x.n, .slice Am x.parts.length vam, .slice Bm x.path.length vbm] by rw [hw8]; exact Blk.new _ _ _)
      have hb : Below w7.heap.size w7 w8 := by rw [hw8]; exact (Below.refl _ _).alloc (Nat.le_refl _) _
      have hy8 : w7.heap.size + 1 = w8.heap.size := by rw [hw8]; simp
      have Hw8 := Lib.hid hw8
      clear hw8
      have hz7 := hb.size
      have HV8 : Hid ((Cod.kept (Cod.val d)).Sl F w8 (.slice A0 xs.length cap) xs) := Lib.hid (HV7.out.keep fun b hb' => by have h1 := HF0.out b hb'; exact hb.block b (by omega))
      have HK8 : Hid (Cod.recs.Sl F w8 (.slice Ak ks.length ck) ks) := Lib.hid (HK7.out.keep fun b hb' => by have h1 := HF0.out b hb'; exact hb.block b (by omega))
      have HKx8 : Hid (VRd (Cod.val d) F w8 (.slice A n cA) (.slice B m cB) x) := Lib.hid (HKx7.out.keep fun b hb' => by have h1 := HF0.out b hb'; exact hb.block b (by omega))
      have HXB8 : Hid (Blk w8 wb.heap.size 53 #[.string x.ty, .int .i64 x.n, .slice A n cA, .slice B m cB]) := Lib.hid ((hb.block (wb.heap.size) (by omega)).trans HXB7.out)
      have HR8 : Hid ((Cod.kept (Cod.val d)).Sl (fun b => w3.heap.size ≤ b ∧ b < w4.heap.size) w8 (.slice Ys ys.length cys) ys) := Lib.hid (HR7.out.keep fun b hb' => by have h1 := hb'.1; have h2 := hb'.2; exact hb.block b (by omega))
      have HOkm8 : Hid (Own ((OCod.rec_ 9).row 112) 85 w4.heap.size w5.heap.size w8 (.slice Km ks.length kcm) ks) := Lib.hid (HOkm7.out.keep fun b g1 g2 => hb.block b (by omega))
      have HOlm8 : Hid (Own (OKept d) 35 w5.heap.size w6.heap.size w8 (.slice Lm xs.length lcm) xs) := Lib.hid (HOlm7.out.keep fun b g1 g2 => hb.block b (by omega))
      have HOvm8 : Hid (OV (OCod.val 31 3 d) 31 3 w6.heap.size w7.heap.size w8 (.slice Am x.parts.length vam) (.slice Bm x.path.length vbm) x) := Lib.hid (HOvm7.out.keep fun b g1 g2 => hb.block b (by omega))
      have HE8 := Lib.hid (HE7.out.trans (hb.mono (by omega)))
      clear hb
      have HC := Lib.hid (HIM.out (fun b => b < w8.heap.size) _ _ _ _ _ _ _ _ w8 ((HOkm8.out.sl).mono (fun b hb => by have := hb.1; have := hb.2; omega)) (((show (Cod.kept (Cod.val d)).Sl _ _ _ _ by have := HOlm8.out.sl; rw [okept_cod] at this; exact this)).mono (fun b hb => by have := hb.1; have := hb.2; omega)) (((show VRd (Cod.val d) _ _ _ _ _ by have := HOvm8.out.rd; rw [OCod.val_cod] at this; exact this)).mono (fun b hb => by have := hb.1; have := hb.2; omega)) (fun b hb => hb))
      go_wp2_with fail
      rw [← Hw8.out]
      refine HC.out.mono ?_
      rintro e w9 ⟨Yg, cyg, rfl, hO, hb⟩
      clear HC
      have hz8 := hb.size
      have HV9 : Hid ((Cod.kept (Cod.val d)).Sl F w9 (.slice A0 xs.length cap) xs) := Lib.hid (HV8.out.keep fun b hb' => by have h1 := HF0.out b hb'; exact hb.block b (by omega))
      have HK9 : Hid (Cod.recs.Sl F w9 (.slice Ak ks.length ck) ks) := Lib.hid (HK8.out.keep fun b hb' => by have h1 := HF0.out b hb'; exact hb.block b (by omega))
      have HKx9 : Hid (VRd (Cod.val d) F w9 (.slice A n cA) (.slice B m cB) x) := Lib.hid (HKx8.out.keep fun b hb' => by have h1 := HF0.out b hb'; exact hb.block b (by omega))
      have HXB9 : Hid (Blk w9 wb.heap.size 53 #[.string x.ty, .int .i64 x.n, .slice A n cA, .slice B m cB]) := Lib.hid ((hb.block (wb.heap.size) (by omega)).trans HXB8.out)
      have HR9 : Hid ((Cod.kept (Cod.val d)).Sl (fun b => w3.heap.size ≤ b ∧ b < w4.heap.size) w9 (.slice Ys ys.length cys) ys) := Lib.hid (HR8.out.keep fun b hb' => by have h1 := hb'.1; have h2 := hb'.2; exact hb.block b (by omega))
      have HOkm9 : Hid (Own ((OCod.rec_ 9).row 112) 85 w4.heap.size w5.heap.size w9 (.slice Km ks.length kcm) ks) := Lib.hid (HOkm8.out.keep fun b g1 g2 => hb.block b (by omega))
      have HOlm9 : Hid (Own (OKept d) 35 w5.heap.size w6.heap.size w9 (.slice Lm xs.length lcm) xs) := Lib.hid (HOlm8.out.keep fun b g1 g2 => hb.block b (by omega))
      have HOvm9 : Hid (OV (OCod.val 31 3 d) 31 3 w6.heap.size w7.heap.size w9 (.slice Am x.parts.length vam) (.slice Bm x.path.length vbm) x) := Lib.hid (HOvm8.out.keep fun b g1 g2 => hb.block b (by omega))
      have HXM9 : Hid (Blk w9 w7.heap.size 31 #[.string x.ty, .int .i64 x.n, .slice Am x.parts.length vam, .slice Bm x.path.length vbm]) := Lib.hid ((hb.block (w7.heap.size) (by omega)).trans HXM8.out)
      have HE9 := Lib.hid (HE8.out.trans (hb.mono (by omega)))
      have HOrg9 : Hid (Own (OKept d) 35 w8.heap.size w9.heap.size w9 (.slice Yg ys.length cyg) ys) := Lib.hid hO
      clear hb hO
      have HC := Lib.hid (eq_kept d (fun b => b < w9.heap.size) _ _ ys w9 (((show (Cod.kept (Cod.val d)).Sl _ _ _ _ by have := HOrg9.out.sl; rw [okept_cod] at this; exact this)).mono (fun b hb => by have := hb.1; have := hb.2; omega)) ((HR9.out).mono (fun b hb => by have := hb.1; have := hb.2; omega)) fun b hb => hb)
      go_wp2_with fail
      refine HC.out.mono ?_
      rintro e w10 ⟨rfl, hb⟩
      clear HC
      have hz9 := hb.size
      have HV10 : Hid ((Cod.kept (Cod.val d)).Sl F w10 (.slice A0 xs.length cap) xs) := Lib.hid (HV9.out.keep fun b hb' => by have h1 := HF0.out b hb'; exact hb.block b (by omega))
      have HK10 : Hid (Cod.recs.Sl F w10 (.slice Ak ks.length ck) ks) := Lib.hid (HK9.out.keep fun b hb' => by have h1 := HF0.out b hb'; exact hb.block b (by omega))
      have HKx10 : Hid (VRd (Cod.val d) F w10 (.slice A n cA) (.slice B m cB) x) := Lib.hid (HKx9.out.keep fun b hb' => by have h1 := HF0.out b hb'; exact hb.block b (by omega))
      have HXB10 : Hid (Blk w10 wb.heap.size 53 #[.string x.ty, .int .i64 x.n, .slice A n cA, .slice B m cB]) := Lib.hid ((hb.block (wb.heap.size) (by omega)).trans HXB9.out)
      have HR10 : Hid ((Cod.kept (Cod.val d)).Sl (fun b => w3.heap.size ≤ b ∧ b < w4.heap.size) w10 (.slice Ys ys.length cys) ys) := Lib.hid (HR9.out.keep fun b hb' => by have h1 := hb'.1; have h2 := hb'.2; exact hb.block b (by omega))
      have HOkm10 : Hid (Own ((OCod.rec_ 9).row 112) 85 w4.heap.size w5.heap.size w10 (.slice Km ks.length kcm) ks) := Lib.hid (HOkm9.out.keep fun b g1 g2 => hb.block b (by omega))
      have HOlm10 : Hid (Own (OKept d) 35 w5.heap.size w6.heap.size w10 (.slice Lm xs.length lcm) xs) := Lib.hid (HOlm9.out.keep fun b g1 g2 => hb.block b (by omega))
      have HOvm10 : Hid (OV (OCod.val 31 3 d) 31 3 w6.heap.size w7.heap.size w10 (.slice Am x.parts.length vam) (.slice Bm x.path.length vbm) x) := Lib.hid (HOvm9.out.keep fun b g1 g2 => hb.block b (by omega))
      have HXM10 : Hid (Blk w10 w7.heap.size 31 #[.string x.ty, .int .i64 x.n, .slice Am x.parts.length vam, .slice Bm x.path.length vbm]) := Lib.hid ((hb.block (w7.heap.size) (by omega)).trans HXM9.out)
      have HOrg10 : Hid (Own (OKept d) 35 w8.heap.size w9.heap.size w10 (.slice Yg ys.length cyg) ys) := Lib.hid (HOrg9.out.keep fun b g1 g2 => hb.block b (by omega))
      have HE10 := Lib.hid (HE9.out.trans (hb.mono (by omega)))
      clear hb
      have HC := Lib.hid (toRecordSS_any F _ ks w10 HK10.out (fun b hb => by have := HF0.out b hb; omega) HSm.out.kn HSm.out.kr)
      go_wp2_with fail
      refine HC.out.mono ?_
      rintro e w11 ⟨Ke, kce, rfl, hI, hb⟩
      clear HC
      have hz10 := hb.size
      have HV11 : Hid ((Cod.kept (Cod.val d)).Sl F w11 (.slice A0 xs.length cap) xs) := Lib.hid (HV10.out.keep fun b hb' => by have h1 := HF0.out b hb'; exact hb.block b (by omega))
      have HK11 : Hid (Cod.recs.Sl F w11 (.slice Ak ks.length ck) ks) := Lib.hid (HK10.out.keep fun b hb' => by have h1 := HF0.out b hb'; exact hb.block b (by omega))
      have HKx11 : Hid (VRd (Cod.val d) F w11 (.slice A n cA) (.slice B m cB) x) := Lib.hid (HKx10.out.keep fun b hb' => by have h1 := HF0.out b hb'; exact hb.block b (by omega))
      have HXB11 : Hid (Blk w11 wb.heap.size 53 #[.string x.ty, .int .i64 x.n, .slice A n cA, .slice B m cB]) := Lib.hid ((hb.block (wb.heap.size) (by omega)).trans HXB10.out)
      have HR11 : Hid ((Cod.kept (Cod.val d)).Sl (fun b => w3.heap.size ≤ b ∧ b < w4.heap.size) w11 (.slice Ys ys.length cys) ys) := Lib.hid (HR10.out.keep fun b hb' => by have h1 := hb'.1; have h2 := hb'.2; exact hb.block b (by omega))
      have HOkm11 : Hid (Own ((OCod.rec_ 9).row 112) 85 w4.heap.size w5.heap.size w11 (.slice Km ks.length kcm) ks) := Lib.hid (HOkm10.out.keep fun b g1 g2 => hb.block b (by omega))
      have HOlm11 : Hid (Own (OKept d) 35 w5.heap.size w6.heap.size w11 (.slice Lm xs.length lcm) xs) := Lib.hid (HOlm10.out.keep fun b g1 g2 => hb.block b (by omega))
      have HOvm11 : Hid (OV (OCod.val 31 3 d) 31 3 w6.heap.size w7.heap.size w11 (.slice Am x.parts.length vam) (.slice Bm x.path.length vbm) x) := Lib.hid (HOvm10.out.keep fun b g1 g2 => hb.block b (by omega))
      have HXM11 : Hid (Blk w11 w7.heap.size 31 #[.string x.ty, .int .i64 x.n, .slice Am x.parts.length vam, .slice Bm x.path.length vbm]) := Lib.hid ((hb.block (w7.heap.size) (by omega)).trans HXM10.out)
      have HOrg11 : Hid (Own (OKept d) 35 w8.heap.size w9.heap.size w11 (.slice Yg ys.length cyg) ys) := Lib.hid (HOrg10.out.keep fun b g1 g2 => hb.block b (by omega))
      have HE11 := Lib.hid (HE10.out.trans (hb.mono (by omega)))
      have Hke11 : Hid (Cod.recs.Sl (fun b => w10.heap.size ≤ b ∧ b < w11.heap.size) w11 (.slice Ke ks.length kce) ks) := Lib.hid hI
      clear hb hI
      have HC := Lib.hid (eqRecordSS_any (fun b => b < w11.heap.size) _ _ ks w11 ((HOkm11.out.sl).mono (fun b hb => by have := hb.1; have := hb.2; omega)) ((Hke11.out).mono (fun b hb => by have := hb.1; have := hb.2; omega)) fun b hb => hb)
      go_wp2_with fail
      refine HC.out.mono ?_
      rintro e w12 ⟨rfl, hb⟩
      clear HC
      have hz11 := hb.size
      have HV12 : Hid ((Cod.kept (Cod.val d)).Sl F w12 (.slice A0 xs.length cap) xs) := Lib.hid (HV11.out.keep fun b hb' => by have h1 := HF0.out b hb'; exact hb.block b (by omega))
      have HK12 : Hid (Cod.recs.Sl F w12 (.slice Ak ks.length ck) ks) := Lib.hid (HK11.out.keep fun b hb' => by have h1 := HF0.out b hb'; exact hb.block b (by omega))
      have HKx12 : Hid (VRd (Cod.val d) F w12 (.slice A n cA) (.slice B m cB) x) := Lib.hid (HKx11.out.keep fun b hb' => by have h1 := HF0.out b hb'; exact hb.block b (by omega))
      have HXB12 : Hid (Blk w12 wb.heap.size 53 #[.string x.ty, .int .i64 x.n, .slice A n cA, .slice B m cB]) := Lib.hid ((hb.block (wb.heap.size) (by omega)).trans HXB11.out)
      have HR12 : Hid ((Cod.kept (Cod.val d)).Sl (fun b => w3.heap.size ≤ b ∧ b < w4.heap.size) w12 (.slice Ys ys.length cys) ys) := Lib.hid (HR11.out.keep fun b hb' => by have h1 := hb'.1; have h2 := hb'.2; exact hb.block b (by omega))
      have HOkm12 : Hid (Own ((OCod.rec_ 9).row 112) 85 w4.heap.size w5.heap.size w12 (.slice Km ks.length kcm) ks) := Lib.hid (HOkm11.out.keep fun b g1 g2 => hb.block b (by omega))
      have HOlm12 : Hid (Own (OKept d) 35 w5.heap.size w6.heap.size w12 (.slice Lm xs.length lcm) xs) := Lib.hid (HOlm11.out.keep fun b g1 g2 => hb.block b (by omega))
      have HOvm12 : Hid (OV (OCod.val 31 3 d) 31 3 w6.heap.size w7.heap.size w12 (.slice Am x.parts.length vam) (.slice Bm x.path.length vbm) x) := Lib.hid (HOvm11.out.keep fun b g1 g2 => hb.block b (by omega))
      have HXM12 : Hid (Blk w12 w7.heap.size 31 #[.string x.ty, .int .i64 x.n, .slice Am x.parts.length vam, .slice Bm x.path.length vbm]) := Lib.hid ((hb.block (w7.heap.size) (by omega)).trans HXM11.out)
      have HOrg12 : Hid (Own (OKept d) 35 w8.heap.size w9.heap.size w12 (.slice Yg ys.length cyg) ys) := Lib.hid (HOrg11.out.keep fun b g1 g2 => hb.block b (by omega))
      have HE12 := Lib.hid (HE11.out.trans (hb.mono (by omega)))
      clear hb
      have HC := Lib.hid (to_kept d F _ xs w12 (by rw [okept_cod]; exact HV12.out) (fun b hb => by have := HF0.out b hb; omega) (Nat.le_trans HSm.out.xn (by omega)) HSm.out.xr)
      go_wp2_with fail
      refine HC.out.mono ?_
      rintro e w13 ⟨Le, lce, rfl, hO, hb⟩
      clear HC
      have hz12 := hb.size
      have HV13 : Hid ((Cod.kept (Cod.val d)).Sl F w13 (.slice A0 xs.length cap) xs) := Lib.hid (HV12.out.keep fun b hb' => by have h1 := HF0.out b hb'; exact hb.block b (by omega))
      have HK13 : Hid (Cod.recs.Sl F w13 (.slice Ak ks.length ck) ks) := Lib.hid (HK12.out.keep fun b hb' => by have h1 := HF0.out b hb'; exact hb.block b (by omega))
      have HKx13 : Hid (VRd (Cod.val d) F w13 (.slice A n cA) (.slice B m cB) x) := Lib.hid (HKx12.out.keep fun b hb' => by have h1 := HF0.out b hb'; exact hb.block b (by omega))
      have HXB13 : Hid (Blk w13 wb.heap.size 53 #[.string x.ty, .int .i64 x.n, .slice A n cA, .slice B m cB]) := Lib.hid ((hb.block (wb.heap.size) (by omega)).trans HXB12.out)
      have HR13 : Hid ((Cod.kept (Cod.val d)).Sl (fun b => w3.heap.size ≤ b ∧ b < w4.heap.size) w13 (.slice Ys ys.length cys) ys) := Lib.hid (HR12.out.keep fun b hb' => by have h1 := hb'.1; have h2 := hb'.2; exact hb.block b (by omega))
      have HOkm13 : Hid (Own ((OCod.rec_ 9).row 112) 85 w4.heap.size w5.heap.size w13 (.slice Km ks.length kcm) ks) := Lib.hid (HOkm12.out.keep fun b g1 g2 => hb.block b (by omega))
      have HOlm13 : Hid (Own (OKept d) 35 w5.heap.size w6.heap.size w13 (.slice Lm xs.length lcm) xs) := Lib.hid (HOlm12.out.keep fun b g1 g2 => hb.block b (by omega))
      have HOvm13 : Hid (OV (OCod.val 31 3 d) 31 3 w6.heap.size w7.heap.size w13 (.slice Am x.parts.length vam) (.slice Bm x.path.length vbm) x) := Lib.hid (HOvm12.out.keep fun b g1 g2 => hb.block b (by omega))
      have HXM13 : Hid (Blk w13 w7.heap.size 31 #[.string x.ty, .int .i64 x.n, .slice Am x.parts.length vam, .slice Bm x.path.length vbm]) := Lib.hid ((hb.block (w7.heap.size) (by omega)).trans HXM12.out)
      have HOrg13 : Hid (Own (OKept d) 35 w8.heap.size w9.heap.size w13 (.slice Yg ys.length cyg) ys) := Lib.hid (HOrg12.out.keep fun b g1 g2 => hb.block b (by omega))
      have HE13 := Lib.hid (HE12.out.trans (hb.mono (by omega)))
      have Hle13 : Hid ((Cod.kept (Cod.val d)).Sl (fun b => w12.heap.size ≤ b ∧ b < w13.heap.size) w13 (.slice Le xs.length lce) xs) := Lib.hid (by have := hO.sl; rw [okept_cod] at this; exact this)
      clear hb hO
      have HC := Lib.hid (eq_kept d (fun b => b < w13.heap.size) _ _ xs w13 (((show (Cod.kept (Cod.val d)).Sl _ _ _ _ by have := HOlm13.out.sl; rw [okept_cod] at this; exact this)).mono (fun b hb => by have := hb.1; have := hb.2; omega)) ((Hle13.out).mono (fun b hb => by have := hb.1; have := hb.2; omega)) fun b hb => hb)
      go_wp2_with fail
      refine HC.out.mono ?_
      rintro e w14 ⟨rfl, hb⟩
      clear HC
      have hz13 := hb.size
      have HV14 : Hid ((Cod.kept (Cod.val d)).Sl F w14 (.slice A0 xs.length cap) xs) := Lib.hid (HV13.out.keep fun b hb' => by have h1 := HF0.out b hb'; exact hb.block b (by omega))
      have HK14 : Hid (Cod.recs.Sl F w14 (.slice Ak ks.length ck) ks) := Lib.hid (HK13.out.keep fun b hb' => by have h1 := HF0.out b hb'; exact hb.block b (by omega))
      have HKx14 : Hid (VRd (Cod.val d) F w14 (.slice A n cA) (.slice B m cB) x) := Lib.hid (HKx13.out.keep fun b hb' => by have h1 := HF0.out b hb'; exact hb.block b (by omega))
      have HXB14 : Hid (Blk w14 wb.heap.size 53 #[.string x.ty, .int .i64 x.n, .slice A n cA, .slice B m cB]) := Lib.hid ((hb.block (wb.heap.size) (by omega)).trans HXB13.out)
      have HR14 : Hid ((Cod.kept (Cod.val d)).Sl (fun b => w3.heap.size ≤ b ∧ b < w4.heap.size) w14 (.slice Ys ys.length cys) ys) := Lib.hid (HR13.out.keep fun b hb' => by have h1 := hb'.1; have h2 := hb'.2; exact hb.block b (by omega))
      have HOkm14 : Hid (Own ((OCod.rec_ 9).row 112) 85 w4.heap.size w5.heap.size w14 (.slice Km ks.length kcm) ks) := Lib.hid (HOkm13.out.keep fun b g1 g2 => hb.block b (by omega))
      have HOlm14 : Hid (Own (OKept d) 35 w5.heap.size w6.heap.size w14 (.slice Lm xs.length lcm) xs) := Lib.hid (HOlm13.out.keep fun b g1 g2 => hb.block b (by omega))
      have HOvm14 : Hid (OV (OCod.val 31 3 d) 31 3 w6.heap.size w7.heap.size w14 (.slice Am x.parts.length vam) (.slice Bm x.path.length vbm) x) := Lib.hid (HOvm13.out.keep fun b g1 g2 => hb.block b (by omega))
      have HXM14 : Hid (Blk w14 w7.heap.size 31 #[.string x.ty, .int .i64 x.n, .slice Am x.parts.length vam, .slice Bm x.path.length vbm]) := Lib.hid ((hb.block (w7.heap.size) (by omega)).trans HXM13.out)
      have HOrg14 : Hid (Own (OKept d) 35 w8.heap.size w9.heap.size w14 (.slice Yg ys.length cyg) ys) := Lib.hid (HOrg13.out.keep fun b g1 g2 => hb.block b (by omega))
      have HE14 := Lib.hid (HE13.out.trans (hb.mono (by omega)))
      clear hb
      go_upto_region 22 with fail
      have HBd := Lib.hid (show Below w14.heap.size w14 w14.drew from below_draw w14)
      have HCv := Lib.hid (toValue_any d F A B n m cA cB x w14.drew HKx14.out.drew (fun b h => by have := HF0.out b h; show b < w14.heap.size; omega) HSx.out)
      obtain ⟨x0, x1, x2, x3⟩ := HXB14.out.c2
      obtain ⟨y0, y1, y2, y3⟩ := HXM14.out.c2
      have hxm : w7.heap.size < w14.heap.size := by omega
      go_cut [85] (fun s85 wx => s85 = .bool false ∧ Hid (Below w14.heap.size w14 wx))
      case first =>
        go_region_with (first
          | (go_at_call 29; (with_reducible refine HCv.out.mono ?_); rintro e wv ⟨Ax, vax, Bx, vbx, rfl, hMx⟩; go_must (
              have hbv := HBd.out.trans (hMx.2.mono HBd.out.size);
              obtain ⟨z0, z1, z2, z3⟩ := (HXM14.out.below hbv hxm).c2;
              have HCe := Lib.hid (eqValue_any d (fun b => b < wv.heap.size) (.slice Am x.parts.length vam) (.slice Bm x.path.length vbm) (.slice Ax x.parts.length vax) (.slice Bx x.path.length vbx) x wv (((show VRd (Cod.val d) _ _ _ _ _ by have := HOvm14.out.rd; rw [OCod.val_cod] at this; exact this).keep (below_keeps hbv (fun b hb => by have := hb.1; have := hb.2; omega))).mono (fun b hb => by have := hb.2; have := hbv.size; omega)) (hMx.1.mono (fun b hb => hb.2)) (fun b hb => hb));
              have HB0 := Lib.hid hbv;
              clear hMx hbv))
          | (go_at_call 22; (with_reducible refine HCe.out.mono ?_); rintro e we ⟨rfl, hs⟩; go_must (have HBs := Lib.hid (HB0.out.trans (hs.mono HB0.out.size)); clear hs)))
        all_goals
          go_wp2
          go_meet
          exact ⟨rfl, HBs⟩
      case rest =>
        obtain ⟨rfl, HB⟩ := hcut
        obtain ⟨w15, hw15⟩ : ∃ u, u = wc := ⟨_, rfl⟩
        subst hw15
        clear HBd HCv x0 x1 x2 x3 y0 y1 y2 y3 hxm
        have hb := HB.out
        have hz14 := hb.size
        have HV15 : Hid ((Cod.kept (Cod.val d)).Sl F w15 (.slice A0 xs.length cap) xs) := Lib.hid (HV14.out.keep fun b hb' => by have h1 := HF0.out b hb'; exact hb.block b (by omega))
        have HK15 : Hid (Cod.recs.Sl F w15 (.slice Ak ks.length ck) ks) := Lib.hid (HK14.out.keep fun b hb' => by have h1 := HF0.out b hb'; exact hb.block b (by omega))
        have HKx15 : Hid (VRd (Cod.val d) F w15 (.slice A n cA) (.slice B m cB) x) := Lib.hid (HKx14.out.keep fun b hb' => by have h1 := HF0.out b hb'; exact hb.block b (by omega))
        have HXB15 : Hid (Blk w15 wb.heap.size 53 #[.string x.ty, .int .i64 x.n, .slice A n cA, .slice B m cB]) := Lib.hid ((hb.block (wb.heap.size) (by omega)).trans HXB14.out)
        have HR15 : Hid ((Cod.kept (Cod.val d)).Sl (fun b => w3.heap.size ≤ b ∧ b < w4.heap.size) w15 (.slice Ys ys.length cys) ys) := Lib.hid (HR14.out.keep fun b hb' => by have h1 := hb'.1; have h2 := hb'.2; exact hb.block b (by omega))
        have HOkm15 : Hid (Own ((OCod.rec_ 9).row 112) 85 w4.heap.size w5.heap.size w15 (.slice Km ks.length kcm) ks) := Lib.hid (HOkm14.out.keep fun b g1 g2 => hb.block b (by omega))
        have HOlm15 : Hid (Own (OKept d) 35 w5.heap.size w6.heap.size w15 (.slice Lm xs.length lcm) xs) := Lib.hid (HOlm14.out.keep fun b g1 g2 => hb.block b (by omega))
        have HOvm15 : Hid (OV (OCod.val 31 3 d) 31 3 w6.heap.size w7.heap.size w15 (.slice Am x.parts.length vam) (.slice Bm x.path.length vbm) x) := Lib.hid (HOvm14.out.keep fun b g1 g2 => hb.block b (by omega))
        have HXM15 : Hid (Blk w15 w7.heap.size 31 #[.string x.ty, .int .i64 x.n, .slice Am x.parts.length vam, .slice Bm x.path.length vbm]) := Lib.hid ((hb.block (w7.heap.size) (by omega)).trans HXM14.out)
        have HOrg15 : Hid (Own (OKept d) 35 w8.heap.size w9.heap.size w15 (.slice Yg ys.length cyg) ys) := Lib.hid (HOrg14.out.keep fun b g1 g2 => hb.block b (by omega))
        have HE15 := Lib.hid (HE14.out.trans (hb.mono (by omega)))
        clear hb HB
        have HC := Lib.hid (markRecordSS_any w4.heap.size w5.heap.size 1 _ ks w15 HOkm15.out (by omega) (by omega) (Nat.le_trans HSm.out.mks (by omega)))
        go_wp2_with fail
        refine HC.out.mono ?_
        rintro e w16 ⟨rfl, hO, hW⟩
        clear HC
        have hz15 := hW.size
        have HV16 : Hid ((Cod.kept (Cod.val d)).Sl F w16 (.slice A0 xs.length cap) xs) := Lib.hid (HV15.out.keep fun b hb' => by have h1 := HF0.out b hb'; exact hW.block b (by omega) (by omega))
        have HK16 : Hid (Cod.recs.Sl F w16 (.slice Ak ks.length ck) ks) := Lib.hid (HK15.out.keep fun b hb' => by have h1 := HF0.out b hb'; exact hW.block b (by omega) (by omega))
        have HKx16 : Hid (VRd (Cod.val d) F w16 (.slice A n cA) (.slice B m cB) x) := Lib.hid (HKx15.out.keep fun b hb' => by have h1 := HF0.out b hb'; exact hW.block b (by omega) (by omega))
        have HXB16 : Hid (Blk w16 wb.heap.size 53 #[.string x.ty, .int .i64 x.n, .slice A n cA, .slice B m cB]) := Lib.hid ((hW.block (wb.heap.size) (by omega) (by omega)).trans HXB15.out)
        have HR16 : Hid ((Cod.kept (Cod.val d)).Sl (fun b => w3.heap.size ≤ b ∧ b < w4.heap.size) w16 (.slice Ys ys.length cys) ys) := Lib.hid (HR15.out.keep fun b hb' => by have h1 := hb'.1; have h2 := hb'.2; exact hW.block b (by omega) (by omega))
        have HOlm16 : Hid (Own (OKept d) 35 w5.heap.size w6.heap.size w16 (.slice Lm xs.length lcm) xs) := Lib.hid (HOlm15.out.keep fun b g1 g2 => hW.block b (by omega) (by omega))
        have HOvm16 : Hid (OV (OCod.val 31 3 d) 31 3 w6.heap.size w7.heap.size w16 (.slice Am x.parts.length vam) (.slice Bm x.path.length vbm) x) := Lib.hid (HOvm15.out.keep fun b g1 g2 => hW.block b (by omega) (by omega))
        have HXM16 : Hid (Blk w16 w7.heap.size 31 #[.string x.ty, .int .i64 x.n, .slice Am x.parts.length vam, .slice Bm x.path.length vbm]) := Lib.hid ((hW.block (w7.heap.size) (by omega) (by omega)).trans HXM15.out)
        have HOrg16 : Hid (Own (OKept d) 35 w8.heap.size w9.heap.size w16 (.slice Yg ys.length cyg) ys) := Lib.hid (HOrg15.out.keep fun b g1 g2 => hW.block b (by omega) (by omega))
        have HE16 := Lib.hid (HE15.out.trans (Wrote.to_below hW (by omega) (by omega)))
        clear hW hO
        have HC := Lib.hid (mark_kept d w5.heap.size w6.heap.size _ _ xs w16 HOlm16.out (by omega) (by have := mkRS_pos ks 1; omega) (Nat.le_trans HSm.out.mx (by omega)))
        go_wp2_with fail
        refine HC.out.mono ?_
        rintro e w17 ⟨rfl, hO, hW⟩
        clear HC
        have hz16 := hW.size
        have HV17 : Hid ((Cod.kept (Cod.val d)).Sl F w17 (.slice A0 xs.length cap) xs) := Lib.hid (HV16.out.keep fun b hb' => by have h1 := HF0.out b hb'; exact hW.block b (by omega) (by omega))
        have HK17 : Hid (Cod.recs.Sl F w17 (.slice Ak ks.length ck) ks) := Lib.hid (HK16.out.keep fun b hb' => by have h1 := HF0.out b hb'; exact hW.block b (by omega) (by omega))
        have HKx17 : Hid (VRd (Cod.val d) F w17 (.slice A n cA) (.slice B m cB) x) := Lib.hid (HKx16.out.keep fun b hb' => by have h1 := HF0.out b hb'; exact hW.block b (by omega) (by omega))
        have HXB17 : Hid (Blk w17 wb.heap.size 53 #[.string x.ty, .int .i64 x.n, .slice A n cA, .slice B m cB]) := Lib.hid ((hW.block (wb.heap.size) (by omega) (by omega)).trans HXB16.out)
        have HR17 : Hid ((Cod.kept (Cod.val d)).Sl (fun b => w3.heap.size ≤ b ∧ b < w4.heap.size) w17 (.slice Ys ys.length cys) ys) := Lib.hid (HR16.out.keep fun b hb' => by have h1 := hb'.1; have h2 := hb'.2; exact hW.block b (by omega) (by omega))
        have HOvm17 : Hid (OV (OCod.val 31 3 d) 31 3 w6.heap.size w7.heap.size w17 (.slice Am x.parts.length vam) (.slice Bm x.path.length vbm) x) := Lib.hid (HOvm16.out.keep fun b g1 g2 => hW.block b (by omega) (by omega))
        have HXM17 : Hid (Blk w17 w7.heap.size 31 #[.string x.ty, .int .i64 x.n, .slice Am x.parts.length vam, .slice Bm x.path.length vbm]) := Lib.hid ((hW.block (w7.heap.size) (by omega) (by omega)).trans HXM16.out)
        have HOrg17 : Hid (Own (OKept d) 35 w8.heap.size w9.heap.size w17 (.slice Yg ys.length cyg) ys) := Lib.hid (HOrg16.out.keep fun b g1 g2 => hW.block b (by omega) (by omega))
        have HE17 := Lib.hid (HE16.out.trans (Wrote.to_below hW (by omega) (by omega)))
        clear hW hO
        have HC := Lib.hid (markValue_any d w6.heap.size w7.heap.size (markL (mkKep d) xs (markL mkRS ks 1).2).2 Am Bm _ _ vam vbm x w17 HOvm17.out (by omega) (by have := mkRS_pos ks 1; have := markL_le (mkKep_le d) xs (markL mkRS ks 1).2; omega) HMx.out)
        obtain ⟨p0, p1, p2, p3⟩ := HXM17.out.c2
        go_wp2_with fail
        refine HC.out.mono ?_
        rintro e w18 ⟨rfl, hO, hW⟩
        clear HC p0 p1 p2 p3
        have hz17 := hW.size
        have HV18 : Hid ((Cod.kept (Cod.val d)).Sl F w18 (.slice A0 xs.length cap) xs) := Lib.hid (HV17.out.keep fun b hb' => by have h1 := HF0.out b hb'; exact hW.block b (by omega) (by omega))
        have HK18 : Hid (Cod.recs.Sl F w18 (.slice Ak ks.length ck) ks) := Lib.hid (HK17.out.keep fun b hb' => by have h1 := HF0.out b hb'; exact hW.block b (by omega) (by omega))
        have HKx18 : Hid (VRd (Cod.val d) F w18 (.slice A n cA) (.slice B m cB) x) := Lib.hid (HKx17.out.keep fun b hb' => by have h1 := HF0.out b hb'; exact hW.block b (by omega) (by omega))
        have HXB18 : Hid (Blk w18 wb.heap.size 53 #[.string x.ty, .int .i64 x.n, .slice A n cA, .slice B m cB]) := Lib.hid ((hW.block (wb.heap.size) (by omega) (by omega)).trans HXB17.out)
        have HR18 : Hid ((Cod.kept (Cod.val d)).Sl (fun b => w3.heap.size ≤ b ∧ b < w4.heap.size) w18 (.slice Ys ys.length cys) ys) := Lib.hid (HR17.out.keep fun b hb' => by have h1 := hb'.1; have h2 := hb'.2; exact hW.block b (by omega) (by omega))
        have HXM18 : Hid (Blk w18 w7.heap.size 31 #[.string x.ty, .int .i64 x.n, .slice Am x.parts.length vam, .slice Bm x.path.length vbm]) := Lib.hid ((hW.block (w7.heap.size) (by omega) (by omega)).trans HXM17.out)
        have HOrg18 : Hid (Own (OKept d) 35 w8.heap.size w9.heap.size w18 (.slice Yg ys.length cyg) ys) := Lib.hid (HOrg17.out.keep fun b g1 g2 => hW.block b (by omega) (by omega))
        have HE18 := Lib.hid (HE17.out.trans (Wrote.to_below hW (by omega) (by omega)))
        clear hW hO
        have hpos : ¬ (((mkTop (mkV d) x (markL (mkKep d) xs (markL mkRS ks 1).2).2).2 : Nat) : Int) < 0 := by omega
        have HC := Lib.hid (eq_kept d (fun b => b < w18.heap.size) _ _ ys w18 (((show (Cod.kept (Cod.val d)).Sl _ _ _ _ by have := HOrg18.out.sl; rw [okept_cod] at this; exact this)).mono (fun b hb => by have := hb.1; have := hb.2; omega)) ((HR18.out).mono (fun b hb => by have := hb.1; have := hb.2; omega)) fun b hb => hb)
        go_wp2_with fail
        refine HC.out.mono ?_
        rintro e w19 ⟨rfl, hb⟩
        clear HC
        have hz18 := hb.size
        have HV19 : Hid ((Cod.kept (Cod.val d)).Sl F w19 (.slice A0 xs.length cap) xs) := Lib.hid (HV18.out.keep fun b hb' => by have h1 := HF0.out b hb'; exact hb.block b (by omega))
        have HK19 : Hid (Cod.recs.Sl F w19 (.slice Ak ks.length ck) ks) := Lib.hid (HK18.out.keep fun b hb' => by have h1 := HF0.out b hb'; exact hb.block b (by omega))
        have HKx19 : Hid (VRd (Cod.val d) F w19 (.slice A n cA) (.slice B m cB) x) := Lib.hid (HKx18.out.keep fun b hb' => by have h1 := HF0.out b hb'; exact hb.block b (by omega))
        have HXB19 : Hid (Blk w19 wb.heap.size 53 #[.string x.ty, .int .i64 x.n, .slice A n cA, .slice B m cB]) := Lib.hid ((hb.block (wb.heap.size) (by omega)).trans HXB18.out)
        have HR19 : Hid ((Cod.kept (Cod.val d)).Sl (fun b => w3.heap.size ≤ b ∧ b < w4.heap.size) w19 (.slice Ys ys.length cys) ys) := Lib.hid (HR18.out.keep fun b hb' => by have h1 := hb'.1; have h2 := hb'.2; exact hb.block b (by omega))
        have HXM19 : Hid (Blk w19 w7.heap.size 31 #[.string x.ty, .int .i64 x.n, .slice Am x.parts.length vam, .slice Bm x.path.length vbm]) := Lib.hid ((hb.block (w7.heap.size) (by omega)).trans HXM18.out)
        have HOrg19 : Hid (Own (OKept d) 35 w8.heap.size w9.heap.size w19 (.slice Yg ys.length cyg) ys) := Lib.hid (HOrg18.out.keep fun b g1 g2 => hb.block b (by omega))
        have HE19 := Lib.hid (HE18.out.trans (hb.mono (by omega)))
        clear hb
        clear hpos
        have HC := Lib.hid (mark_kept d w8.heap.size w9.heap.size 1 _ ys w19 HOrg19.out (by omega) (by omega) HMR.out)
        go_wp2_with fail
        refine HC.out.mono ?_
        rintro e w20 ⟨rfl, hO, hW⟩
        clear HC
        have hz19 := hW.size
        have HV20 : Hid ((Cod.kept (Cod.val d)).Sl F w20 (.slice A0 xs.length cap) xs) := Lib.hid (HV19.out.keep fun b hb' => by have h1 := HF0.out b hb'; exact hW.block b (by omega) (by omega))
        have HK20 : Hid (Cod.recs.Sl F w20 (.slice Ak ks.length ck) ks) := Lib.hid (HK19.out.keep fun b hb' => by have h1 := HF0.out b hb'; exact hW.block b (by omega) (by omega))
        have HKx20 : Hid (VRd (Cod.val d) F w20 (.slice A n cA) (.slice B m cB) x) := Lib.hid (HKx19.out.keep fun b hb' => by have h1 := HF0.out b hb'; exact hW.block b (by omega) (by omega))
        have HXB20 : Hid (Blk w20 wb.heap.size 53 #[.string x.ty, .int .i64 x.n, .slice A n cA, .slice B m cB]) := Lib.hid ((hW.block (wb.heap.size) (by omega) (by omega)).trans HXB19.out)
        have HR20 : Hid ((Cod.kept (Cod.val d)).Sl (fun b => w3.heap.size ≤ b ∧ b < w4.heap.size) w20 (.slice Ys ys.length cys) ys) := Lib.hid (HR19.out.keep fun b hb' => by have h1 := hb'.1; have h2 := hb'.2; exact hW.block b (by omega) (by omega))
        have HXM20 : Hid (Blk w20 w7.heap.size 31 #[.string x.ty, .int .i64 x.n, .slice Am x.parts.length vam, .slice Bm x.path.length vbm]) := Lib.hid ((hW.block (w7.heap.size) (by omega) (by omega)).trans HXM19.out)
        have HE20 := Lib.hid (HE19.out.trans (Wrote.to_below hW (by omega) (by omega)))
        have HOrg20 : Hid (Own (OKept d) 35 w8.heap.size w9.heap.size w20 (.slice Yg (markL (mkKep d) ys 1).1.length cyg) (markL (mkKep d) ys 1).1) := Lib.hid (by have := hO; rw [markL_length]; exact this)
        clear hW hO
        have hpos1 : ¬ (((markL (mkKep d) ys 1).2 : Nat) : Int) < 0 := by omega
        have HC := Lib.hid (held_kept d (fun b => b < w20.heap.size) 1 (.slice Yg ys.length cyg) ys w20 (by have := (show (Cod.kept (Cod.val d)).Sl _ _ _ _ by have := HOrg20.out.sl; rw [okept_cod] at this; exact this); rw [markL_length] at this; exact (this).mono (fun b hb => by have := hb.1; have := hb.2; omega)) (fun b hb => hb) (by omega) HMR.out)
        go_wp2_with fail
        refine HC.out.mono ?_
        rintro e w21 ⟨rfl, hb⟩
        clear HC
        have hz20 := hb.size
        have HV21 : Hid ((Cod.kept (Cod.val d)).Sl F w21 (.slice A0 xs.length cap) xs) := Lib.hid (HV20.out.keep fun b hb' => by have h1 := HF0.out b hb'; exact hb.block b (by omega))
        have HK21 : Hid (Cod.recs.Sl F w21 (.slice Ak ks.length ck) ks) := Lib.hid (HK20.out.keep fun b hb' => by have h1 := HF0.out b hb'; exact hb.block b (by omega))
        have HKx21 : Hid (VRd (Cod.val d) F w21 (.slice A n cA) (.slice B m cB) x) := Lib.hid (HKx20.out.keep fun b hb' => by have h1 := HF0.out b hb'; exact hb.block b (by omega))
        have HXB21 : Hid (Blk w21 wb.heap.size 53 #[.string x.ty, .int .i64 x.n, .slice A n cA, .slice B m cB]) := Lib.hid ((hb.block (wb.heap.size) (by omega)).trans HXB20.out)
        have HR21 : Hid ((Cod.kept (Cod.val d)).Sl (fun b => w3.heap.size ≤ b ∧ b < w4.heap.size) w21 (.slice Ys ys.length cys) ys) := Lib.hid (HR20.out.keep fun b hb' => by have h1 := hb'.1; have h2 := hb'.2; exact hb.block b (by omega))
        have HXM21 : Hid (Blk w21 w7.heap.size 31 #[.string x.ty, .int .i64 x.n, .slice Am x.parts.length vam, .slice Bm x.path.length vbm]) := Lib.hid ((hb.block (w7.heap.size) (by omega)).trans HXM20.out)
        have HOrg21 : Hid (Own (OKept d) 35 w8.heap.size w9.heap.size w21 (.slice Yg (markL (mkKep d) ys 1).1.length cyg) (markL (mkKep d) ys 1).1) := Lib.hid (HOrg20.out.keep fun b g1 g2 => hb.block b (by omega))
        have HE21 := Lib.hid (HE20.out.trans (hb.mono (by omega)))
        clear hb
        go_upto_region 38 with fail
        have HBd := Lib.hid (show Below w21.heap.size w21 w21.drew from below_draw w21)
        have HCk := Lib.hid (fun (W : World) (hb : Below w21.heap.size w21 W) => toRecordSS_any F _ ks W (HK21.out.keep fun b h => hb.block b (by have := HF0.out b h; omega)) (fun b h => by have := HF0.out b h; have := hb.size; omega) HSm.out.kn HSm.out.kr)
        have HCl := Lib.hid (fun (W : World) (hb : Below w21.heap.size w21 W) => to_kept d F _ xs W (by rw [okept_cod]; exact HV21.out.keep fun b h => hb.block b (by have := HF0.out b h; omega)) (fun b h => by have := HF0.out b h; have := hb.size; omega) (Nat.le_trans HSm.out.xn (by omega)) HSm.out.xr)
        have HCv := Lib.hid (fun (W : World) (hb : Below w21.heap.size w21 W) => toValue_any d F A B n m cA cB x W (HKx21.out.keep fun b h => hb.block b (by have := HF0.out b h; omega)) (fun b h => by have := HF0.out b h; have := hb.size; omega) HSx.out)
        have HSc := Lib.hid (fun (w' : World) (hb : Below w21.heap.size w21 w') => show w'.cell? ⟨wb.heap.size, 0, none⟩ = some (.string x.ty) ∧ w'.cell? ⟨wb.heap.size, 1, none⟩ = some (.int .i64 x.n) ∧ w'.cell? ⟨wb.heap.size, 2, none⟩ = some (.slice A n cA) ∧ w'.cell? ⟨wb.heap.size, 3, none⟩ = some (.slice B m cB) from (HXB21.out.below hb (by omega)).c2)
        go_cut [20, 21] (fun s20 s21 wx => ∃ (Y : Option Addr) (cy : Nat), s20 = .slice Y ys.length cy ∧ s21 = .bool bo ∧ Hid (Own (OKept d) 35 w21.heap.size wx.heap.size wx (.slice Y ys.length cy) ys) ∧ Hid (Below w21.heap.size w21 wx))
        case first =>
          go_region_held3 (fun w' => w'.cell? ⟨wb.heap.size, 0, none⟩ = some (.string x.ty) ∧ w'.cell? ⟨wb.heap.size, 1, none⟩ = some (.int .i64 x.n) ∧ w'.cell? ⟨wb.heap.size, 2, none⟩ = some (.slice A n cA) ∧ w'.cell? ⟨wb.heap.size, 3, none⟩ = some (.slice B m cB)) (exact HSc.out _ (by first | with_reducible exact HBd.out | with_reducible exact HBk.out | with_reducible exact HBl.out | with_reducible exact HBv.out | with_reducible exact HBs.out)) (first
              | (go_at_call 17; (with_reducible refine (HCk.out _ (by first | with_reducible exact HBd.out | with_reducible exact HBk.out | with_reducible exact HBl.out | with_reducible exact HBv.out)).mono ?_); rintro e wk ⟨Kx, kcx, rfl, hMk⟩; go_must (
                have hbk := Lib.hid hMk.2;
                have HBk := Lib.hid (show Below w21.heap.size w21 wk from Below.trans (by first | with_reducible exact HBd.out | with_reducible exact HBk.out | with_reducible exact HBl.out | with_reducible exact HBv.out) (hbk.out.mono (by first | with_reducible exact HBd.out.size | with_reducible exact HBk.out.size | with_reducible exact HBl.out.size | with_reducible exact HBv.out.size)));
                have HMk := Lib.hid hMk.1;
                clear hMk))
              | (go_at_call 18; (with_reducible refine (HCl.out _ (by first | with_reducible exact HBd.out | with_reducible exact HBk.out | with_reducible exact HBl.out | with_reducible exact HBv.out)).mono ?_); rintro e wl ⟨Lx, lcx, rfl, hMl⟩; go_must (
                have hbl := Lib.hid hMl.2;
                have HBl := Lib.hid (show Below w21.heap.size w21 wl from Below.trans (by first | with_reducible exact HBd.out | with_reducible exact HBk.out | with_reducible exact HBl.out | with_reducible exact HBv.out) (hbl.out.mono (by first | with_reducible exact HBd.out.size | with_reducible exact HBk.out.size | with_reducible exact HBl.out.size | with_reducible exact HBv.out.size)));
                have HMl := Lib.hid hMl.1;
                clear hMl))
              | (go_at_call 29; (with_reducible refine (HCv.out _ (by first | with_reducible exact HBd.out | with_reducible exact HBk.out | with_reducible exact HBl.out | with_reducible exact HBv.out)).mono ?_); rintro e wv ⟨Ax, vax, Bx, vbx, rfl, hMx⟩; go_must (
                have hbv := Lib.hid hMx.2;
                have HBv := Lib.hid (show Below w21.heap.size w21 wv from Below.trans (by first | with_reducible exact HBd.out | with_reducible exact HBk.out | with_reducible exact HBl.out | with_reducible exact HBv.out) (hbv.out.mono (by first | with_reducible exact HBd.out.size | with_reducible exact HBk.out.size | with_reducible exact HBl.out.size | with_reducible exact HBv.out.size)));
                have HMv := Lib.hid hMx.1;
                clear hMx))
              | (go_at_call 35; (first
                  | (have HX := HIM.out (fun b => b < wk.heap.size) _ _ _ _ _ _ _ _ wk ((HMk.out.keep (below_keeps (show Below wk.heap.size wk wk from Below.refl _ _) (fun b hb => hb.2))).mono (fun b hb => Nat.lt_of_lt_of_le hb.2 (Below.size (show Below wk.heap.size wk wk from Below.refl _ _)))) (((kept_own HMl.out).keep (below_keeps (show Below wl.heap.size wl wk from (by first | exact hbk.out | exact (hbv.out.trans (hbk.out.mono hbv.out.size)))) (fun b hb => hb.2))).mono (fun b hb => Nat.lt_of_lt_of_le hb.2 (Below.size (show Below wl.heap.size wl wk from (by first | exact hbk.out | exact (hbv.out.trans (hbk.out.mono hbv.out.size))))))) ((HMv.out.keep (below_keeps (show Below wv.heap.size wv wk from (by first | exact hbk.out | exact (hbl.out.trans (hbk.out.mono hbl.out.size)))) (fun b hb => hb.2))).mono (fun b hb => Nat.lt_of_lt_of_le hb.2 (Below.size (show Below wv.heap.size wv wk from (by first | exact hbk.out | exact (hbl.out.trans (hbk.out.mono hbl.out.size))))))) (fun b hb => hb); with_reducible refine HX.mono ?_)
                  | (have HX := HIM.out (fun b => b < wl.heap.size) _ _ _ _ _ _ _ _ wl ((HMk.out.keep (below_keeps (show Below wk.heap.size wk wl from (by first | exact hbl.out | exact (hbv.out.trans (hbl.out.mono hbv.out.size)))) (fun b hb => hb.2))).mono (fun b hb => Nat.lt_of_lt_of_le hb.2 (Below.size (show Below wk.heap.size wk wl from (by first | exact hbl.out | exact (hbv.out.trans (hbl.out.mono hbv.out.size))))))) (((kept_own HMl.out).keep (below_keeps (show Below wl.heap.size wl wl from Below.refl _ _) (fun b hb => hb.2))).mono (fun b hb => Nat.lt_of_lt_of_le hb.2 (Below.size (show Below wl.heap.size wl wl from Below.refl _ _)))) ((HMv.out.keep (below_keeps (show Below wv.heap.size wv wl from (by first | exact hbl.out | exact (hbk.out.trans (hbl.out.mono hbk.out.size)))) (fun b hb => hb.2))).mono (fun b hb => Nat.lt_of_lt_of_le hb.2 (Below.size (show Below wv.heap.size wv wl from (by first | exact hbl.out | exact (hbk.out.trans (hbl.out.mono hbk.out.size))))))) (fun b hb => hb); with_reducible refine HX.mono ?_)
                  | (have HX := HIM.out (fun b => b < wv.heap.size) _ _ _ _ _ _ _ _ wv ((HMk.out.keep (below_keeps (show Below wk.heap.size wk wv from (by first | exact hbv.out | exact (hbl.out.trans (hbv.out.mono hbl.out.size)))) (fun b hb => hb.2))).mono (fun b hb => Nat.lt_of_lt_of_le hb.2 (Below.size (show Below wk.heap.size wk wv from (by first | exact hbv.out | exact (hbl.out.trans (hbv.out.mono hbl.out.size))))))) (((kept_own HMl.out).keep (below_keeps (show Below wl.heap.size wl wv from (by first | exact hbv.out | exact (hbk.out.trans (hbv.out.mono hbk.out.size)))) (fun b hb => hb.2))).mono (fun b hb => Nat.lt_of_lt_of_le hb.2 (Below.size (show Below wl.heap.size wl wv from (by first | exact hbv.out | exact (hbk.out.trans (hbv.out.mono hbk.out.size))))))) ((HMv.out.keep (below_keeps (show Below wv.heap.size wv wv from Below.refl _ _) (fun b hb => hb.2))).mono (fun b hb => Nat.lt_of_lt_of_le hb.2 (Below.size (show Below wv.heap.size wv wv from Below.refl _ _)))) (fun b hb => hb); with_reducible refine HX.mono ?_)); rintro e wz ⟨Yh, cyh, rfl, hR, hbz⟩; go_must (
                have HBs := Lib.hid (show Below w21.heap.size w21 wz from Below.trans (by first | with_reducible exact HBk.out | with_reducible exact HBl.out | with_reducible exact HBv.out) (hbz.mono (by first | with_reducible exact HBk.out.size | with_reducible exact HBl.out.size | with_reducible exact HBv.out.size)));
                have HRes := Lib.hid (show Own (OKept d) 35 w21.heap.size wz.heap.size wz (.slice Yh ys.length cyh) ys from hR.mono (by first | with_reducible exact HBk.out.size | with_reducible exact HBl.out.size | with_reducible exact HBv.out.size) (Nat.le_refl _));
                clear hR;
                clear hbz)))
          all_goals
            go_wp2
            go_meet
            exact ⟨_, _, rfl, rfl, HRes, HBs⟩
        case rest =>
          obtain ⟨Yh, cyh, rfl, rfl, HR, HB⟩ := hcut
          obtain ⟨w22, hw22⟩ : ∃ u, u = wc := ⟨_, rfl⟩
          subst hw22
          clear HBd HCk HCl HCv HSc
          have hb := HB.out
          have hz21 := hb.size
          have HV22 : Hid ((Cod.kept (Cod.val d)).Sl F w22 (.slice A0 xs.length cap) xs) := Lib.hid (HV21.out.keep fun b hb' => by have h1 := HF0.out b hb'; exact hb.block b (by omega))
          have HK22 : Hid (Cod.recs.Sl F w22 (.slice Ak ks.length ck) ks) := Lib.hid (HK21.out.keep fun b hb' => by have h1 := HF0.out b hb'; exact hb.block b (by omega))
          have HKx22 : Hid (VRd (Cod.val d) F w22 (.slice A n cA) (.slice B m cB) x) := Lib.hid (HKx21.out.keep fun b hb' => by have h1 := HF0.out b hb'; exact hb.block b (by omega))
          have HXB22 : Hid (Blk w22 wb.heap.size 53 #[.string x.ty, .int .i64 x.n, .slice A n cA, .slice B m cB]) := Lib.hid ((hb.block (wb.heap.size) (by omega)).trans HXB21.out)
          have HR22 : Hid ((Cod.kept (Cod.val d)).Sl (fun b => w3.heap.size ≤ b ∧ b < w4.heap.size) w22 (.slice Ys ys.length cys) ys) := Lib.hid (HR21.out.keep fun b hb' => by have h1 := hb'.1; have h2 := hb'.2; exact hb.block b (by omega))
          have HXM22 : Hid (Blk w22 w7.heap.size 31 #[.string x.ty, .int .i64 x.n, .slice Am x.parts.length vam, .slice Bm x.path.length vbm]) := Lib.hid ((hb.block (w7.heap.size) (by omega)).trans HXM21.out)
          have HOrg22 : Hid (Own (OKept d) 35 w8.heap.size w9.heap.size w22 (.slice Yg (markL (mkKep d) ys 1).1.length cyg) (markL (mkKep d) ys 1).1) := Lib.hid (HOrg21.out.keep fun b g1 g2 => hb.block b (by omega))
          have HE22 := Lib.hid (HE21.out.trans (hb.mono (by omega)))
          clear hb HB
          have hRo := HR.out
          have HRh := Lib.hid (show (Cod.kept (Cod.val d)).Sl (fun b => b < w22.heap.size) w22 (.slice Yh ys.length cyh) ys by have := hRo.sl; rw [okept_cod] at this; exact this.mono (fun b hb => hb.2))
          clear hRo HR
          have HC := Lib.hid (eq_kept d (fun b => b < w22.heap.size) _ _ ys w22 (HRh.out) ((HR22.out).mono (fun b hb => by have := hb.1; have := hb.2; omega)) fun b hb => hb)
          go_wp2_with fail
          refine HC.out.mono ?_
          rintro e w23 ⟨rfl, hb⟩
          clear HC
          have hz22 := hb.size
          have HV23 : Hid ((Cod.kept (Cod.val d)).Sl F w23 (.slice A0 xs.length cap) xs) := Lib.hid (HV22.out.keep fun b hb' => by have h1 := HF0.out b hb'; exact hb.block b (by omega))
          have HK23 : Hid (Cod.recs.Sl F w23 (.slice Ak ks.length ck) ks) := Lib.hid (HK22.out.keep fun b hb' => by have h1 := HF0.out b hb'; exact hb.block b (by omega))
          have HKx23 : Hid (VRd (Cod.val d) F w23 (.slice A n cA) (.slice B m cB) x) := Lib.hid (HKx22.out.keep fun b hb' => by have h1 := HF0.out b hb'; exact hb.block b (by omega))
          have HXB23 : Hid (Blk w23 wb.heap.size 53 #[.string x.ty, .int .i64 x.n, .slice A n cA, .slice B m cB]) := Lib.hid ((hb.block (wb.heap.size) (by omega)).trans HXB22.out)
          have HR23 : Hid ((Cod.kept (Cod.val d)).Sl (fun b => w3.heap.size ≤ b ∧ b < w4.heap.size) w23 (.slice Ys ys.length cys) ys) := Lib.hid (HR22.out.keep fun b hb' => by have h1 := hb'.1; have h2 := hb'.2; exact hb.block b (by omega))
          have HXM23 : Hid (Blk w23 w7.heap.size 31 #[.string x.ty, .int .i64 x.n, .slice Am x.parts.length vam, .slice Bm x.path.length vbm]) := Lib.hid ((hb.block (w7.heap.size) (by omega)).trans HXM22.out)
          have HOrg23 : Hid (Own (OKept d) 35 w8.heap.size w9.heap.size w23 (.slice Yg (markL (mkKep d) ys 1).1.length cyg) (markL (mkKep d) ys 1).1) := Lib.hid (HOrg22.out.keep fun b g1 g2 => hb.block b (by omega))
          have HE23 := Lib.hid (HE22.out.trans (hb.mono (by omega)))
          clear hb
          clear HRh
          have HC := Lib.hid (held_kept d (fun b => b < w23.heap.size) 1 (.slice Yg ys.length cyg) ys w23 (by have := (show (Cod.kept (Cod.val d)).Sl _ _ _ _ by have := HOrg23.out.sl; rw [okept_cod] at this; exact this); rw [markL_length] at this; exact (this).mono (fun b hb => by have := hb.1; have := hb.2; omega)) (fun b hb => hb) (by omega) HMR.out)
          go_wp2_with fail
          refine HC.out.mono ?_
          rintro e w24 ⟨rfl, hb⟩
          clear HC
          have hz23 := hb.size
          have HV24 : Hid ((Cod.kept (Cod.val d)).Sl F w24 (.slice A0 xs.length cap) xs) := Lib.hid (HV23.out.keep fun b hb' => by have h1 := HF0.out b hb'; exact hb.block b (by omega))
          have HK24 : Hid (Cod.recs.Sl F w24 (.slice Ak ks.length ck) ks) := Lib.hid (HK23.out.keep fun b hb' => by have h1 := HF0.out b hb'; exact hb.block b (by omega))
          have HKx24 : Hid (VRd (Cod.val d) F w24 (.slice A n cA) (.slice B m cB) x) := Lib.hid (HKx23.out.keep fun b hb' => by have h1 := HF0.out b hb'; exact hb.block b (by omega))
          have HXB24 : Hid (Blk w24 wb.heap.size 53 #[.string x.ty, .int .i64 x.n, .slice A n cA, .slice B m cB]) := Lib.hid ((hb.block (wb.heap.size) (by omega)).trans HXB23.out)
          have HR24 : Hid ((Cod.kept (Cod.val d)).Sl (fun b => w3.heap.size ≤ b ∧ b < w4.heap.size) w24 (.slice Ys ys.length cys) ys) := Lib.hid (HR23.out.keep fun b hb' => by have h1 := hb'.1; have h2 := hb'.2; exact hb.block b (by omega))
          have HXM24 : Hid (Blk w24 w7.heap.size 31 #[.string x.ty, .int .i64 x.n, .slice Am x.parts.length vam, .slice Bm x.path.length vbm]) := Lib.hid ((hb.block (w7.heap.size) (by omega)).trans HXM23.out)
          have HOrg24 : Hid (Own (OKept d) 35 w8.heap.size w9.heap.size w24 (.slice Yg (markL (mkKep d) ys 1).1.length cyg) (markL (mkKep d) ys 1).1) := Lib.hid (HOrg23.out.keep fun b g1 g2 => hb.block b (by omega))
          have HE24 := Lib.hid (HE23.out.trans (hb.mono (by omega)))
          clear hb
          go_wp2_with fail
          go_ret
          exact ⟨rfl, (HEb.out.trans (HE24.out.mono HEb.out.size))⟩
end Go.Proofs.Ytemlpiokdoeeeaa
