/- The model's VaultsText. -/
import Derived.Test.YtemlpiokdoeeeaaDoorWd
import Derived.Test.YtemlpiokdoeeeaaDoorVtb
import Derived.Test.YtemlpiokdoeeeaaDoorLat
namespace Go.Proofs.YtemlpiokdoeeeaaDoor
open Go.RowKit

def addLine (d : Nat) (acc : ByteArray) (x : KepR) : ByteArray := acc ++ ⟨#[64]⟩ ++ decBy x.o.toNat ++ ⟨#[32]⟩ ++ textOf (textV d) x.v ++ ⟨#[10]⟩
def linesK (d : Nat) (xs : List KepR) (acc : ByteArray) : ByteArray := xs.foldl (addLine d) acc
def vText (ks : Ks) (d : Nat) (xs : List KepR) : ByteArray := if vOk ks d xs = true then linesK d xs ⟨#[]⟩ else ⟨#[]⟩
theorem ok_elem {ks : Ks} {d : Nat} {xs : List KepR} (h : vOk ks d xs = true) {i : Nat} (hi : i < xs.length) : kindsOk ks = true ∧ (0 ≤ xs[i].o ∧ xs[i].o ≤ 3) ∧ keptB ks d xs[i].v = true := by
  unfold vOk at h
  simp only [Bool.and_eq_true] at h
  have h2 := okList_at h.2 hi
  unfold okAtK at h2
  rw [getK hi] at h2
  simp only [Bool.and_eq_true] at h2
  have h3 := h2.1.1
  unfold inB at h3
  simp only [Bool.and_eq_true, decide_eq_true_eq] at h3
  exact ⟨h.1, h3, h2.1.2⟩
theorem kept_ok {ks : Ks} {d : Nat} {v : Val} (h : keptB ks d v = true) : okV ks (d + 1) v = true := by
  unfold keptB at h
  simp only [Bool.and_eq_true] at h
  exact h.2.1
theorem line_size {d : Nat} {acc : ByteArray} {x : KepR} : (addLine d acc x).size = acc.size + 1 + (decBy x.o.toNat).size + 1 + (textOf (textV d) x.v).size + 1 := by
  unfold addLine
  simp only [ByteArray.size_append]
  rfl

set_option maxRecDepth 100000 in
set_option maxHeartbeats 4000000 in
theorem specVaultsText_any {ks : Ks} (d : Nat) (F : Nat → Prop) (kv vl : Value) (xs : List KepR) (w : World) (hks : Cod.recs.Sl F w kv ks) (h : (Cod.kept (Cod.val d)).Sl F w vl xs) (hF : ∀ b, F b → b < w.heap.size) (hsz : ∀ x ∈ xs, sizeOf' (fun _ => 1) (sizeV d) x.v ≤ 2000000) :
    Calls Tryd.prog 6 #[kv, vl] w fun e w' => e = .returned (.string (vText ks d xs)) ∧ Below w.heap.size w w' := by
  have HL := Lib.hid h
  have HS := Lib.hid hks
  have HF := Lib.hid hF
  have HVo := Lib.hid (fun (W : World) (hb : Below w.heap.size w W) => specVaultsOk_any d F kv vl xs W (hks.keep (below_keeps hb hF)) (h.keep (below_keeps hb hF)) (below_goF hF hb))
  obtain ⟨Ak, ck, rfl, _⟩ := hks
  obtain ⟨Al, cap, rfl, hlc, hcm, _⟩ := h
  unfold maxLen at hcm
  have HSz := Lib.hid hsz
  clear hF hsz
  cases hv : vOk ks d xs with
  | false =>
    rw [hv] at HVo
    have HN := Lib.hid (show vText ks d xs = ⟨#[]⟩ by unfold vText; rw [hv]; rfl)
    clear hv
    go_enter Tryd.func6, Tryd.ntmps6
    go_wp2
    go_loopw [5, 6] (fun s i wr => s = .string ⟨#[]⟩ ∧ i = .int .i64 (0 : Nat) ∧ Hid (Below w.heap.size w wr)) (fun _ i _ => 1)
    case atStart => exact ⟨rfl, rfl, Lib.hid (Below.refl _ _)⟩
    case round =>
      obtain ⟨rfl, rfl, HB⟩ := hrel
      have HV1 := Lib.hid (HVo.out wr HB.out)
      by_cases h0 : 0 < xs.length
      · have i0 : (0 : Int) < xs.length := by omega
        clear h0
        go_wp2_with fail
        go_at_call 14
        with_reducible refine HV1.out.mono ?_
        rintro e w2 ⟨rfl, hb2⟩
        have HB2 := Lib.hid (HB.out.trans (hb2.mono HB.out.size))
        clear hb2
        go_wp2
        go_ret
        exact ⟨ret_str HN.out.symm, HB2.out⟩
      · have i0 : ¬ (0 : Int) < xs.length := by omega
        clear h0
        go_wp2
        go_ret
        exact ⟨ret_str HN.out.symm, HB.out⟩
  | true =>
    rw [hv] at HVo
    have HN := Lib.hid (show linesK d (xs.drop 0) ⟨#[]⟩ = vText ks d xs by unfold vText; rw [hv, List.drop_zero]; rfl)
    have HEl := Lib.hid (fun (i : Nat) (hi : i < xs.length) => ok_elem hv hi)
    have h36 := okList_len (ks := ks) (d := d) (xs := xs) (by unfold vOk at hv; simp only [Bool.and_eq_true] at hv; exact hv.2)
    clear hv
    go_enter Tryd.func6, Tryd.ntmps6
    go_wp2
    go_loopw [5, 6] (fun s i wr => ∃ (k : Nat) (acc : ByteArray), k ≤ xs.length ∧ s = .string acc ∧ i = .int .i64 k ∧ acc.size ≤ k * 100001000 ∧ Hid (linesK d (xs.drop k) acc = vText ks d xs) ∧ Hid (Below w.heap.size w wr)) (fun _ i _ => xs.length - (intOf i).toNat)
    case atStart => exact ⟨0, _, Nat.zero_le _, rfl, rfl, Nat.zero_le _, HN, Lib.hid (Below.refl _ _)⟩
    case round =>
      obtain ⟨k, acc, hk, rfl, rfl, hac, HH, HB⟩ := hrel
      have HV1 := Lib.hid (HVo.out wr HB.out)
      by_cases hlt : k < xs.length
      · obtain ⟨hkk, ⟨ho0, ho3⟩, hkb⟩ := HEl.out k hlt
        have hokv := kept_ok hkb
        have hts := textVal_le (ks := ks) (d := d) (v := xs[k].v) (by unfold valOk; rw [hkk, hokv]; rfl) (HSz.out _ (List.getElem_mem hlt))
        have hds := size_decBy 8 xs[k].o.toNat (by omega)
        have hdr : linesK d (xs.drop k) acc = linesK d (xs.drop (k + 1)) (addLine d acc xs[k]) := by rw [List.drop_eq_getElem_cons hlt]; rfl
        have HH2 := Lib.hid (show linesK d (xs.drop (k + 1)) (acc ++ ⟨#[64]⟩ ++ decBy xs[k].o.toNat ++ ⟨#[32]⟩ ++ textOf (textV d) xs[k].v ++ ⟨#[10]⟩) = vText ks d xs by rw [← HH.out, hdr]; rfl)
        have HLs := line_size (d := d) (acc := acc) (x := xs[k])
        unfold addLine at HLs
        have i0 : (0 : Int) ≤ k := by omega
        have i1 : (k : Int) < xs.length := by omega
        clear HH hdr hkb hkk
        have HOk := Lib.hid hokv
        have HX0 := Lib.hid ho0
        clear hokv
        go_wp2_with fail
        go_at_call 14
        with_reducible refine HV1.out.mono ?_
        rintro e w2 ⟨rfl, hb2⟩
        have hb02 := HB.out.trans (hb2.mono HB.out.size)
        obtain ⟨b, off, cap', A2, cA2, B2, cB2, hvv, hFb, _, _, hc0, hc1, hc2, hc3, hc4, -, hV⟩ := (HL.out.keep (below_keeps hb02 HF.out)).kept_at hlt
        obtain ⟨rfl, rfl⟩ : Al = some ⟨b, off, none⟩ ∧ cap = cap' := by simpa using hvv
        have hbl : b < w2.heap.size := Nat.lt_of_lt_of_le (HF.out b hFb) hb02.size
        have k0 := Later.cell (w0 := w2) (p := ⟨b, off + k * 5, none⟩) hbl hc0
        have k1 := Later.cell (w0 := w2) (p := ⟨b, off + k * 5 + 1, none⟩) hbl hc1
        have k2 := Later.cell (w0 := w2) (p := ⟨b, off + k * 5 + 2, none⟩) hbl hc2
        have k3 := Later.cell (w0 := w2) (p := ⟨b, off + k * 5 + 3, none⟩) hbl hc3
        have k4 := Later.cell (w0 := w2) (p := ⟨b, off + k * 5 + 4, none⟩) hbl hc4
        have HF2 := Lib.hid (below_goF HF.out hb02)
        have HC1 := Lib.hid fun s : Later w2 => Calls.later (show Calls Tryd.prog 15 #[.int .i64 xs[k].o] s.w fun e w' => e = .returned (.string (decBy xs[k].o.toNat)) ∧ Below s.w.heap.size s.w w' by
          have := dec_full xs[k].o.toNat s.w (by omega)
          rw [Int.toNat_of_nonneg HX0.out] at this
          exact this)
        have HC2 := Lib.hid fun s : Later w2 => Calls.later (l2Text_any ks d F A2 B2 _ _ cA2 cB2 xs[k].v s.w (hV.keep fun b hb => s.h.block b (HF2.out b hb)) (fun b hb => Nat.lt_of_lt_of_le (HF2.out b hb) s.h.size) HOk.out hts)
        have HB2 := Lib.hid hb02
        clear hvv hV hc0 hc1 hc2 hc3 hc4 hb2 hb02 HV1 ho0 ho3
        generalize decBy xs[k].o.toNat = D at *
        generalize textOf (textV d) xs[k].v = T at *
        generalize xs[k] = x at *
        have hkm : k * 100001000 ≤ 36 * 100001000 := Nat.mul_le_mul_right _ (by omega)
        go_upto_region 5 with fail
        refine wp_region_later w2 (Below.refl _ _) (by kernel_rfl) (by kernel_rfl) ?_
        repeat (go_big_quiet_step (first | (go_at_call 15; with_reducible exact HC1.out _) | (go_at_call 16; with_reducible exact HC2.out _)))
        refine wpQuiet_nil ?_
        intro s
        go_wp2
        go_roundw
        case rel => exact ⟨k + 1, _, by omega, rfl, by go_num, by rw [HLs]; omega, HH2, Lib.hid (HB2.out.trans (s.h.mono HB2.out.size))⟩
        case measure => first | (simp [intOf]; done) | (simp [intOf]; omega)
      · have HR := Lib.hid (show acc = vText ks d xs by rw [← HH.out, List.drop_eq_nil_of_le (by omega)]; rfl)
        have i0 : ¬ (k : Int) < xs.length := by omega
        clear HH
        go_wp2
        go_ret
        exact ⟨ret_str HR.out, HB.out⟩
end Go.Proofs.YtemlpiokdoeeeaaDoor
