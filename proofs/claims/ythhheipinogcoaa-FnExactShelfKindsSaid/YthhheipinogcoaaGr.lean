/- The kinds of a shelf, of the program: what is handed back is the call's own. -/
import Derived.Test.YthhheipinogcoaaGq
namespace Go.Proofs.Ythhheipinogcoaa
open Go.RowKit

theorem made_nil (n : Nat) : ∀ i, i < n → (madeCells #[.slice none 0 0] n)[i]? = some (.slice none 0 0) := by
  intro i hi
  simp [madeCells, hi, Nat.mod_one]

set_option maxRecDepth 100000 in
set_option maxHeartbeats 16000000 in
theorem implShelfKinds_any (F : Nat → Prop) (v : Value) (xs : List ModR) (w : World) (h : Cod.modr.Sl F w v xs) (hF : ∀ b, F b → b < w.heap.size) (hn : xs.length ≤ 2000000) (hsm : ∀ x ∈ xs, SmolModr x) :
    Calls Try.prog 11 #[v] w (KindsD xs w) := by
  have HS := Lib.hid h
  have HF := Lib.hid hF
  have HM := Lib.hid hsm
  obtain ⟨A, cap, rfl, hlc, hcm, _⟩ := h
  unfold maxLen at hcm
  have hmk := make_len (P := Try.prog) 24 59 _ 1 24 Try.underlying24 info_recs (by omega) xs.length hn
  clear hsm hF
  go_enter Try.func11, Try.ntmps11
  go_wp2
  go_loopw [13] (fun i wr => ∃ (k : Nat) (cs : Array Value), k ≤ xs.length ∧ i = .int .i64 k ∧ Hid (Blk wr w.heap.size 59 cs) ∧ cs.size = xs.length ∧ Hid (∀ i, k ≤ i → i < xs.length → cs[i]? = some (.slice none 0 0)) ∧ Hid (OPart rowRR w.heap.size wr cs k (kindsOf xs)) ∧ Hid (Below w.heap.size w wr)) (fun i _ => xs.length - (intOf i).toNat)
  case atStart => exact ⟨0, _, Nat.zero_le _, rfl, Blk.new _ _ _, by simp [madeCells], fun i _ hi => made_nil xs.length i hi, OPart.zero (by simp), (Below.refl _ _).alloc (Nat.le_refl _) _⟩
  case round =>
    obtain ⟨k, cs, hk, rfl, HB, hcs, HN, HP, HE⟩ := hrel
    obtain ⟨wo, hwo⟩ : ∃ wo, wo = wr := ⟨_, rfl⟩
    subst hwo
    have hKo := HB.out.lt
    by_cases hlt : k < xs.length
    · have HSr := Lib.hid (HS.out.keep (below_keeps HE.out HF.out))
      obtain ⟨b, off, cap', D0, e0, D1, e1, D2, e2, hv, hFb, _, _, k0, k1, k2, hd⟩ := HSr.out.modr_at hlt
      obtain ⟨rfl, rfl⟩ : A = some ⟨b, off, none⟩ ∧ cap = cap' := by simpa using hv
      have HD := Lib.hid hd.records
      have hmd := HM.out _ (List.getElem_mem hlt)
      have hrn := hmd.1
      have HSM := Lib.hid hmd.2.2.2.1
      have HFo := Lib.hid (show ∀ b, F b → b < w.heap.size from HF.out)
      have i0 : (0 : Int) ≤ k := by omega
      have i1 : (k : Int) < xs.length := by omega
      have hbl : b < wo.heap.size := Nat.lt_of_lt_of_le (HF.out b hFb) HE.out.size
      have HK := Lib.hid (kindsOf_at hlt)
      have he0 : (xs[k].records.length : Int) ≤ e0 := by obtain ⟨_, _, h1, h2, _⟩ := HD.out; simp only [Value.slice.injEq] at h1; omega
      have he1 : e0 ≤ 2 ^ 63 - 1 := by obtain ⟨_, _, h1, h2, h3, _⟩ := HD.out; simp only [Value.slice.injEq] at h1; unfold maxLen at h3; omega
      generalize xs[k].records = rs at *
      have HO1 := Lib.hid (OGrow.nil (c := rowR) (t := 67) (w := wo.alloc (.cells #[.slice D0 rs.length e0, .slice D1 xs[k].funcs.length e1, .slice D2 xs[k].friends.length e2] 62)) (lo := wo.heap.size + 1) (by simp))
      obtain ⟨ws, hws⟩ : ∃ ws, ws = wo.alloc (.cells #[.slice D0 rs.length e0, .slice D1 xs[k].funcs.length e1, .slice D2 xs[k].friends.length e2] 62) := ⟨_, rfl⟩
      have hbs : Below wo.heap.size wo ws := by rw [hws]; exact (Below.refl _ _).alloc (Nat.le_refl _) _
      have hss : ws.heap.size = wo.heap.size + 1 := by rw [hws]; simp
      have HBs := Lib.hid (HB.out.below hbs hKo)
      have Hbs := Lib.hid hbs
      rw [← hws] at HO1
      have Hws := Lib.hid hws
      have HcN := Lib.hid (HN.out k (Nat.le_refl _) hlt)
      have Hrefl := Lib.hid (Wrote.refl w.heap.size (w.heap.size + 1) ws)
      clear hv hd hmd hmk hws hbs
      go_wp2
      rw [← Hws.out]
      go_loopw [21] (fun i wr => ∃ (j mm : Nat) (l : Value) (cs' : Array Value), j ≤ rs.length ∧ i = .int .i64 j ∧ Hid (Blk wr w.heap.size 59 cs') ∧ cs'.size = xs.length ∧ Hid (cs'[k]? = some l ∧ ∀ i, i ≠ k → cs'[i]? = cs[i]?) ∧ Hid (OGrow rowR 67 (wo.heap.size + 1) mm wr l (rs.take j)) ∧ Hid (Wrote w.heap.size (w.heap.size + 1) ws wr)) (fun i _ => rs.length - (intOf i).toNat)
      case atStart => exact ⟨0, _, _, cs, Nat.zero_le _, rfl, HBs, hcs, ⟨HcN.out, fun _ _ => rfl⟩, HO1, Hrefl⟩
      case round =>
        obtain ⟨j, mm, l, cs', hj, rfl, HBq, hcs', HC, HOl, HWq⟩ := hrel
        have hz : ws.heap.size ≤ wr.heap.size := HWq.out.size
        by_cases hlt2 : j < rs.length
        · have HDq := Lib.hid (HD.out.keep (w' := wr) fun b hb => by have h1 := HF.out b hb; exact (HWq.out.block b (by omega) (by omega)).trans (Hbs.out.block b (by omega)))
          obtain ⟨rb, ro, rc, u, hv, hFrb, _, _, r0, r1, hi0, hu⟩ := HDq.out.rec_at hlt2
          obtain ⟨rfl, rfl⟩ : D0 = some ⟨rb, ro, none⟩ ∧ e0 = rc := by simpa using hv
          obtain ⟨Au, cu, rfl, hu1_⟩ := id hu
          have hsr : rs[j].fields.length ≤ 2000000 := HSM.out _ (List.getElem_mem hlt2)
          have HT2 := Lib.hid (take_push hlt2)
          have hFq : ∀ b, F b → b < wr.heap.size := fun b hb => by have := HF.out b hb; omega
          have hbl2 := hFq rb hFrb
          have i2 : (0 : Int) ≤ j := by omega
          have i3 : (j : Int) < rs.length := by omega
          clear hu1_
          generalize rs[j] = r at *
          have hmm := HOl.out.m_le
          obtain ⟨Al, cl, rfl, hl1, hl2⟩ := HOl.out.own.len_
          have e1 : (rs.take j).length = j := by rw [List.length_take]; omega
          obtain ⟨wR, hwR⟩ : ∃ wR, wR = wr.alloc (.cells #[.int .i64 r.able, .slice Au r.fields.length cu] 67) := ⟨_, rfl⟩
          have hBR : Blk wR wr.heap.size 67 #[.int .i64 r.able, .slice Au r.fields.length cu] := by rw [hwR]; exact Blk.new _ _ _
          have hWR : Below wr.heap.size wr wR := by rw [hwR]; exact (Below.refl _ _).alloc (Nat.le_refl _) _
          have hsR : wR.heap.size = wr.heap.size + 1 := by rw [hwR]; simp
          have hBK := HBq.out.below hWR (by omega)
          have z0 := hBK.cell k
          rw [HC.out.1, e1] at z0
          have HCl := Lib.hid (clone_str F _ r.fields wR.drew (hu.keep (below_keeps hWR hFq)).drew (fun b hb => by have := hFq b hb; show b < wR.heap.size; omega) hsr)
          have HS1 := Lib.hid (show wR.drew.cell? ⟨wr.heap.size, 0, none⟩ = some (.int .i64 r.able) ∧ wR.drew.cell? ⟨wr.heap.size, 1, none⟩ = some (.slice Au r.fields.length cu) from ⟨hBR.cell0, hBR.cell1⟩)
          have HBR := Lib.hid (show Blk wR.drew wr.heap.size 67 #[.int .i64 r.able, .slice Au r.fields.length cu] from hBR)
          have HBK := Lib.hid (show Blk wR.drew w.heap.size 59 cs' from hBK)
          have hsRd : wR.drew.heap.size = wr.heap.size + 1 := hsR
          have HWRd := Lib.hid (show Below wr.heap.size wr wR.drew from hWR.drew)
          have HwR := Lib.hid hwR
          have Hi0 := Lib.hid hi0
          have hKr : w.heap.size < wr.heap.size := by omega
          have hKR : w.heap.size < wR.heap.size := by omega
          have hkcs : k < cs'.size := by omega
          have hown : ∀ g', (Value.slice Al (rs.take j).length cl).ownBlock = some g' → wo.heap.size + 1 ≤ g' ∧ g' < mm := fun g' hg' => by
            obtain ⟨us, ho, _, _, _, hh, _⟩ := HOl.out
            exact ⟨(ho.lt g' hg').1, hh g' hg'⟩
          have Hown := Lib.hid hown
          clear hv hu hwR hBR hWR hBK hsR hi0 hown
          obtain ⟨g0, g1⟩ := HS1.out
          have z0d : wR.drew.cell? ⟨w.heap.size, k, none⟩ = some (.slice Al j cl) := z0
          go_upto_region 8 with fail
          rw [← HwR.out]
          go_region_law (first
            | (refine step_append_run rfl _ _ _ rfl rfl rfl happ2 ?_)
            | (go_simp; go_at_call 33; (with_reducible refine HCl.out.mono ?_); rintro e wB ⟨A1, c1, rfl, hM1⟩; go_must (
                have hsB := hM1.2.size;
                have hBB := HBR.out.below hM1.2 (by omega);
                have y0 := hBB.cell0; have y1 := hBB.cell1;
                have hBKB := HBK.out.below hM1.2 (by omega);
                have z1 := hBKB.cell k;
                rw [HC.out.1, e1] at z1;
                obtain ⟨wC, hwC⟩ : ∃ wC, wC = wB.alloc (.cells #[.int .i64 r.able, .slice A1 r.fields.length c1] 67) := ⟨_, rfl⟩;
                have hWC : Below wB.heap.size wB wC := (by rw [hwC]; exact (Below.refl _ _).alloc (Nat.le_refl _) _);
                have hsC : wC.heap.size = wB.heap.size + 1 := (by rw [hwC]; simp);
                have hBC : Blk wC wB.heap.size 67 [.int .i64 r.able, .slice A1 r.fields.length c1].toArray := (by rw [hwC]; exact Blk.new _ _ _);
                have hkq : ∀ b, b < wr.heap.size → wC.heap[b]? = wr.heap[b]? := fun b hb => (hWC.block b (by omega)).trans ((hM1.2.block b (by omega)).trans (HWRd.out.block b hb));
                have hOC : OGrow rowR 67 (wo.heap.size + 1) mm wC (.slice Al (rs.take j).length cl) (rs.take j) := HOl.out.keep (by omega) (fun b _ g2 => hkq b (by omega));
                obtain ⟨g, cap2, wE, happ2, hG, hgr⟩ := OGrow.push (P := Try.prog) 59 59 _ 2 32 Try.underlying59 info_rec rfl rfl (by omega) (by omega) hOC (by omega) wR.drew.heap.size wB.heap.size wB.heap.size 1 [.int .i64 r.able, .slice A1 r.fields.length c1] r hBC (two_cells _ _) (by omega) hsB (by omega) ⟨_, rfl, Hi0.out, hM1.1.keep (fun b g1 g2 => hWC.block b g2)⟩;
                rw [e1] at happ2 hG;
                have hgs := hgr.size;
                have hBCC := hBB.below hWC (by omega);
                have hBE : Blk wE wr.heap.size 67 #[.int .i64 r.able, .slice Au r.fields.length cu] := (hgr.block _ (by omega) (fun he => by have := (Hown.out _ he.symm).2; omega)).trans hBCC;
                have hBKE : Blk wE w.heap.size 59 cs' := (hgr.block _ (by omega) (fun he => by have := (Hown.out _ he.symm).1; omega)).trans (hBKB.below hWC (by omega));
                have z3 := hBKE.cell k;
                rw [HC.out.1, e1] at z3;
                have f3 := hBKE.frozen k;
                have hBF : Blk (wE.setCell ⟨w.heap.size, k, none⟩ (.slice (some ⟨g, 0, none⟩) (j + 1) cap2)) wr.heap.size 67 #[.int .i64 r.able, .slice Au r.fields.length cu] := hBE.far (p := ⟨w.heap.size, k, none⟩) (by simp; omega) _;
                have HBF := Lib.hid (hBKE.set_ k (.slice (some ⟨g, 0, none⟩) (j + 1) cap2));
                have HGF := Lib.hid (hG.keep (w' := wE.setCell ⟨w.heap.size, k, none⟩ (.slice (some ⟨g, 0, none⟩) (j + 1) cap2)) (by simp [World.setCell]) (fun b g1 g2 => Below.heap_setCell _ _ _ _ (by simp; omega)));
                have HWF := Lib.hid ((show Wrote w.heap.size (w.heap.size + 1) ws wE from ⟨hgr.os.trans (hWC.os.trans (hM1.2.os.trans (HWRd.out.os.trans HWq.out.os))), hgr.tape.trans (hWC.tape.trans (hM1.2.tape.trans (HWRd.out.tape.trans HWq.out.tape))), hgr.output.trans (hWC.output.trans (hM1.2.output.trans (HWRd.out.output.trans HWq.out.output))), (by omega), fun b hb hn => (hgr.block b (by omega) (fun he => by have := (Hown.out _ he.symm).1; omega)).trans ((hkq b (by omega)).trans (HWq.out.block b hb hn))⟩).trans (Wrote.set_ (b := w.heap.size) (o := k) (Nat.le_refl _) (by omega) (.slice (some ⟨g, 0, none⟩) (j + 1) cap2)));
                rw [hwC] at happ2;
                have hKB : w.heap.size < wB.heap.size := (by omega);
                clear hsB hBB hBKB hwC hWC hsC hBC hkq hOC hG hgr hgs hBCC hBE hBKE hBF hM1)))
          all_goals
            go_wp2
            go_roundw
            case rel => exact ⟨j + 1, _, _, _, by omega, by go_num, HBF, by rw [Array.size_setIfInBounds]; exact hcs', ⟨by rw [Array.getElem?_setIfInBounds_self_of_lt (by omega)], fun i hi => by rw [Array.getElem?_setIfInBounds_ne (Ne.symm hi)]; exact HC.out.2 i hi⟩, by rw [HT2.out]; exact HGF, HWF⟩
            case measure => simp [intOf]; omega
        · obtain rfl : j = rs.length := by omega
          have hmm := HOl.out.m_le
          have hol := HOl.out.own
          rw [List.take_length] at hol
          have HH := Lib.hid (OPart.next (w' := wr) (cs' := cs') (news := [l]) HP.out (by rw [kindsOf_length]; exact hlt) (fun i h1 h2 => (HWq.out.block i (by omega) (by omega)).trans (Hbs.out.block i h2)) (by omega)
            (fun i hi => HC.out.2 i (by have : i < k * 1 := hi; omega)) (fun q u hu => by
              match q, hu with
              | 0, hu => simp at hu; subst hu; show cs'[k * 1 + 0]? = _; rw [Nat.mul_one]; exact HC.out.1
              | q + 1, hu => simp at hu) ⟨l, rfl, by rw [HK.out]; exact hol.mono (by omega) hmm.2⟩)
          have HEE := Lib.hid (show Below w.heap.size w wr from (HE.out.trans (Hbs.out.mono (by omega))).trans (Wrote.to_below HWq.out (Nat.le_refl _) (by omega)))
          clear hol
          go_wp2
          go_roundw
          case rel => exact ⟨k + 1, cs', by omega, by go_num, HBq, hcs', fun i h1 h2 => (HC.out.2 i (by omega)).trans (HN.out i (by omega) h2), HH, HEE⟩
          case measure => simp [intOf]; omega
    · obtain rfl : k = xs.length := by omega
      have hP := HP.out
      rw [← kindsOf_length xs] at hP
      have HQ := Lib.hid (show MadeO rowRR 59 w wo (.slice (some ⟨w.heap.size, 0, none⟩) xs.length xs.length) (kindsOf xs) from ⟨by have := hP.own (t := 59) (cap := xs.length) HB.out (Nat.le_refl _) (by rw [kindsOf_length]; exact Nat.le_refl _) (by unfold maxLen; omega); rw [kindsOf_length] at this; exact this, HE.out⟩)
      clear hP hmk
      go_wp2
      go_ret
      exact ⟨_, _, rfl, HQ.out⟩
end Go.Proofs.Ythhheipinogcoaa
