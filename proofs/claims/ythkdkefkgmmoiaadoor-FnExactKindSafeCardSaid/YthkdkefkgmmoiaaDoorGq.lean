/- The kinds of a shelf, of the model and of the program: what is handed back is the call's own. The kinds of a shelf, of the program: what is handed back is the call's own. -/
import Derived.Test.YthkdkefkgmmoiaaDoorOg
import Derived.Test.YthkdkefkgmmoiaaDoorGk
import Derived.Test.YthkdkefkgmmoiaaDoorRow
import Derived.Deep.RegionHeld3
import Derived.Deep.DeepCutAuto
namespace Go.Proofs.YthkdkefkgmmoiaaDoor
open Go.RowKit

def kindsOf (xs : List ModR) : List (List Rec) := xs.map (·.records)
abbrev rowR : OCod Rec := OCod.rec_ 9
abbrev rowRR : OCod (List Rec) := rowR.row 51
theorem kindsOf_length (xs : List ModR) : (kindsOf xs).length = xs.length := List.length_map ..
theorem kindsOf_at {xs : List ModR} {k : Nat} (h : k < xs.length) : (kindsOf xs)[k]'(by rw [kindsOf_length]; exact h) = xs[k].records := List.getElem_map ..
theorem kindsOf_take {xs : List ModR} {k : Nat} (h : k < xs.length) : (kindsOf xs).take (k + 1) = (kindsOf xs).take k ++ [xs[k].records] := by
  rw [List.take_succ_eq_append_getElem (by rw [kindsOf_length]; exact h), kindsOf_at h]
theorem kindsOf_all (xs : List ModR) : (kindsOf xs).take xs.length = kindsOf xs := by rw [← kindsOf_length xs, List.take_length]
theorem take_push {α : Type} {xs : List α} {k : Nat} (h : k < xs.length) : xs.take (k + 1) = xs.take k ++ [xs[k]] := List.take_succ_eq_append_getElem h
theorem OGrow.lit {α : Type} {c : OCod α} {t : TypeId} {lo : Nat} {w : World} (h : lo ≤ w.heap.size) : OGrow c t lo (w.heap.size + 1) (w.alloc (.cells #[] t)) (.slice (some ⟨w.heap.size, 0, none⟩) 0 0) ([] : List α) :=
  ⟨[], World.ownsRow_made w #[] 0 h (by simp [maxLen]) (by simp), fun _ h => by simp at h, by omega, by simp, fun g hg => by simp [Value.ownBlock] at hg; omega, fun _ => lo, fun _ => lo, fun _ h => by simp at h, fun _ _ _ h => by simp at h, fun _ h => by simp at h, fun _ _ h => by simp at h⟩
theorem OGrow.one {α : Type} {c : OCod α} {t : TypeId} {lo m : Nat} {w : World} {v : Value} {xs : List α} (h : OGrow c t lo m w v xs) : v.oneCell' = true := by
  obtain ⟨A, cap, rfl, _⟩ := h.own.len_
  rfl
theorem OGrow.m_le {α : Type} {c : OCod α} {t : TypeId} {lo m : Nat} {w : World} {v : Value} {xs : List α} (h : OGrow c t lo m w v xs) : lo ≤ m ∧ m ≤ w.heap.size := by
  obtain ⟨us, ho, h1, hl, hm, _⟩ := h
  exact ⟨hl, hm⟩

theorem two_cells (r : Int) (A : Option Addr) {n c : Nat} : ∀ u ∈ ([.int .i64 r, .slice A n c] : List Value), u.oneCell' = true := fun u hu => by
  rcases List.mem_cons.1 hu with rfl | hu
  · rfl
  · rcases List.mem_cons.1 hu with rfl | hu
    · rfl
    · cases hu
def KindsD (xs : List ModR) (w : World) (e : Ending) (w' : World) : Prop := ∃ A' c', e = .returned (.slice A' xs.length c') ∧ MadeO rowRR 40 w w' (.slice A' xs.length c') (kindsOf xs)

set_option maxRecDepth 100000 in
set_option maxHeartbeats 8000000 in
theorem specShelfKinds_any (F : Nat → Prop) (v : Value) (xs : List ModR) (w : World) (h : Cod.modr.Sl F w v xs) (hF : ∀ b, F b → b < w.heap.size) (hn : xs.length ≤ 2000000) (hsm : ∀ x ∈ xs, SmolModr x) :
    Calls Tryd.prog 13 #[v] w (KindsD xs w) := by
  have HS := Lib.hid h
  have HF := Lib.hid hF
  have HM := Lib.hid hsm
  obtain ⟨A, cap, rfl, hlc, hcm, _⟩ := h
  unfold maxLen at hcm
  have HO0 := Lib.hid (OGrow.lit (c := rowRR) (t := 40) (w := w) (Nat.le_refl w.heap.size))
  clear hsm hF
  go_enter Tryd.func13, Tryd.ntmps13
  go_wp2
  go_loopw [4, 3] (fun i o wr => ∃ (k m : Nat), k ≤ xs.length ∧ i = .int .i64 k ∧ Hid (OGrow rowRR 40 w.heap.size m wr o ((kindsOf xs).take k)) ∧ Hid (Below w.heap.size w wr)) (fun i _ _ => xs.length - (intOf i).toNat)
  case atStart => exact ⟨0, _, Nat.zero_le _, rfl, HO0, (Below.refl _ _).alloc (Nat.le_refl _) _⟩
  case round =>
    obtain ⟨k, m, hk, rfl, HO, HB⟩ := hrel
    obtain ⟨wo, hwo⟩ : ∃ wo, wo = wr := ⟨_, rfl⟩
    subst hwo
    by_cases hlt : k < xs.length
    · have HSr := Lib.hid (HS.out.keep (below_keeps HB.out HF.out))
      obtain ⟨b, off, cap', D0, e0, D1, e1, D2, e2, hv, hFb, _, _, k0, k1, k2, hd⟩ := HSr.out.modr_at hlt
      obtain ⟨rfl, rfl⟩ : A = some ⟨b, off, none⟩ ∧ cap = cap' := by simpa using hv
      have HD := Lib.hid hd.records
      have hmd := HM.out _ (List.getElem_mem hlt)
      have hrn := hmd.1
      have HSM := Lib.hid hmd.2.2.2.1
      have HO1 := Lib.hid (OGrow.lit (c := rowR) (t := 51) (w := wo) (Nat.le_refl wo.heap.size))
      have HFr := Lib.hid (show ∀ b, F b → b < wo.heap.size from fun b hb => Nat.lt_of_lt_of_le (HF.out b hb) HB.out.size)
      have i0 : (0 : Int) ≤ k := by omega
      have i1 : (k : Int) < xs.length := by omega
      have hbl := HFr.out b hFb
      have HK := Lib.hid (kindsOf_take hlt)
      have he0 : (xs[k].records.length : Int) ≤ e0 := by obtain ⟨_, _, h1, h2, _⟩ := HD.out; simp only [Value.slice.injEq] at h1; omega
      have he1 : e0 ≤ 2 ^ 63 - 1 := by obtain ⟨_, _, h1, h2, h3, _⟩ := HD.out; simp only [Value.slice.injEq] at h1; unfold maxLen at h3; omega
      generalize xs[k].records = rs at *
      clear hv hd k1 k2 hmd hFb
      go_wp2
      go_loopw [6, 5] (fun i l wr => ∃ (j mm : Nat), j ≤ rs.length ∧ i = .int .i64 j ∧ Hid (OGrow rowR 51 wo.heap.size mm wr l (rs.take j)) ∧ Hid (Below wo.heap.size wo wr)) (fun i _ _ => rs.length - (intOf i).toNat)
      case atStart => exact ⟨0, _, Nat.zero_le _, rfl, HO1, (Below.refl _ _).alloc (Nat.le_refl _) _⟩
      case round =>
        obtain ⟨l, hl⟩ : ∃ l, l = u5 := ⟨_, rfl⟩
        subst hl
        obtain ⟨j, mm, hj, rfl, HOl, HBl⟩ := hrel
        have hz : wo.heap.size ≤ wr.heap.size := HBl.out.size
        have k0' : wr.cell? ⟨b, off + k * 3, none⟩ = some (.slice D0 rs.length e0) := (HBl.out.cell (p := ⟨b, off + k * 3, none⟩) hbl).trans k0
        by_cases hlt2 : j < rs.length
        · have HDq := Lib.hid (HD.out.keep (below_keeps HBl.out HFr.out))
          obtain ⟨rb, ro, rc, u, hv, hFrb, _, _, r0, r1, hi0, hu⟩ := HDq.out.rec_at hlt2
          obtain ⟨rfl, rfl⟩ : D0 = some ⟨rb, ro, none⟩ ∧ e0 = rc := by simpa using hv
          obtain ⟨Au, cu, rfl, hu1_⟩ := id hu
          have hsr : rs[j].fields.length ≤ 2000000 := HSM.out _ (List.getElem_mem hlt2)
          have HT2 := Lib.hid (take_push hlt2)
          have hFq : ∀ b, F b → b < wr.heap.size := fun b hb => Nat.lt_of_lt_of_le (HFr.out b hb) hz
          have hbl2 := hFq rb hFrb
          have hbl3 : b < wr.heap.size := Nat.lt_of_lt_of_le hbl hz
          have i2 : (0 : Int) ≤ j := by omega
          have i3 : (j : Int) < rs.length := by omega
          clear hu1_
          generalize rs[j] = r at *
          have hmm := HOl.out.m_le
          obtain ⟨wR, hwR⟩ : ∃ wR, wR = wr.alloc (.cells #[.int .i64 r.able, .slice Au r.fields.length cu] 51) := ⟨_, rfl⟩
          have hBR : Blk wR wr.heap.size 51 #[.int .i64 r.able, .slice Au r.fields.length cu] := by rw [hwR]; exact Blk.new _ _ _
          have hWR : Below wr.heap.size wr wR := by rw [hwR]; exact (Below.refl _ _).alloc (Nat.le_refl _) _
          have hsR : wR.heap.size = wr.heap.size + 1 := by rw [hwR]; simp
          obtain ⟨wA, hwA⟩ : ∃ wA, wA = (wR.alloc (.cells #[] 9)).drew := ⟨_, rfl⟩
          have hWA : Below wR.heap.size wR wA := by rw [hwA]; exact ((Below.refl _ _).alloc (Nat.le_refl _) _).drew
          have hsA : wA.heap.size = wR.heap.size + 1 := by rw [hwA]; simp
          have hUA : Cod.str.Sl F wA (.slice Au r.fields.length cu) r.fields := (hu.keep (below_keeps hWR hFq)).keep fun b hb => hWA.block b (by have := hFq b hb; omega)
          obtain ⟨A1, c1, wB, happ1, hM1⟩ := append_clone (P := Tryd.prog) flat_str 49 49 9 _ 1 16 Tryd.underlying49 info_str rfl (by omega) F _ r.fields wA hUA hsr wR.heap.size
          have hsB := hM1.2.size
          obtain ⟨wC, hwC⟩ : ∃ wC, wC = wB.alloc (.cells #[.int .i64 r.able, .slice A1 r.fields.length c1] 51) := ⟨_, rfl⟩
          have hWC : Below wB.heap.size wB wC := by rw [hwC]; exact (Below.refl _ _).alloc (Nat.le_refl _) _
          have hsC : wC.heap.size = wB.heap.size + 1 := by rw [hwC]; simp
          have hBC : Blk wC wB.heap.size 51 [.int .i64 r.able, .slice A1 r.fields.length c1].toArray := by rw [hwC]; exact Blk.new _ _ _
          have hkq : ∀ b, b < wr.heap.size → wC.heap[b]? = wr.heap[b]? := fun b hb => (hWC.block b (by omega)).trans ((hM1.2.block b (by omega)).trans ((hWA.block b (by omega)).trans (hWR.block b hb)))
          have hOC : OGrow rowR 51 wo.heap.size mm wC l (rs.take j) := HOl.out.keep (by omega) fun b _ g2 => hkq b (by omega)
          obtain ⟨g, cap2, wE, happ2, hG, hgr⟩ := OGrow.push (P := Tryd.prog) 40 40 _ 2 32 Tryd.underlying40 info_rec rfl rfl (by omega) (by omega) hOC (by rw [List.length_take]; omega) wA.heap.size wB.heap.size wB.heap.size 1 [.int .i64 r.able, .slice A1 r.fields.length c1] r hBC (fun u hu => by
              rcases List.mem_cons.1 hu with rfl | hu
              · rfl
              · rcases List.mem_cons.1 hu with rfl | hu
                · rfl
                · cases hu) (by omega) hsB (by omega) ⟨_, rfl, hi0, hM1.1.keep fun b g1 g2 => hWC.block b g2⟩
          have e1 : (rs.take j).length = j := by rw [List.length_take]; omega
          rw [e1] at happ2 hG
          have hgs := hgr.size
          have hown : ∀ g', l.ownBlock = some g' → g' < mm := by obtain ⟨_, _, _, _, _, hh, _⟩ := HOl.out; exact hh
          have HBE := Lib.hid (show Below wo.heap.size wo wE from ⟨hgr.os.trans (hWC.os.trans (hM1.2.os.trans (hWA.os.trans (hWR.os.trans HBl.out.os)))), hgr.tape.trans (hWC.tape.trans (hM1.2.tape.trans (hWA.tape.trans (hWR.tape.trans HBl.out.tape)))), hgr.output.trans (hWC.output.trans (hM1.2.output.trans (hWA.output.trans (hWR.output.trans HBl.out.output)))), by omega, fun b hb => (hgr.block b (by omega) fun he => by
              obtain ⟨us, ho, _⟩ := HOl.out
              have := (ho.lt b he.symm).1
              omega).trans ((hkq b (by omega)).trans (HBl.out.block b hb))⟩)
          have HGE := Lib.hid hG
          have HS1 := Lib.hid (show wR.drew.cell? ⟨wr.heap.size, 0, none⟩ = some (.int .i64 r.able) ∧ wR.drew.cell? ⟨wr.heap.size, 1, none⟩ = some (.slice Au r.fields.length cu) from ⟨hBR.cell0, hBR.cell1⟩)
          have hBA := hBR.below hWA (by omega)
          have HS2 := Lib.hid (show wA.cell? ⟨wr.heap.size, 0, none⟩ = some (.int .i64 r.able) ∧ wA.cell? ⟨wr.heap.size, 1, none⟩ = some (.slice Au r.fields.length cu) from ⟨hBA.cell0, hBA.cell1⟩)
          have hBB := hBA.below hM1.2 (by omega)
          have HS3 := Lib.hid (show wB.cell? ⟨wr.heap.size, 0, none⟩ = some (.int .i64 r.able) ∧ wB.cell? ⟨wr.heap.size, 1, none⟩ = some (.slice Au r.fields.length cu) from ⟨hBB.cell0, hBB.cell1⟩)
          have hBCC := hBB.below hWC (by omega)
          have HS4 := Lib.hid (show wC.cell? ⟨wr.heap.size, 0, none⟩ = some (.int .i64 r.able) ∧ wC.cell? ⟨wr.heap.size, 1, none⟩ = some (.slice Au r.fields.length cu) from ⟨hBCC.cell0, hBCC.cell1⟩)
          have hBE : Blk wE wr.heap.size 51 #[.int .i64 r.able, .slice Au r.fields.length cu] := (hgr.block _ (by omega) fun he => by have := hown _ he.symm; omega).trans hBCC
          have HS5 := Lib.hid (show wE.cell? ⟨wr.heap.size, 0, none⟩ = some (.int .i64 r.able) ∧ wE.cell? ⟨wr.heap.size, 1, none⟩ = some (.slice Au r.fields.length cu) from ⟨hBE.cell0, hBE.cell1⟩)
          rw [hwA] at happ1 HS2
          rw [hwC] at happ2 HS4
          have HwR := Lib.hid hwR
          clear hv hu hwR hwA hwC hBR hWR hsR hWA hsA hUA hM1 hsB hWC hsC hBC hkq hOC hG hgr hgs hown hBA hBB hBCC hBE
          go_upto_region 10 with fail
          rw [← HwR.out]
          go_region_held3 (fun w' => w'.cell? ⟨wr.heap.size, 0, none⟩ = some (.int .i64 r.able) ∧ w'.cell? ⟨wr.heap.size, 1, none⟩ = some (.slice Au r.fields.length cu)) (first | with_reducible exact HS1.out | with_reducible exact HS2.out | with_reducible exact HS3.out | with_reducible exact HS4.out | with_reducible exact HS5.out) (first
            | (refine step_append_run rfl _ _ _ rfl rfl rfl happ1 ?_)
            | (refine step_append_run rfl _ _ _ rfl rfl rfl happ2 ?_))
          go_wp2
          go_roundw
          case rel => exact ⟨j + 1, _, by omega, by go_num, by rw [HT2.out]; exact HGE, HBE⟩
          case measure => simp [intOf]; omega
        · obtain rfl : j = rs.length := by omega
          have hmm := HOl.out.m_le
          have hol := HOl.out.own
          obtain ⟨Al, cl, hl_, _⟩ := HOl.out.own.len_
          rw [List.take_length] at hl_
          subst hl_
          have hol := HOl.out.own
          rw [List.take_length] at hol
          have hone : (Value.slice Al rs.length cl).oneCell' = true := rfl
          have hm := HO.out.m_le
          obtain ⟨wC, hwC⟩ : ∃ wC, wC = wr.alloc (.cells #[.slice Al rs.length cl] 40) := ⟨_, rfl⟩
          have hWC : Below wr.heap.size wr wC := by rw [hwC]; exact (Below.refl _ _).alloc (Nat.le_refl _) _
          have hsC : wC.heap.size = wr.heap.size + 1 := by rw [hwC]; simp
          have hBC : Blk wC wr.heap.size 40 [.slice Al rs.length cl].toArray := by rw [hwC]; exact Blk.new _ _ _
          obtain ⟨g, cap2, wE, happ, hG, hgr⟩ := OGrow.push (P := Tryd.prog) (c := rowRR) 37 37 _ 1 24 Tryd.underlying37 info_recs rfl rfl (by omega) (by omega) (HO.out.keep (by omega) fun b _ g2 => (hWC.block b (by omega)).trans (HBl.out.block b (by omega))) (by rw [List.length_take]; omega) wo.heap.size mm wr.heap.size 1 [.slice Al rs.length cl] rs hBC (fun u hu => by
              rcases List.mem_cons.1 hu with rfl | hu
              · exact hone
              · cases hu) (by omega) hmm.1 (by omega) ⟨_, rfl, hol.keep fun b g1 g2 => hWC.block b (by omega)⟩
          have e1 : ((kindsOf xs).take k).length = k := by rw [List.length_take, kindsOf_length]; omega
          rw [e1] at happ hG
          have hgs := hgr.size
          have HBE := Lib.hid (show Below w.heap.size w wE from ⟨hgr.os.trans (hWC.os.trans (HBl.out.os.trans HB.out.os)), hgr.tape.trans (hWC.tape.trans (HBl.out.tape.trans HB.out.tape)), hgr.output.trans (hWC.output.trans (HBl.out.output.trans HB.out.output)), by have := HB.out.size; omega, fun b hb => (hgr.block b (by have := HB.out.size; omega) fun he => by
              obtain ⟨us, ho, _⟩ := HO.out
              have := (ho.lt b he.symm).1
              omega).trans ((hWC.block b (by have := HB.out.size; omega)).trans ((HBl.out.block b (by have := HB.out.size; omega)).trans (HB.out.block b hb)))⟩)
          have HGE := Lib.hid hG
          rw [hwC] at happ
          clear hwC hWC hsC hBC hG hgr hgs hol hone
          go_wp2_with (at_builtin; go_loud (refine wpList_append_run rfl _ _ _ rfl rfl rfl happ ?_))
          go_roundw
          case rel => exact ⟨k + 1, _, by omega, by go_num, by rw [HK.out]; exact HGE, HBE⟩
          case measure => simp [intOf]; omega
    · obtain rfl : k = xs.length := by omega
      obtain ⟨Ao, co, rfl, _⟩ := HO.out.own.len_
      have hm := HO.out.m_le
      have HQ := Lib.hid (show MadeO rowRR 40 w wo (.slice Ao ((kindsOf xs).take xs.length).length co) (kindsOf xs) from ⟨by have := HO.out.own.mono (Nat.le_refl _) hm.2; rwa [kindsOf_all] at this ⊢, HB.out⟩)
      have hl : ((kindsOf xs).take xs.length).length = xs.length := by rw [kindsOf_all, kindsOf_length]
      rw [hl] at HQ
      go_wp2
      go_ret
      exact ⟨Ao, co, congrArg (fun n => Ending.returned (.slice Ao n co)) hl, HQ.out⟩
end Go.Proofs.YthkdkefkgmmoiaaDoor

namespace Go.Proofs.YthkdkefkgmmoiaaDoor
open Go.RowKit

theorem made_nil (n : Nat) : ∀ i, i < n → (madeCells #[.slice none 0 0] n)[i]? = some (.slice none 0 0) := by
  intro i hi
  simp [madeCells, hi, Nat.mod_one]

set_option maxRecDepth 100000 in
set_option maxHeartbeats 16000000 in
theorem implShelfKinds_any (F : Nat → Prop) (v : Value) (xs : List ModR) (w : World) (h : Cod.modr.Sl F w v xs) (hF : ∀ b, F b → b < w.heap.size) (hn : xs.length ≤ 2000000) (hsm : ∀ x ∈ xs, SmolModr x) :
    Calls Tryd.prog 17 #[v] w (KindsD xs w) := by
  have HS := Lib.hid h
  have HF := Lib.hid hF
  have HM := Lib.hid hsm
  obtain ⟨A, cap, rfl, hlc, hcm, _⟩ := h
  unfold maxLen at hcm
  have hmk := make_len (P := Tryd.prog) 37 40 _ 1 24 Tryd.underlying37 info_recs (by omega) xs.length hn
  clear hsm hF
  go_enter Tryd.func17, Tryd.ntmps17
  go_wp2
  go_loopw [13] (fun i wr => ∃ (k : Nat) (cs : Array Value), k ≤ xs.length ∧ i = .int .i64 k ∧ Hid (Blk wr w.heap.size 40 cs) ∧ cs.size = xs.length ∧ Hid (∀ i, k ≤ i → i < xs.length → cs[i]? = some (.slice none 0 0)) ∧ Hid (OPart rowRR w.heap.size wr cs k (kindsOf xs)) ∧ Hid (Below w.heap.size w wr)) (fun i _ => xs.length - (intOf i).toNat)
  case atStart => exact ⟨0, _, Nat.zero_le _, rfl, Blk.new _ _ _, by simp [madeCells], fun i _ hi => made_nil xs.length i hi, OPart.zero (by simp), (Below.refl _ _).alloc (Nat.le_refl _) _⟩
  case round =>
    obtain ⟨k, cs, hk, rfl, HB, hcs, HN, HP, HE⟩ := hrel
    obtain ⟨wo, hwo⟩ : ∃ wo, wo = wr := ⟨_, rfl⟩
    subst hwo
    have hKo := HB.out.lt
    by_cases hlt : k < xs.length
    · have HSr := Lib.hid (HS.out.keep (below_keeps HE.out HF.out))
      obtain ⟨b, off, cap', D0, e0, D1, e1, D2, e2, hv, hFb, _, _, k0, k1, k2, hd⟩ := HSr.out.modr_at hlt
      obtain ⟨rfl, rfl⟩ : A = some ⟨b, off, none⟩ ∧ cap = cap' := by simpa using hv
      have HD := Lib.hid hd.records
      have hmd := HM.out _ (List.getElem_mem hlt)
      have hrn := hmd.1
      have HSM := Lib.hid hmd.2.2.2.1
      have HFo := Lib.hid (show ∀ b, F b → b < w.heap.size from HF.out)
      have i0 : (0 : Int) ≤ k := by omega
      have i1 : (k : Int) < xs.length := by omega
      have hbl : b < wo.heap.size := Nat.lt_of_lt_of_le (HF.out b hFb) HE.out.size
      have HK := Lib.hid (kindsOf_at hlt)
      have he0 : (xs[k].records.length : Int) ≤ e0 := by obtain ⟨_, _, h1, h2, _⟩ := HD.out; simp only [Value.slice.injEq] at h1; omega
      have he1 : e0 ≤ 2 ^ 63 - 1 := by obtain ⟨_, _, h1, h2, h3, _⟩ := HD.out; simp only [Value.slice.injEq] at h1; unfold maxLen at h3; omega
      generalize xs[k].records = rs at *
      have HO1 := Lib.hid (OGrow.nil (c := rowR) (t := 51) (w := wo.alloc (.cells #[.slice D0 rs.length e0, .slice D1 xs[k].funcs.length e1, .slice D2 xs[k].friends.length e2] 43)) (lo := wo.heap.size + 1) (by simp))
      obtain ⟨ws, hws⟩ : ∃ ws, ws = wo.alloc (.cells #[.slice D0 rs.length e0, .slice D1 xs[k].funcs.length e1, .slice D2 xs[k].friends.length e2] 43) := ⟨_, rfl⟩
      have hbs : Below wo.heap.size wo ws := by rw [hws]; exact (Below.refl _ _).alloc (Nat.le_refl _) _
      have hss : ws.heap.size = wo.heap.size + 1 := by rw [hws]; simp
      have HBs := Lib.hid (HB.out.below hbs hKo)
      have Hbs := Lib.hid hbs
      rw [← hws] at HO1
      have Hws := Lib.hid hws
      have HcN := Lib.hid (HN.out k (Nat.le_refl _) hlt)
      have Hrefl := Lib.hid (Wrote.refl w.heap.size (w.heap.size + 1) ws)
      clear hv hd hmd hmk hws hbs
      go_wp2
      rw [← Hws.out]
      go_loopw [21] (fun i wr => ∃ (j mm : Nat) (l : Value) (cs' : Array Value), j ≤ rs.length ∧ i = .int .i64 j ∧ Hid (Blk wr w.heap.size 40 cs') ∧ cs'.size = xs.length ∧ Hid (cs'[k]? = some l ∧ ∀ i, i ≠ k → cs'[i]? = cs[i]?) ∧ Hid (OGrow rowR 51 (wo.heap.size + 1) mm wr l (rs.take j)) ∧ Hid (Wrote w.heap.size (w.heap.size + 1) ws wr)) (fun i _ => rs.length - (intOf i).toNat)
      case atStart => exact ⟨0, _, _, cs, Nat.zero_le _, rfl, HBs, hcs, ⟨HcN.out, fun _ _ => rfl⟩, HO1, Hrefl⟩
      case round =>
        obtain ⟨j, mm, l, cs', hj, rfl, HBq, hcs', HC, HOl, HWq⟩ := hrel
        have hz : ws.heap.size ≤ wr.heap.size := HWq.out.size
        by_cases hlt2 : j < rs.length
        · have HDq := Lib.hid (HD.out.keep (w' := wr) fun b hb => by have h1 := HF.out b hb; exact (HWq.out.block b (by omega) (by omega)).trans (Hbs.out.block b (by omega)))
          obtain ⟨rb, ro, rc, u, hv, hFrb, _, _, r0, r1, hi0, hu⟩ := HDq.out.rec_at hlt2
          obtain ⟨rfl, rfl⟩ : D0 = some ⟨rb, ro, none⟩ ∧ e0 = rc := by simpa using hv
          obtain ⟨Au, cu, rfl, hu1_⟩ := id hu
          have hsr : rs[j].fields.length ≤ 2000000 := HSM.out _ (List.getElem_mem hlt2)
          have HT2 := Lib.hid (take_push hlt2)
          have hFq : ∀ b, F b → b < wr.heap.size := fun b hb => by have := HF.out b hb; omega
          have hbl2 := hFq rb hFrb
          have i2 : (0 : Int) ≤ j := by omega
          have i3 : (j : Int) < rs.length := by omega
          clear hu1_
          generalize rs[j] = r at *
          have hmm := HOl.out.m_le
          obtain ⟨Al, cl, rfl, hl1, hl2⟩ := HOl.out.own.len_
          have e1 : (rs.take j).length = j := by rw [List.length_take]; omega
          obtain ⟨wR, hwR⟩ : ∃ wR, wR = wr.alloc (.cells #[.int .i64 r.able, .slice Au r.fields.length cu] 51) := ⟨_, rfl⟩
          have hBR : Blk wR wr.heap.size 51 #[.int .i64 r.able, .slice Au r.fields.length cu] := by rw [hwR]; exact Blk.new _ _ _
          have hWR : Below wr.heap.size wr wR := by rw [hwR]; exact (Below.refl _ _).alloc (Nat.le_refl _) _
          have hsR : wR.heap.size = wr.heap.size + 1 := by rw [hwR]; simp
          have hBK := HBq.out.below hWR (by omega)
          have z0 := hBK.cell k
          rw [HC.out.1, e1] at z0
          have HCl := Lib.hid (clone_str F _ r.fields wR.drew (hu.keep (below_keeps hWR hFq)).drew (fun b hb => by have := hFq b hb; show b < wR.heap.size; omega) hsr)
          have HS1 := Lib.hid (show wR.drew.cell? ⟨wr.heap.size, 0, none⟩ = some (.int .i64 r.able) ∧ wR.drew.cell? ⟨wr.heap.size, 1, none⟩ = some (.slice Au r.fields.length cu) from ⟨hBR.cell0, hBR.cell1⟩)
          have HBR := Lib.hid (show Blk wR.drew wr.heap.size 51 #[.int .i64 r.able, .slice Au r.fields.length cu] from hBR)
          have HBK := Lib.hid (show Blk wR.drew w.heap.size 40 cs' from hBK)
          have hsRd : wR.drew.heap.size = wr.heap.size + 1 := hsR
          have HWRd := Lib.hid (show Below wr.heap.size wr wR.drew from hWR.drew)
          have HwR := Lib.hid hwR
          have Hi0 := Lib.hid hi0
          have hKr : w.heap.size < wr.heap.size := by omega
          have hKR : w.heap.size < wR.heap.size := by omega
          have hkcs : k < cs'.size := by omega
          have hown : ∀ g', (Value.slice Al (rs.take j).length cl).ownBlock = some g' → wo.heap.size + 1 ≤ g' ∧ g' < mm := fun g' hg' => by
            obtain ⟨us, ho, _, _, _, hh, _⟩ := HOl.out
            exact ⟨(ho.lt g' hg').1, hh g' hg'⟩
          have Hown := Lib.hid hown
          clear hv hu hwR hBR hWR hBK hsR hi0 hown
          obtain ⟨g0, g1⟩ := HS1.out
          have z0d : wR.drew.cell? ⟨w.heap.size, k, none⟩ = some (.slice Al j cl) := z0
          go_upto_region 8 with fail
          rw [← HwR.out]
          go_region_law (first
            | (refine step_append_run rfl _ _ _ rfl rfl rfl happ2 ?_)
            | (go_simp; go_at_call 33; (with_reducible refine HCl.out.mono ?_); rintro e wB ⟨A1, c1, rfl, hM1⟩; go_must (
                have hsB := hM1.2.size;
                have hBB := HBR.out.below hM1.2 (by omega);
                have y0 := hBB.cell0; have y1 := hBB.cell1;
                have hBKB := HBK.out.below hM1.2 (by omega);
                have z1 := hBKB.cell k;
                rw [HC.out.1, e1] at z1;
                obtain ⟨wC, hwC⟩ : ∃ wC, wC = wB.alloc (.cells #[.int .i64 r.able, .slice A1 r.fields.length c1] 51) := ⟨_, rfl⟩;
                have hWC : Below wB.heap.size wB wC := (by rw [hwC]; exact (Below.refl _ _).alloc (Nat.le_refl _) _);
                have hsC : wC.heap.size = wB.heap.size + 1 := (by rw [hwC]; simp);
                have hBC : Blk wC wB.heap.size 51 [.int .i64 r.able, .slice A1 r.fields.length c1].toArray := (by rw [hwC]; exact Blk.new _ _ _);
                have hkq : ∀ b, b < wr.heap.size → wC.heap[b]? = wr.heap[b]? := fun b hb => (hWC.block b (by omega)).trans ((hM1.2.block b (by omega)).trans (HWRd.out.block b hb));
                have hOC : OGrow rowR 51 (wo.heap.size + 1) mm wC (.slice Al (rs.take j).length cl) (rs.take j) := HOl.out.keep (by omega) (fun b _ g2 => hkq b (by omega));
                obtain ⟨g, cap2, wE, happ2, hG, hgr⟩ := OGrow.push (P := Tryd.prog) 40 40 _ 2 32 Tryd.underlying40 info_rec rfl rfl (by omega) (by omega) hOC (by omega) wR.drew.heap.size wB.heap.size wB.heap.size 1 [.int .i64 r.able, .slice A1 r.fields.length c1] r hBC (two_cells _ _) (by omega) hsB (by omega) ⟨_, rfl, Hi0.out, hM1.1.keep (fun b g1 g2 => hWC.block b g2)⟩;
                rw [e1] at happ2 hG;
                have hgs := hgr.size;
                have hBCC := hBB.below hWC (by omega);
                have hBE : Blk wE wr.heap.size 51 #[.int .i64 r.able, .slice Au r.fields.length cu] := (hgr.block _ (by omega) (fun he => by have := (Hown.out _ he.symm).2; omega)).trans hBCC;
                have hBKE : Blk wE w.heap.size 40 cs' := (hgr.block _ (by omega) (fun he => by have := (Hown.out _ he.symm).1; omega)).trans (hBKB.below hWC (by omega));
                have z3 := hBKE.cell k;
                rw [HC.out.1, e1] at z3;
                have f3 := hBKE.frozen k;
                have hBF : Blk (wE.setCell ⟨w.heap.size, k, none⟩ (.slice (some ⟨g, 0, none⟩) (j + 1) cap2)) wr.heap.size 51 #[.int .i64 r.able, .slice Au r.fields.length cu] := hBE.far (p := ⟨w.heap.size, k, none⟩) (by simp; omega) _;
                have HBF := Lib.hid (hBKE.set_ k (.slice (some ⟨g, 0, none⟩) (j + 1) cap2));
                have HGF := Lib.hid (hG.keep (w' := wE.setCell ⟨w.heap.size, k, none⟩ (.slice (some ⟨g, 0, none⟩) (j + 1) cap2)) (by simp [World.setCell]) (fun b g1 g2 => Below.heap_setCell _ _ _ _ (by simp; omega)));
                have HWF := Lib.hid ((show Wrote w.heap.size (w.heap.size + 1) ws wE from ⟨hgr.os.trans (hWC.os.trans (hM1.2.os.trans (HWRd.out.os.trans HWq.out.os))), hgr.tape.trans (hWC.tape.trans (hM1.2.tape.trans (HWRd.out.tape.trans HWq.out.tape))), hgr.output.trans (hWC.output.trans (hM1.2.output.trans (HWRd.out.output.trans HWq.out.output))), (by omega), fun b hb hn => (hgr.block b (by omega) (fun he => by have := (Hown.out _ he.symm).1; omega)).trans ((hkq b (by omega)).trans (HWq.out.block b hb hn))⟩).trans (Wrote.set_ (b := w.heap.size) (o := k) (Nat.le_refl _) (by omega) (.slice (some ⟨g, 0, none⟩) (j + 1) cap2)));
                rw [hwC] at happ2;
                have hKB : w.heap.size < wB.heap.size := (by omega);
                clear hsB hBB hBKB hwC hWC hsC hBC hkq hOC hG hgr hgs hBCC hBE hBKE hBF hM1)))
          all_goals
            go_wp2
            go_roundw
            case rel => exact ⟨j + 1, _, _, _, by omega, by go_num, HBF, by rw [Array.size_setIfInBounds]; exact hcs', ⟨by rw [Array.getElem?_setIfInBounds_self_of_lt (by omega)], fun i hi => by rw [Array.getElem?_setIfInBounds_ne (Ne.symm hi)]; exact HC.out.2 i hi⟩, by rw [HT2.out]; exact HGF, HWF⟩
            case measure => simp [intOf]; omega
        · obtain rfl : j = rs.length := by omega
          have hmm := HOl.out.m_le
          have hol := HOl.out.own
          rw [List.take_length] at hol
          have HH := Lib.hid (OPart.next (w' := wr) (cs' := cs') (news := [l]) HP.out (by rw [kindsOf_length]; exact hlt) (fun i h1 h2 => (HWq.out.block i (by omega) (by omega)).trans (Hbs.out.block i h2)) (by omega)
            (fun i hi => HC.out.2 i (by have : i < k * 1 := hi; omega)) (fun q u hu => by
              match q, hu with
              | 0, hu => simp at hu; subst hu; show cs'[k * 1 + 0]? = _; rw [Nat.mul_one]; exact HC.out.1
              | q + 1, hu => simp at hu) ⟨l, rfl, by rw [HK.out]; exact hol.mono (by omega) hmm.2⟩)
          have HEE := Lib.hid (show Below w.heap.size w wr from (HE.out.trans (Hbs.out.mono (by omega))).trans (Wrote.to_below HWq.out (Nat.le_refl _) (by omega)))
          clear hol
          go_wp2
          go_roundw
          case rel => exact ⟨k + 1, cs', by omega, by go_num, HBq, hcs', fun i h1 h2 => (HC.out.2 i (by omega)).trans (HN.out i (by omega) h2), HH, HEE⟩
          case measure => simp [intOf]; omega
    · obtain rfl : k = xs.length := by omega
      have hP := HP.out
      rw [← kindsOf_length xs] at hP
      have HQ := Lib.hid (show MadeO rowRR 40 w wo (.slice (some ⟨w.heap.size, 0, none⟩) xs.length xs.length) (kindsOf xs) from ⟨by have := hP.own (t := 40) (cap := xs.length) HB.out (Nat.le_refl _) (by rw [kindsOf_length]; exact Nat.le_refl _) (by unfold maxLen; omega); rw [kindsOf_length] at this; exact this, HE.out⟩)
      clear hP hmk
      go_wp2
      go_ret
      exact ⟨_, _, rfl, HQ.out⟩
end Go.Proofs.YthkdkefkgmmoiaaDoor
