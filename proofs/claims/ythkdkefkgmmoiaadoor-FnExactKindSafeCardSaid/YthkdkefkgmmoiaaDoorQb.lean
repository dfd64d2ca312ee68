/- What can neither be copied nor dropped: the program's KindSafe. -/
import Derived.Test.YthkdkefkgmmoiaaDoorQa
namespace Go.Proofs.YthkdkefkgmmoiaaDoor
open Go.RowKit

theorem able_three : ∀ x : Fin 16, (bits .and .i64 (x.val : Int) 3 == 0) = (!canB (x.val : Int) 1 && !canB (x.val : Int) 2) := by decide +kernel
theorem able_none {x : Int} (h0 : 0 ≤ x) (h1 : x ≤ 15) : (bits .and .i64 x 3 == 0) = (!canB x 1 && !canB x 2) := by
  have := able_three ⟨x.toNat, by omega⟩
  simpa [Int.toNat_of_nonneg h0] using this
theorem ableT_kind {ks : Ks} {t : ByteArray} {m k : Nat} (h : kindOf t = some (m, k)) : ableT ks t = (recAt ks m k).able := by
  have hr : refB t = false := by
    cases hr : refB t with
    | false => rfl
    | true => rw [kindOf_ref hr] at h; cases h
  have ha : amp t = false := amp_no hr
  unfold ableT
  rw [if_neg (by rw [ha]; decide), if_neg (by rw [hr]; decide), h]

set_option maxRecDepth 100000 in
set_option maxHeartbeats 8000000 in
theorem implKindSafe_any (T : Nat → Prop) (tv : Value) (F : Nat → Prop) (v : Value) (xs : List ModR) (t : ByteArray) (w : World) (hT : ITab T w tv) (hTF : ∀ b, T b → b < w.heap.size) (h : Cod.modr.Sl F w v xs) (hF : ∀ b, F b → b < w.heap.size) (hn : xs.length ≤ 2000000) (hsm : ∀ x ∈ xs, SmolModr x) :
    Calls Tryd.prog 7 #[v, .string t] w fun e w' => e = .returned (.bool (safeB xs t)) ∧ Below w.heap.size w w' := by
  have HS := Lib.hid h
  have HF := Lib.hid hF
  have HM := Lib.hid hsm
  have HT := Lib.hid hT
  have HTF := Lib.hid hTF
  have HC := Lib.hid (implShelfKinds_any F v xs w h hF hn hsm)
  obtain ⟨A, cap, rfl, _⟩ := h
  clear hF hsm hT hTF
  go_enter Tryd.func7, Tryd.ntmps7
  go_wp2_with fail
  refine HC.out.mono ?_
  rintro e w1 ⟨A', c', rfl, hO, hb⟩
  have HK := Lib.hid (tableOf_any (fun b => w.heap.size ≤ b ∧ b < w1.heap.size) _ (kindsOf xs) w1 (by have := hO.sl; rw [← kindsOf_length xs] at this; exact this) (fun b hb => hb.2))
  have HB1 := Lib.hid hb
  rw [kindsOf_length] at HK
  clear hO hb HC
  go_wp2_with fail
  refine HK.out.mono ?_
  rintro e w2 ⟨hb, ⟨hk, rfl⟩ | ⟨hk, b, l, rfl, hm, ht, hbl⟩⟩
  · have HR := Lib.hid (show safeB xs t = false by unfold safeB shapeB; rw [hk]; rfl)
    have HB := Lib.hid (HB1.out.trans (hb.mono HB1.out.size))
    clear hk hb
    go_wp2
    go_ret
    exact ⟨ret_bool HR.out.symm, HB.out⟩
  · have hb2 := HB1.out.trans (hb.mono HB1.out.size)
    have HT2 := Lib.hid (show Table (fun b => w.heap.size ≤ b ∧ b < w1.heap.size) (kindsOf xs) b w2 from ⟨l, hm.imp (fun _ _ h => h.keep (fun b hb' => hb.block b hb'.2)), ht⟩)
    have HSh := Lib.hid (show Calls Tryd.prog 18 #[.slice A xs.length cap] w2 fun e w' => e = .returned (.bool (shapeB xs)) ∧ Below w2.heap.size w2 w' by
      rw [← shape_eq]; exact implShelfShape_any T tv F _ xs w2 (HT.out.keep (below_keeps hb2 HTF.out)) (below_goQ HTF.out hb2) (HS.out.keep (below_keeps hb2 HF.out)) (below_goQ HF.out hb2) hn HM.out)
    have HB2 := Lib.hid hb2
    have Hl := Lib.hid (show ∀ b, w.heap.size ≤ b ∧ b < w1.heap.size → b < w2.heap.size from fun b hb' => by have := hb.size; omega)
    clear hb hb2 hm ht
    cases hs : shapeB xs with
    | false =>
      have HR := Lib.hid (show safeB xs t = false by unfold safeB; rw [hs]; rfl)
      rw [hs] at HSh
      clear hs hk
      go_wp2_with fail
      refine HSh.out.mono ?_
      rintro e w3 ⟨rfl, hb⟩
      have HB3 := Lib.hid (HB2.out.trans (hb.mono HB2.out.size))
      clear hb
      go_wp2
      go_ret
      exact ⟨ret_bool HR.out.symm, HB3.out⟩
    | true =>
      rw [hs] at HSh
      go_wp2_with fail
      refine HSh.out.mono ?_
      rintro e w3 ⟨rfl, hb⟩
      have HB3 := Lib.hid (HB2.out.trans (hb.mono HB2.out.size))
      have hT3 : Table (fun b => w.heap.size ≤ b ∧ b < w1.heap.size) (kindsOf xs) b w3 := HT2.out.keep (fun b hb' => hb.block b (Hl.out b hb')) (hb.block b HT2.out.lt)
      clear hb
      rcases hT3.find Tryd.underlying46 Tryd.underlying9 _ (zero_rec _) t with ⟨g1, g2⟩ | ⟨mm, kk, A1, c1, hkn, hh, hS, hI, g2⟩
      · have HR := Lib.hid (show safeB xs t = false by
          unfold safeB isKindB
          cases hq : kindOf t with
          | none => rw [hs]; rfl
          | some mk =>
            have := g1 mk.1 mk.2 hq
            rw [hs]
            show (true && (hasB _ mk.1 mk.2 && _)) = false
            rw [this]; rfl)
        clear hT3 g1 hs hk
        go_wp2
        go_ret
        exact ⟨ret_bool HR.out.symm, HB3.out.alloc HB3.out.size _⟩
      · have hkb : isKindB (kindsOf xs) t = true := by unfold isKindB; rw [hkn]; exact hh
        have hin := able_in hk hkb
        rw [ableT_kind hkn] at hin
        have HR := Lib.hid (show safeB xs t = (bits .and .i64 (recAt (kindsOf xs) mm kk).able 3 == 0) by
          rw [able_none hin.1 hin.2]; unfold safeB; rw [hs, hkb, ableT_kind hkn]; rfl)
        generalize (recAt (kindsOf xs) mm kk).able = ab at *
        clear hT3 hs hk hkn hh hS hI hkb hin
        go_wp2
        go_ret
        exact ⟨ret_bool HR.out.symm, HB3.out.alloc HB3.out.size _⟩
end Go.Proofs.YthkdkefkgmmoiaaDoor
