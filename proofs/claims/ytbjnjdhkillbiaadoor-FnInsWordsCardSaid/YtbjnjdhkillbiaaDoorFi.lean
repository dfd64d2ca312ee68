/- Lists of texts compared and searched; the law of InsWords, walked. -/
import Derived.Test.YtbjnjdhkillbiaaDoorItk
import Derived.Test.YtbjnjdhkillbiaaDoorItg
import Derived.Test.YtbjnjdhkillbiaaDoorDrawb
import Derived.Deep.DeepCutAuto
namespace Go.Proofs.YtbjnjdhkillbiaaDoor
open Go.RowKit

set_option maxHeartbeats 400000 in
theorem hlTexts_any (F : Nat → Prop) (v v' : Value) (xs : List ByteArray) (w : World) (h : Cod.str.Sl F w v xs) (h' : Cod.str.Sl F w v' xs) :
    Calls Tryd.prog 27 #[v, v'] w fun e w' => e = .returned (.bool true) ∧ Below w.heap.size w w' := by
  have HS := Lib.hid h
  have HS' := Lib.hid h'
  obtain ⟨A, cap, rfl, hlc, hcm, _⟩ := h
  obtain ⟨A', cap', rfl, hlc', hcm', _⟩ := h'
  unfold maxLen at hcm hcm'
  go_enter Tryd.func27, Tryd.ntmps27
  go_wp2
  go_loopw [5] (fun i wr => ∃ (k n : Nat), k ≤ xs.length ∧ i = .int .i64 k ∧ wr = w.drewN n) (fun i _ => xs.length - (intOf i).toNat)
  case atStart => exact ⟨0, 0, Nat.zero_le _, rfl, rfl⟩
  case round =>
    obtain ⟨k, n, hk, rfl, rfl⟩ := hrel
    by_cases hlt : k < xs.length
    · obtain ⟨b, off, c1, hv, _, _, _, hc0, hs0⟩ := HS.out.str_at hlt
      obtain ⟨rfl, rfl⟩ : A = some ⟨b, off, none⟩ ∧ cap = c1 := by simpa using hv
      obtain ⟨b', off', c1', hv', _, _, _, hc0', hs0'⟩ := HS'.out.str_at hlt
      obtain ⟨rfl, rfl⟩ : A' = some ⟨b', off', none⟩ ∧ cap' = c1' := by simpa using hv'
      clear hv hv'
      have i0 : (0 : Int) ≤ k := by omega
      have i1 : (k : Int) < xs.length := by omega
      go_wp2
      go_quiet (fail)
      go_wp2
      go_roundw
      case rel => exact ⟨k + 1, _, by omega, by go_num, rfl⟩
      case measure => simp [intOf]; omega
    · go_wp2
      go_ret
      exact ⟨rfl, below_drewN (Below.refl _ _) _⟩

set_option maxHeartbeats 400000 in
theorem hlHas_any (F : Nat → Prop) (v : Value) (xs : List ByteArray) (s : ByteArray) (w : World) (h : Cod.str.Sl F w v xs) :
    Calls Tryd.prog 28 #[v, .string s] w fun e w' => e = .returned (.bool (hasW s xs)) ∧ w' = w := by
  have HS := Lib.hid h
  obtain ⟨A, cap, rfl, hlc, hcm, _⟩ := h
  unfold maxLen at hcm
  go_enter Tryd.func28, Tryd.ntmps28
  go_wp2
  go_loopw [5] (fun i wr => ∃ k : Nat, k ≤ xs.length ∧ i = .int .i64 k ∧ Hid (hasW s (xs.drop k) = hasW s xs) ∧ w = wr) (fun i _ => xs.length - (intOf i).toNat)
  case atStart => exact ⟨0, Nat.zero_le _, rfl, rfl, rfl⟩
  case round =>
    obtain ⟨k, hk, rfl, HH, hwr⟩ := hrel
    subst hwr
    by_cases hlt : k < xs.length
    · obtain ⟨b, off, c1, hv, _, _, _, hc0, hs0⟩ := HS.out.str_at hlt
      obtain ⟨rfl, rfl⟩ : A = some ⟨b, off, none⟩ ∧ cap = c1 := by simpa using hv
      have Hst := Lib.hid fun h => hasW_step hlt HH.out h
      have Hhit := Lib.hid fun h => hasW_hit hlt HH.out h
      generalize xs[k] = x at hc0 Hst Hhit
      clear hv
      have i0 : (0 : Int) ≤ k := by omega
      have i1 : (k : Int) < xs.length := by omega
      by_cases hx : (x.toList == s.toList) = true
      · have HR := Lib.hid (Hhit.out hx).1
        go_wp2
        go_ret
        exact ⟨ret_bool HR.out.symm, rfl⟩
      · have hx' : (x.toList == s.toList) = false := by simpa using hx
        go_wp2
        go_roundw
        case rel => exact ⟨k + 1, by omega, by go_num, Hst.out hx', trivial⟩
        case measure => simp [intOf]; omega
    · have HE := Lib.hid (hasW_end (k := k) (by omega) HH.out)
      go_wp2
      go_ret
      exact ⟨ret_bool HE.out.symm, rfl⟩

theorem words_ok : ∀ x ∈ allWords, insOk x 0 0 = true := by
  have : allWords.all (fun x => insOk x 0 0) = true := by decide +kernel
  exact fun x hx => List.all_eq_true.1 this x hx
theorem words_apart {k : Nat} (hk : k < allWords.length) : hasW allWords[k] (allWords.take k) = false := by
  have : (List.range 37).all (fun k => !hasW (allWords.getD k ⟨#[]⟩) (allWords.take k)) = true := by decide +kernel
  have h := List.all_eq_true.1 this k (List.mem_range.2 hk)
  rw [List.getD, List.getElem?_eq_getElem hk] at h
  simpa using h

set_option maxRecDepth 100000 in
set_option maxHeartbeats 4000000 in
theorem fnInsWords (F : Nat → Prop) (v : Value) (cv : Value) (xs : List Nat) (w : World) (h : Tab F w v) (hF : ∀ b, F b → b < w.heap.size) (hc : Cod.u8.Sl F w cv xs) :
    Calls Tryd.prog 7 #[cv] w fun e w' => e = .returned (.bool true) ∧ Below w.heap.size w w' := by
  have HT := Lib.hid h
  obtain ⟨cA, cc, rfl, hcn1, hcn2, _⟩ := hc
  obtain ⟨cn, hcn⟩ : ∃ cn, cn = xs.length := ⟨_, rfl⟩
  rw [← hcn] at hcn1 ⊢
  clear hcn
  unfold maxLen at hcn2
  clear h
  have hn0 : (0 : Int) ≤ cn := by omega
  by_cases hl : 1048576 < cn
  · go_enter Tryd.func7, Tryd.ntmps7
    go_wp2
    go_ret
    exact ⟨rfl, Below.refl _ _⟩
  · go_enter Tryd.func7, Tryd.ntmps7
    go_wp2_with fail
    refine (implInsWords_any F v w HT.out hF).mono ?_
    rintro e w1 ⟨A1, c1, rfl, hO1, hb1⟩
    have HO1 := Lib.hid hO1
    have HW1 := Lib.hid hb1
    clear hO1 hb1
    go_wp2_with fail
    refine (specInsWords_any w1).mono ?_
    rintro e w2 ⟨A2, c2, rfl, hO2, hb2⟩
    have HO2 := Lib.hid hO2
    have HB2 := Lib.hid hb2
    have HW2 := Lib.hid (HW1.out.trans (hb2.mono HW1.out.size))
    have HO1k := Lib.hid (HO1.out.keep (w' := w2) fun b _ hb => HB2.out.block b hb)
    clear hO2 hb2
    go_wp2_with fail
    refine (hlTexts_any (fun b => w.heap.size ≤ b ∧ b < w2.heap.size) _ _ allWords w2 (HO1k.out.mono (Nat.le_refl _) HB2.out.size).sl (HO2.out.mono HW1.out.size (Nat.le_refl _)).sl).mono ?_
    rintro e w3 ⟨rfl, hb3⟩
    have HB3 := Lib.hid hb3
    have hs13 : w1.heap.size ≤ w3.heap.size := Nat.le_trans HB2.out.size HB3.out.size
    have HS3 := Lib.hid (HO1k.out.keep (w' := w3) fun b _ hb => HB3.out.block b (Nat.lt_of_lt_of_le hb HB2.out.size)).sl
    have HW3 := Lib.hid (HW2.out.trans (hb3.mono HW2.out.size))
    clear hb3
    obtain ⟨_, _, _, hcap, hcm, _⟩ := HO1.out
    go_wp2_with fail
    go_loopw [5] (fun i wr => ∃ k : Nat, k ≤ 37 ∧ i = .int .i64 k ∧ Hid (Below w3.heap.size w3 wr)) (fun i _ => 37 - (intOf i).toNat)
    case atStart => exact ⟨0, by omega, rfl, Below.refl _ _⟩
    case round =>
      obtain ⟨k, hk, rfl, HBr⟩ := hrel
      have HSr := Lib.hid (HS3.out.keep (w' := wr) fun b hb => HBr.out.block b (by omega))
      by_cases hlt : k < 37
      · obtain ⟨b, off, c1', hv, hFb, hl1, hl2, hc0, hs0⟩ := HSr.out.str_at (k := k) (show k < allWords.length from hlt)
        obtain ⟨rfl, h37, rfl⟩ : A1 = some ⟨b, off, none⟩ ∧ 37 = allWords.length ∧ c1 = c1' := by simpa using hv
        have hok := words_ok allWords[k] (List.getElem_mem _)
        have hno := words_apart (k := k) (show k < allWords.length from hlt)
        have HTk := Lib.hid (Cod.Sl.take (n := k) HSr.out (show k ≤ allWords.length by show k ≤ 37; omega))
        generalize allWords[k]'(show k < allWords.length from hlt) = x at hc0 hok hno hs0
        have HWr := Lib.hid (HW3.out.trans (HBr.out.mono HW3.out.size))
        have HTd := Lib.hid (show Tab F wr.drew v from HT.out.keep (below_keeps HWr.out.drew hF))
        have HC1 := Lib.hid (implInsOk_any F v x 0 0 wr.drew HTd.out (fun b hb => Nat.lt_of_lt_of_le (hF b hb) HWr.out.size))
        rw [hok] at HC1
        have HC2 := Lib.hid fun (w' : World) (hb : Below wr.heap.size wr w') => hlHas_any _ _ _ x w' (HTk.out.keep (w' := w') fun b hb' => hb.block b (by have := hb'.2; have := HBr.out.size; omega))
        rw [hno] at HC2
        have hbl : b < wr.heap.size := by have := hFb.2; have := HBr.out.size; omega
        have hbd : b < wr.drew.heap.size := hbl
        have i0 : (0 : Int) ≤ k := by omega
        have i1 : (k : Int) < 37 := by omega
        have HBd := Lib.hid (show Below w3.heap.size w3 wr.drew from HBr.out.drew)
        have hl3 : 37 ≤ c1 := by rw [← h37] at hl1; exact hl1
        have hl4 : c1 ≤ 9223372036854775807 := hl2
        clear hv h37 hok hno hFb hl1 hl2
        go_wp2_with fail
        go_region_with (first
          | (go_at_call 17; (with_reducible refine HC1.out.mono ?_); rintro e w4 ⟨rfl, hb4⟩; go_must (have y0 : w4.cell? ⟨b, off + k, none⟩ = some (.string x) := (hb4.cell (p := ⟨b, off + k, none⟩) hbd).trans hc0; have HE4 := Lib.hid (HBd.out.trans (hb4.mono HBd.out.size)); have HC3 := Lib.hid (HC2.out w4 ((below_draw wr).trans hb4)); clear hb4))
          | (go_at_call 28; (with_reducible refine HC3.out.mono ?_); rintro e w5 ⟨rfl, rfl⟩))
        all_goals
          go_wp2_with fail
          go_roundw
          case rel => exact ⟨k + 1, by omega, by go_num, HE4⟩
          case measure => simp [intOf]; omega
      · have HWr := Lib.hid (HW3.out.trans (HBr.out.mono HW3.out.size))
        go_wp2_with fail
        go_ret
        exact ⟨rfl, HWr.out⟩
end Go.Proofs.YtbjnjdhkillbiaaDoor
