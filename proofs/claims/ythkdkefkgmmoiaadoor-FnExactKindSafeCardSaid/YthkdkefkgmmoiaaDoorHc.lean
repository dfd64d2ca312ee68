/- slices.Grow of nil, slices.Concat of rows of texts. -/
import Derived.Test.YthkdkefkgmmoiaaDoorItk
import Derived.Deep.Upon
import Derived.Lib.AppendZeros
namespace Go.Proofs.YthkdkefkgmmoiaaDoor
open Go.RowKit

def RowD (xs : List ByteArray) (w : World) (e : Ending) (w' : World) : Prop := ∃ v, e = .returned v ∧ OwnS w.heap.size w' v xs ∧ Below w.heap.size w w'

set_option maxRecDepth 100000 in
set_option maxHeartbeats 1000000 in
theorem grow_nil (n : Nat) (hn : n ≤ 4000000) (w : World) : Calls Tryd.prog 74 #[.slice none 0 0, .int .i64 n] w (RowD [] w) := by
  by_cases h0 : 0 < n
  · obtain ⟨i, hi0, hz0, hz1, hz2⟩ := info_parts info_str
    have happ := Lib.run_append_nil_zeros (P := Tryd.prog) w 49 3 49 9 i _ .i64 .i64 Tryd.underlying49 Tryd.underlying3 hi0 hz0 n h0 (by omega) (by omega) (by rw [hz2]; omega)
    have hge := grownCap_ge w n 0 9
    have hle := grownCap_le_maxLen w n 0 9 (by unfold maxLen; omega)
    obtain ⟨w2, hw2⟩ : ∃ w2, w2 = w.drew.alloc (.cells (Builtin.zeroCells (Value.string ByteArray.empty).cells n ++ Builtin.zeroCells (Value.string ByteArray.empty).cells (grownCap w n 0 9 - n)) 9) := ⟨_, rfl⟩
    have HQ := Lib.hid (show RowD [] w (.returned (.slice (some ⟨w.heap.size, 0, none⟩) 0 (grownCap w n 0 9))) w2 from ⟨_, rfl, by
      rw [hw2]
      exact World.ownsRow_made w.drew _ _ (Nat.le_refl _) hle (by simp [Builtin.zeroCells, Value.cells]; omega), by rw [hw2]; exact ((Below.refl _ _).drew).alloc (Nat.le_refl _) _⟩)
    have e2 : w.drew.alloc (.cells (Builtin.zeroCells (Value.string ByteArray.empty).cells n ++ Builtin.zeroCells (Value.string ByteArray.empty).cells (grownCap w n 0 9 - n)) 9) = w2 := hw2.symm
    rw [e2] at happ
    unfold maxLen at hle
    generalize grownCap w n 0 9 = c at *
    have i0 : (0 : Int) < n := by omega
    have i1 : (n : Int) ≤ c := by omega
    clear hw2 e2 hi0 hz0 hz1 hz2
    go_enter Tryd.func74, Tryd.ntmps74
    go_wp2_with (at_builtin; go_loud (refine Lib.wpList_append_run _ rfl _ _ _ _ rfl _ _ rfl rfl _ _ happ ?_))
    go_ret
    exact HQ.out
  · obtain rfl : n = 0 := by omega
    have HQ := Lib.hid (show RowD [] w (.returned (.slice none 0 0)) w from ⟨_, rfl, OwnS.nil_ _ _, Below.refl _ _⟩)
    go_enter Tryd.func74, Tryd.ntmps74
    go_wp2
    go_ret
    exact HQ.out

theorem OwnS.row0 {B : Nat} {w : World} {v : Value} {xs : List ByteArray} (h : OwnS B w v xs) (A : Option Addr) (cap : Nat) :
    (Builtin.append_ #[49, 49] 49 #[v, .slice A 0 cap]).run Tryd.prog w = .ok v w := by
  obtain ⟨i, hi0, hz0, hz1, hz2⟩ := info_parts info_str
  have hsrc : Src Tryd.prog i.size 49 (.slice A 0 cap) 0 [] w := by
    cases A with
    | none => exact Src.ofNil w Tryd.underlying49 cap
    | some a => exact Src.ofSlice w Tryd.underlying49 a 0 cap [] (by simp) (fun j u hu => by simp at hu) (fun u hu => by simp at hu)
  rcases h.2 with ⟨rfl, _⟩ | ⟨g, cp, cur, rfl, hg, hh, hl, _⟩
  · exact run_append_nothing w _ _ _ _ i Tryd.underlying49 hi0 none 0 0 (Nat.le_refl _) _ hsrc
  · exact run_append_nothing w _ _ _ _ i Tryd.underlying49 hi0 (some ⟨g, 0, none⟩) xs.length cp hl _ hsrc
theorem OwnS.any {F : Nat → Prop} {B : Nat} {w : World} {v u : Value} {xs ys : List ByteArray} (h : OwnS B w v xs) (hB : B ≤ w.heap.size) (hn : xs.length ≤ 4000000) (hm : ys.length ≤ 4000000) (hy : Cod.str.Sl F w u ys) :
    ∃ v' w', (Builtin.append_ #[49, 49] 49 #[v, u]).run Tryd.prog w = .ok v' w' ∧ OwnS B w' v' (xs ++ ys) ∧ Below B w w' := by
  by_cases h0 : 0 < ys.length
  · exact h.row hB hn hm hy h0
  · obtain rfl : ys = [] := List.eq_nil_of_length_eq_zero (by omega)
    obtain ⟨A, cap, rfl, _⟩ := hy
    exact ⟨v, w, h.row0 A cap, by rw [List.append_nil]; exact h, Below.refl _ _⟩

def lens (xss : List (List ByteArray)) : Nat := (xss.map List.length).sum
theorem lens_take {xss : List (List ByteArray)} {k : Nat} (h : k < xss.length) : lens (xss.take (k + 1)) = lens (xss.take k) + xss[k].length := by
  unfold lens; rw [List.take_succ_eq_append_getElem h, List.map_append, List.sum_append]; simp
theorem lens_le {xss : List (List ByteArray)} (k : Nat) : lens (xss.take k) ≤ lens xss := by
  have h : lens xss = lens (xss.take k) + lens (xss.drop k) := by
    unfold lens; rw [← List.sum_append, ← List.map_append, List.take_append_drop]
  omega
theorem flatten_take {xss : List (List ByteArray)} {k : Nat} (h : k < xss.length) : (xss.take (k + 1)).flatten = (xss.take k).flatten ++ xss[k] := by
  rw [List.take_succ_eq_append_getElem h, List.flatten_append]; simp
theorem flatten_len (xss : List (List ByteArray)) : xss.flatten.length = lens xss := by unfold lens; rw [List.length_flatten]

set_option maxRecDepth 100000 in
set_option maxHeartbeats 2000000 in
theorem concat_any (F : Nat → Prop) (v : Value) (xss : List (List ByteArray)) (w : World) (h : Cod.str.sl.Sl F w v xss) (hF : ∀ b, F b → b < w.heap.size) (hl : lens xss ≤ 4000000) :
    Calls Tryd.prog 63 #[v] w (RowD xss.flatten w) := by
  have HS := Lib.hid h
  have HF := Lib.hid hF
  obtain ⟨A, cap, rfl, hlc, hcm, _⟩ := h
  unfold maxLen at hcm
  have HG := Lib.hid (grow_nil (lens xss) (by omega) w)
  clear hF
  go_enter Tryd.func63, Tryd.ntmps63
  go_wp2
  go_loopw [3, 11] (fun s i wr => ∃ (k : Nat), k ≤ xss.length ∧ i = .int .i64 k ∧ s = .int .i64 (lens (xss.take k) : Nat) ∧ w = wr) (fun _ i _ => xss.length - (intOf i).toNat)
  case atStart => exact ⟨0, Nat.zero_le _, rfl, rfl, rfl⟩
  case round =>
    obtain ⟨k, hk, rfl, rfl, hwr⟩ := hrel
    subst hwr
    by_cases hlt : k < xss.length
    · obtain ⟨b, off, c1, u, hv, _, _, _, hc0, hu⟩ := HS.out.sl_at hlt
      obtain ⟨rfl, rfl⟩ : A = some ⟨b, off, none⟩ ∧ cap = c1 := by simpa using hv
      obtain ⟨Au, cu, rfl, _⟩ := hu
      have HN := Lib.hid (lens_take hlt)
      have hle := lens_le (xss := xss) (k + 1)
      rw [HN.out] at hle
      have i0 : (0 : Int) ≤ k := by omega
      have i1 : (k : Int) < xss.length := by omega
      have i2 : (0 : Int) ≤ (lens (xss.take k) : Nat) := by omega
      have i3 : ((lens (xss.take k) : Nat) : Int) + (xss[k].length : Int) ≤ 4000000 := by omega
      have i4 : (0 : Int) ≤ ((lens (xss.take k) : Nat) : Int) + (xss[k].length : Int) := by omega
      have i5 : decide (((lens (xss.take k) : Nat) : Int) + (xss[k].length : Int) < 0) = false := by rw [decide_eq_false_iff_not]; omega
      clear hv hle
      generalize lens (xss.take k) = a at *
      generalize xss[k].length = b at *
      go_wp2
      go_roundw
      case rel => exact ⟨k + 1, by omega, by go_num, by rw [HN.out]; go_num, trivial⟩
      case measure => simp [intOf]; omega
    · obtain rfl : k = xss.length := by omega
      have HLe := Lib.hid (show lens (xss.take xss.length) = lens xss by rw [List.take_length])
      rw [HLe.out]
      have HF0 := Lib.hid (show (xss.take 0).flatten = [] from rfl)
      go_wp2_with fail
      refine HG.out.mono ?_
      rintro e w1 ⟨v1, rfl, hO, hb⟩
      have HO := Lib.hid hO
      have HB := Lib.hid hb
      clear hO hb
      go_wp2
      go_loopw [6, 27] (fun s i wr => ∃ (k : Nat), k ≤ xss.length ∧ i = .int .i64 k ∧ Hid (OwnS w.heap.size wr s (xss.take k).flatten) ∧ Hid (Below w.heap.size w wr)) (fun _ i _ => xss.length - (intOf i).toNat)
      case atStart => exact ⟨0, Nat.zero_le _, rfl, HO, HB⟩
      case round =>
        obtain ⟨k, hk, rfl, HOr, HBr⟩ := hrel
        by_cases hlt : k < xss.length
        · have HSr := Lib.hid (HS.out.keep (below_keeps HBr.out HF.out))
          obtain ⟨b, off, c1, u, hv, _, _, _, hc0, hu⟩ := HSr.out.sl_at hlt
          obtain ⟨rfl, rfl⟩ : A = some ⟨b, off, none⟩ ∧ cap = c1 := by simpa using hv
          have hq : (xss.take k).flatten.length ≤ 4000000 := by rw [flatten_len]; exact Nat.le_trans (lens_le k) hl
          have hq2 : xss[k].length ≤ 4000000 := by have h1 := lens_take hlt; have h2 := lens_le (xss := xss) (k + 1); omega
          obtain ⟨v', w', happ, hO', hb'⟩ := HOr.out.any HBr.out.size (by omega) (by omega) hu
          have HN := Lib.hid (show OwnS w.heap.size w' v' (xss.take (k + 1)).flatten by rw [flatten_take hlt]; exact hO')
          have HBn := Lib.hid (HBr.out.trans hb')
          obtain ⟨Au, cu, rfl, _⟩ := hu
          have i0 : (0 : Int) ≤ k := by omega
          have i1 : (k : Int) < xss.length := by omega
          clear hv hO' hb' hq hq2
          generalize xss[k].length = n at *
          go_wp2_with (at_builtin; go_loud (refine wpList_append_run rfl _ _ _ rfl rfl rfl happ ?_))
          go_roundw
          case rel => exact ⟨k + 1, by omega, by go_num, HN, HBn⟩
          case measure => simp [intOf]; omega
        · obtain rfl : k = xss.length := by omega
          have HQ := Lib.hid (show RowD xss.flatten w (.returned u6) wr from ⟨_, rfl, by have := HOr.out; rwa [List.take_length] at this, HBr.out⟩)
          go_wp2
          go_ret
          exact HQ.out
end Go.Proofs.YthkdkefkgmmoiaaDoor
