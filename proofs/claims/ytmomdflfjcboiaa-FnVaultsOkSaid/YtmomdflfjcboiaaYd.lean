/- The program's search in vaults: where a record is or would be put. -/
import Derived.Test.YtmomdflfjcboiaaYb
import Derived.BigQuiet
import Derived.Test.YtmomdflfjcboiaaLat
namespace Go.Proofs.Ytmomdflfjcboiaa
open Go.RowKit

theorem PlaceK.start (xs : List KepR) (t : KepR) : (∀ q, q < 0 → ltK (xs.getD q zeroK) t = true) ∧ (∀ q, xs.length ≤ q → q < xs.length → ltK (xs.getD q zeroK) t = false) :=
  ⟨fun q h => absurd h (by omega), fun q h h' => absurd h' (by omega)⟩
theorem lt_down {xs : List KepR} {t : KepR} (hs : SortedK xs) {h : Nat} (hh : h < xs.length) (hl : ltK (xs.getD h zeroK) t = true) : ∀ q, q < h + 1 → ltK (xs.getD q zeroK) t = true := fun q hq => by
  rcases Nat.lt_or_ge q h with h1 | h1
  · exact ltK_trans (hs q h h1 hh) hl
  · obtain rfl : q = h := by omega
    exact hl
theorem lt_up {xs : List KepR} {t : KepR} (hs : SortedK xs) {h : Nat} (hl : ltK (xs.getD h zeroK) t = false) : ∀ q, h ≤ q → q < xs.length → ltK (xs.getD q zeroK) t = false := fun q hq hq' => by
  rcases Nat.lt_or_ge h q with h1 | h1
  · rw [Bool.eq_false_iff]
    intro h2
    rw [ltK_trans (hs h q h1 hq') h2] at hl
    cases hl
  · obtain rfl : q = h := by omega
    exact hl
def SearchD (xs : List KepR) (t : KepR) (w : World) (e : Ending) (w' : World) : Prop :=
  ∃ p : Nat, PlaceK xs t p ∧ e = .returned (.tuple #[.int .i64 p, .bool (foundK xs t p)]) ∧ Below w.heap.size w w'

set_option maxRecDepth 100000 in
set_option maxHeartbeats 4000000 in
theorem search_any {d : Nat} (F : Nat → Prop) (v : Value) (xs : List KepR) (t : KepR) (A B : Option Addr) (n cA m cB : Nat) (w : World) (h : (Cod.kept (Cod.val d)).Sl F w v xs) (hF : ∀ b, F b → b < w.heap.size) (hs : SortedK xs) (hl : xs.length ≤ 36) :
    Calls Try.prog 92 #[v, .agg #[.int .i64 t.o, .string t.v.ty, .int .i64 t.v.n, .slice A n cA, .slice B m cB], .func (.func 69) #[] #[]] w (SearchD xs t w) := by
  obtain ⟨w0, hw0⟩ : ∃ w0, w0 = w.alloc (.cells #[.int .i64 t.o, .string t.v.ty, .int .i64 t.v.n, .slice A n cA, .slice B m cB] 61) := ⟨_, rfl⟩
  have hb0 : Below w.heap.size w w0 := by rw [hw0]; exact (Below.refl _ _).alloc (Nat.le_refl _) _
  have hs0 : w0.heap.size = w.heap.size + 1 := by rw [hw0]; simp
  have HX0 := Lib.hid (show Blk w0 w.heap.size 61 #[.int .i64 t.o, .string t.v.ty, .int .i64 t.v.n, .slice A n cA, .slice B m cB] by rw [hw0]; exact Blk.new _ _ _)
  have HV := Lib.hid (h.keep (w' := w0) fun b hb => hb0.block b (hF b hb))
  have HF0 := Lib.hid (show ∀ b, F b → b < w0.heap.size from fun b hb => by have := hF b hb; omega)
  have HE := Lib.hid hb0
  have Hw0 := Lib.hid hw0
  have HSo := Lib.hid hs
  obtain ⟨Ax, cap, rfl, hlc, hcm, _⟩ := h
  unfold maxLen at hcm
  obtain ⟨hst1, hst2⟩ := PlaceK.start xs t
  have HS1 := Lib.hid hst1
  have HS2 := Lib.hid hst2
  clear hF hw0 hb0 hs hst1 hst2
  go_enter Try.func92, Try.ntmps92
  go_wp2
  rw [← Hw0.out]
  go_loopw [9, 10] (fun si sj wr => ∃ a b : Nat, a ≤ b ∧ b ≤ xs.length ∧ si = .int .i64 a ∧ sj = .int .i64 b ∧ Hid (∀ q, q < a → ltK (xs.getD q zeroK) t = true) ∧ Hid (∀ q, b ≤ q → q < xs.length → ltK (xs.getD q zeroK) t = false) ∧ Hid (Below w0.heap.size w0 wr)) (fun si sj _ => (intOf sj).toNat - (intOf si).toNat)
  case atStart => exact ⟨0, xs.length, Nat.zero_le _, Nat.le_refl _, rfl, rfl, HS1, HS2, Lib.hid (Below.refl _ _)⟩
  case round =>
    obtain ⟨a, b, hab, hbl, rfl, rfl, HA, HBt, HBw⟩ := hrel
    clear HS1 HS2
    have hsr := HBw.out.size
    obtain ⟨x0, x1, x2, x3, x4⟩ := (HX0.out.below HBw.out (by omega)).c5
    by_cases hlt : a < b
    · obtain ⟨hh, hhd⟩ : ∃ hh : Nat, hh = (a + b) / 2 := ⟨_, rfl⟩
      have h1 : a ≤ hh := by omega
      have h2 : hh < b := by omega
      have h3 : hh < xs.length := by omega
      obtain ⟨bb, off, cap', A2, cA2, B2, cB2, hv, hFb, _, _, hc0, hc1, hc2, hc3, hc4, -, hV⟩ := (HV.out.keep (below_keeps HBw.out HF0.out)).kept_at h3
      obtain ⟨rfl, rfl⟩ : Ax = some ⟨bb, off, none⟩ ∧ cap = cap' := by simpa using hv
      have HC := Lib.hid (compareKept_any xs[hh] t A2 B2 A B xs[hh].v.parts.length cA2 xs[hh].v.path.length cB2 n cA m cB wr.drew)
      have i0 : (0 : Int) ≤ hh := by omega
      have i1 : (hh : Int) < xs.length := by omega
      have e2 : ((a : Int) + (b : Int)) / 2 = ((hh : Nat) : Int) := by omega
      have HLt := Lib.hid (show decide (cmpK xs[hh] t < 0) = ltK (xs.getD hh zeroK) t by rw [getK h3, Bool.eq_iff_iff, decide_eq_true_eq]; exact cmpK_lt)
      have HUp := Lib.hid (fun hl => lt_down HSo.out (t := t) h3 hl)
      have HDn := Lib.hid (fun hl => lt_up HSo.out (t := t) (h := hh) hl)
      generalize xs[hh] = x at *
      clear hv hV hhd
      go_upto_region 5 with fail
      go_still_tail 6, (by kernel_rfl)
      change wpList _ _ _ _ _ wr.drew
      cases hc : ltK (xs.getD hh zeroK) t with
      | true =>
        rw [hc] at HLt
        have HA2 := Lib.hid (HUp.out hc)
        have ht := HLt.out
        clear HUp HDn HLt hc
        go_wp2_with (go_at_call 69; (with_reducible refine HC.out.mono ?_); rintro e w1 ⟨rfl, hb1⟩; have HB1 := Lib.hid (HBw.out.trans ((Below.refl _ _).drew.trans (hb1.mono (Nat.le_refl _)) |>.mono hsr)); clear hb1)
        go_roundw
        case rel => exact ⟨hh + 1, b, by omega, hbl, by go_num, rfl, HA2, HBt, HB1⟩
        case measure => simp [intOf]; omega
      | false =>
        rw [hc] at HLt
        have HB2 := Lib.hid (HDn.out hc)
        have ht := HLt.out
        clear HUp HDn HLt hc
        go_wp2_with (go_at_call 69; (with_reducible refine HC.out.mono ?_); rintro e w1 ⟨rfl, hb1⟩; have HB1 := Lib.hid (HBw.out.trans ((Below.refl _ _).drew.trans (hb1.mono (Nat.le_refl _)) |>.mono hsr)); clear hb1)
        go_roundw
        case rel => exact ⟨a, hh, h1, by omega, rfl, rfl, HA, HB2, HB1⟩
        case measure => simp [intOf]; omega
    · obtain rfl : a = b := by omega
      have HP := Lib.hid (show PlaceK xs t a from ⟨hbl, HA.out, HBt.out⟩)
      clear hlt HA HBt hab
      by_cases hin : a < xs.length
      · obtain ⟨bb, off, cap', A2, cA2, B2, cB2, hv, hFb, _, _, hc0, hc1, hc2, hc3, hc4, -, hV⟩ := (HV.out.keep (below_keeps HBw.out HF0.out)).kept_at hin
        obtain ⟨rfl, rfl⟩ : Ax = some ⟨bb, off, none⟩ ∧ cap = cap' := by simpa using hv
        have hbl : bb < wr.heap.size := by have := HF0.out bb hFb; omega
        have hxl : w.heap.size < wr.heap.size := by omega
        have HC := Lib.hid fun s : Later wr => Calls.later (compareKept_any xs[a] t A2 B2 A B xs[a].v.parts.length cA2 xs[a].v.path.length cB2 n cA m cB s.w)
        have i0 : (0 : Int) ≤ a := by omega
        have i1 : (a : Int) < xs.length := by omega
        have HFd := Lib.hid (show foundK xs t a = (cmpK xs[a] t == 0) by unfold foundK; rw [getK hin, decide_eq_true hin, Bool.true_and]; rfl)
        generalize xs[a] = x at *
        have l0 := fun s : Later wr => s.cell (p := ⟨bb, off + a * 5, none⟩) hbl hc0
        have l1 := fun s : Later wr => s.cell (p := ⟨bb, off + a * 5 + 1, none⟩) hbl hc1
        have l2 := fun s : Later wr => s.cell (p := ⟨bb, off + a * 5 + 2, none⟩) hbl hc2
        have l3 := fun s : Later wr => s.cell (p := ⟨bb, off + a * 5 + 3, none⟩) hbl hc3
        have l4 := fun s : Later wr => s.cell (p := ⟨bb, off + a * 5 + 4, none⟩) hbl hc4
        have k0 := fun s : Later wr => s.cell (p := ⟨w.heap.size, 0, none⟩) hxl x0
        have k1 := fun s : Later wr => s.cell (p := ⟨w.heap.size, 1, none⟩) hxl x1
        have k2 := fun s : Later wr => s.cell (p := ⟨w.heap.size, 2, none⟩) hxl x2
        have k3 := fun s : Later wr => s.cell (p := ⟨w.heap.size, 3, none⟩) hxl x3
        have k4 := fun s : Later wr => s.cell (p := ⟨w.heap.size, 4, none⟩) hxl x4
        clear hv hV x0 x1 x2 x3 x4 hc0 hc1 hc2 hc3 hc4
        go_upto_region 8 with fail
        refine wp_region_later wr (Below.refl _ _) (by kernel_rfl) (by kernel_rfl) ?_
        repeat (go_big_quiet_step (first | (go_at_call 69; with_reducible exact HC.out _)))
        refine wpQuiet_nil ?_
        intro s
        go_wp2
        go_ret2
        exact ⟨a, HP.out, by rw [HFd.out]; rfl, HE.out.trans ((HBw.out.trans (s.h.mono hsr)).mono HE.out.size)⟩
      · have HFd := Lib.hid (show foundK xs t a = false by unfold foundK; rw [decide_eq_false hin]; rfl)
        have i1 : ¬ (a : Int) < xs.length := by omega
        go_upto_region 8 with fail
        refine wp_region_later wr (Below.refl _ _) (by kernel_rfl) (by kernel_rfl) ?_
        repeat (go_big_quiet_step (fail))
        refine wpQuiet_nil ?_
        intro s
        go_wp2
        go_ret2
        exact ⟨a, HP.out, by rw [HFd.out]; rfl, HE.out.trans ((HBw.out.trans (s.h.mono hsr)).mono HE.out.size)⟩

set_option maxRecDepth 100000 in
set_option maxHeartbeats 1000000 in
theorem placeOf_any {d : Nat} (F : Nat → Prop) (v : Value) (xs : List KepR) (o : Int) (kind : ByteArray) (w : World) (h : (Cod.kept (Cod.val d)).Sl F w v xs) (hF : ∀ b, F b → b < w.heap.size) (hs : SortedK xs) (hl : xs.length ≤ 36) :
    Calls Try.prog 71 #[v, .int .i64 o, .string kind] w (SearchD xs ⟨o, .mk kind 0 [] []⟩ w) := by
  have HC0 := search_any F v xs ⟨o, .mk kind 0 [] []⟩ none none 0 0 0 0 w h hF hs hl
  obtain ⟨Ax, cap, rfl, _⟩ := h
  have HC : Hid (Calls Try.prog 92 #[.slice Ax xs.length cap, .agg #[.int .i64 o, .string kind, .int .i64 0, .slice none 0 0, .slice none 0 0], .func (.func 69) #[] #[]] w (SearchD xs ⟨o, .mk kind 0 [] []⟩ w)) := Lib.hid HC0
  clear HC0
  clear hF hs hl
  go_enter Try.func71, Try.ntmps71
  go_wp2_with (go_at_call 92; (with_reducible refine HC.out.mono ?_); rintro e w1 ⟨p, hp, rfl, hb⟩)
  go_ret2
  exact ⟨p, hp, rfl, hb⟩

/-- Where the record of a kind of an owner is. -/
def RecPD (ks : Ks) (d : Nat) (xs : List KepR) (o : Int) (t : ByteArray) (w : World) (e : Ending) (w' : World) : Prop :=
  ∃ p : Nat, e = .returned (.tuple #[.int .i64 p, .bool (idxK ks d xs o t).isSome]) ∧ (∀ j, idxK ks d xs o t = some j → j = p) ∧ Below w.heap.size w w'
theorem place_idx {ks : Ks} {d : Nat} {xs : List KepR} {o : Int} {kind : ByteArray} {p : Nat} (hok : vOk ks d xs = true) (h : PlaceK xs ⟨o, .mk kind 0 [] []⟩ p) :
    foundK xs ⟨o, .mk kind 0 [] []⟩ p = (idxK ks d xs o kind).isSome ∧ ∀ j, idxK ks d xs o kind = some j → j = p := by
  have hf : findK o kind xs 0 = if foundK xs ⟨o, .mk kind 0 [] []⟩ p = true then (p : Int) else -1 := place_find (vOk_sorted hok) h
  unfold idxK
  rw [if_pos hok, hf]
  cases foundK xs ⟨o, .mk kind 0 [] []⟩ p with
  | true => simp
  | false => simp
end Go.Proofs.Ytmomdflfjcboiaa
