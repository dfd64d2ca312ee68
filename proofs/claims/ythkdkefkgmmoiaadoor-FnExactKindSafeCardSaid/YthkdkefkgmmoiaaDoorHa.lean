/- The model's ShelfShape, part by part. The model's ShelfShape: code, functions. The model's ShelfShape. -/
import Derived.Test.YthkdkefkgmmoiaaDoorGq
import Derived.Test.YthkdkefkgmmoiaaDoorGi
import Derived.Test.YthkdkefkgmmoiaaDoorItd
import Derived.Test.YthkdkefkgmmoiaaDoorSpb
import Derived.Test.YthkdkefkgmmoiaaDoorLat
namespace Go.Proofs.YthkdkefkgmmoiaaDoor
open Go.RowKit

theorem Cod.Sl.take_ {α : Type} {c : Cod α} {F : Nat → Prop} {w : World} {A : Option Addr} {cap : Nat} {xs : List α} (h : c.Sl F w (.slice A xs.length cap) xs) {k : Nat} (hk : k ≤ xs.length) : c.Sl F w (.slice A k cap) (xs.take k) := by
  obtain ⟨A', cap', hv, h1, h2, h3⟩ := h
  cases hv
  have hl : (xs.take k).length = k := by rw [List.length_take]; omega
  refine ⟨A, cap, by rw [hl], by omega, h2, fun hp => ?_⟩
  obtain ⟨b, off, hA, hF, hx⟩ := h3 (by omega)
  refine ⟨b, off, hA, hF, fun i x hi => hx i x ?_⟩
  rw [List.getElem?_take] at hi
  split at hi
  · exact hi
  · cases hi

/-- Nothing but draws. -/
def Dr (w w' : World) : Prop := ∃ n, w' = w.drewN n
theorem Dr.refl (w : World) : Dr w w := ⟨0, rfl⟩
theorem Dr.more {w w' : World} (h : Dr w w') (n : Nat) : Dr w (w'.drewN n) := by obtain ⟨m, rfl⟩ := h; exact ⟨m + n, by simp⟩
theorem Dr.trans {a b c : World} (h : Dr a b) (k : Dr b c) : Dr a c := by obtain ⟨m, rfl⟩ := k; exact h.more m
theorem Dr.below {w w' : World} (h : Dr w w') : Below w.heap.size w w' := by obtain ⟨n, rfl⟩ := h; exact below_drewN (Below.refl _ _) n
theorem Dr.heap {w w' : World} (h : Dr w w') : w'.heap = w.heap := by obtain ⟨n, rfl⟩ := h; rfl
theorem Dr.mk_ (w : World) (n : Nat) : Dr w (w.drewN n) := ⟨n, rfl⟩

def typesB (ks : Ks) (ts : List ByteArray) : Bool := ts.all fun t => plainB ks (ofT t)

set_option maxHeartbeats 1000000 in
theorem l4Types_any (F G : Nat → Prop) (v u : Value) (ks : Ks) (ts : List ByteArray) (w : World) (h : Cod.recs.Sl F w v ks) (hs : Cod.str.Sl G w u ts) :
    Calls Tryd.prog 43 #[v, u] w fun e w' => e = .returned (.bool (typesB ks ts)) ∧ Dr w w' := by
  have HK := Lib.hid h
  have HS := Lib.hid hs
  obtain ⟨A, cap, rfl, _⟩ := h
  obtain ⟨B, cp, rfl, hlc, hcm, _⟩ := hs
  unfold maxLen at hcm
  have H0 := Lib.hid (show (ts.drop 0).all (fun t => plainB ks (ofT t)) = typesB ks ts from rfl)
  go_enter Tryd.func43, Tryd.ntmps43
  go_wp2
  go_loopw [5] (fun i wr => ∃ (k n : Nat), k ≤ ts.length ∧ i = .int .i64 k ∧ Hid ((ts.drop k).all (fun t => plainB ks (ofT t)) = typesB ks ts) ∧ wr = w.drewN n) (fun i _ => ts.length - (intOf i).toNat)
  case atStart => exact ⟨0, 0, Nat.zero_le _, rfl, H0, rfl⟩
  case round =>
    obtain ⟨k, n, hk, rfl, HI, rfl⟩ := hrel
    by_cases hlt : k < ts.length
    · obtain ⟨b, off, c1, hv, _, _, _, hc0, hsz⟩ := HS.out.str_at hlt
      obtain ⟨rfl, rfl⟩ : B = some ⟨b, off, none⟩ ∧ cp = c1 := by simpa using hv
      have i0 : (0 : Int) ≤ k := by omega
      have i1 : (k : Int) < ts.length := by omega
      have HC := Lib.hid (l1Plain_any F (.slice A ks.length cap) ks (ofT ts[k]) (w.drewN n) (HK.out.keep fun _ _ => rfl))
      have HO := Lib.hid (l1Of_any ts[k] (w.drewN n) hsz)
      by_cases he : plainB ks (ofT ts[k]) = true
      · rw [he] at HC
        have HN := Lib.hid (all_step hlt HI.out he)
        clear hv he
        generalize ts[k] = t at *
        go_wp2_with (first
          | (go_at_call 57; (with_reducible refine HO.out.mono ?_); rintro e w' ⟨rfl, rfl⟩)
          | (go_at_call 56; (with_reducible refine HC.out.mono ?_); rintro e w' ⟨rfl, n2, rfl⟩))
        go_roundw
        case rel => exact ⟨k + 1, n + n2, by omega, by go_num, HN, by first | rfl | trivial | simp⟩
        case measure => simp [intOf]; omega
      · have he' : plainB ks (ofT ts[k]) = false := by simpa using he
        rw [he'] at HC
        have HN := Lib.hid (all_stop hlt HI.out he')
        clear hv he he'
        generalize ts[k] = t at *
        go_wp2_with (first
          | (go_at_call 57; (with_reducible refine HO.out.mono ?_); rintro e w' ⟨rfl, rfl⟩)
          | (go_at_call 56; (with_reducible refine HC.out.mono ?_); rintro e w' ⟨rfl, n2, rfl⟩))
        go_ret
        exact ⟨ret_bool HN.out, by simpa using Dr.mk_ w (n + n2)⟩
    · have HB := Lib.hid (all_end (show k = ts.length by omega) HI.out)
      go_wp2
      go_ret
      exact ⟨ret_bool HB.out, Dr.mk_ w n⟩

/-- Ascending, in a range: as the model asks it. -/
def riseP (lo hi : Int) : Option Int → List Int → Bool
  | _, [] => true
  | p, n :: r => (decide (lo ≤ n) && decide (n ≤ hi)) && (match p with | some q => decide (q < n) | none => true) && riseP lo hi (some n) r
def prevI (xs : List Int) (k : Nat) : Option Int := match k with | 0 => none | k + 1 => xs[k]?
theorem prevI_pos {xs : List Int} {k : Nat} (h : 0 < k) (hk : k ≤ xs.length) : ∃ hh : k - 1 < xs.length, prevI xs k = some (xs[k - 1]'hh) := by
  obtain ⟨j, rfl⟩ : ∃ j, k = j + 1 := ⟨k - 1, by omega⟩
  exact ⟨by omega, List.getElem?_eq_getElem (by omega)⟩
theorem riseP_out {lo hi : Int} {xs : List Int} {k : Nat} {R : Bool} (hk : k < xs.length) (h : riseP lo hi (prevI xs k) (xs.drop k) = R) (hn : ¬ (lo ≤ xs[k] ∧ xs[k] ≤ hi)) : false = R := by
  rw [← h, drop_at hk]
  simp only [riseP]
  have : (decide (lo ≤ xs[k]) && decide (xs[k] ≤ hi)) = false := by simpa using hn
  rw [this]; rfl
theorem riseP_back {lo hi : Int} {xs : List Int} {k : Nat} {R : Bool} (hk : k < xs.length) (h : riseP lo hi (prevI xs k) (xs.drop k) = R) (h0 : 0 < k) (hn : xs[k] ≤ xs[k - 1]'(by omega)) : false = R := by
  obtain ⟨hh, hp⟩ := prevI_pos h0 (Nat.le_of_lt hk)
  rw [← h, drop_at hk, hp]
  simp only [riseP]
  have : decide (xs[k - 1] < xs[k]) = false := by rw [decide_eq_false_iff_not]; omega
  rw [this, Bool.and_false, Bool.false_and]
theorem riseP_step {lo hi : Int} {xs : List Int} {k : Nat} {R : Bool} (hk : k < xs.length) (h : riseP lo hi (prevI xs k) (xs.drop k) = R) (h1 : lo ≤ xs[k] ∧ xs[k] ≤ hi) (hn : ∀ h0 : 0 < k, xs[k - 1]'(by omega) < xs[k]) : riseP lo hi (prevI xs (k + 1)) (xs.drop (k + 1)) = R := by
  have e : prevI xs (k + 1) = some xs[k] := List.getElem?_eq_getElem hk
  rw [e, ← h, drop_at hk]
  simp only [riseP]
  have h2 : (decide (lo ≤ xs[k]) && decide (xs[k] ≤ hi)) = true := by simpa using h1
  rw [h2, Bool.true_and]
  by_cases h0 : 0 < k
  · obtain ⟨hh, hp⟩ := prevI_pos h0 (Nat.le_of_lt hk)
    rw [hp]
    simp only
    rw [decide_eq_true (hn h0), Bool.true_and]
  · obtain rfl : k = 0 := by omega
    simp [prevI]
theorem riseP_end {lo hi : Int} {xs : List Int} {k : Nat} {R : Bool} (hk : ¬ k < xs.length) (h : riseP lo hi (prevI xs k) (xs.drop k) = R) : true = R := by
  rw [← h, List.drop_eq_nil_of_le (by omega)]; simp [riseP]

set_option maxRecDepth 100000 in
set_option maxHeartbeats 4000000 in
theorem l4Rises_any (F : Nat → Prop) (v : Value) (xs : List Int) (lo hi : Int) (w : World) (h : Cod.i64.Sl F w v xs) :
    Calls Tryd.prog 24 #[v, .int .i64 lo, .int .i64 hi] w fun e w' => e = .returned (.bool (riseP lo hi none xs)) ∧ Dr w w' := by
  have HS := Lib.hid h
  obtain ⟨A, cap, rfl, hlc, hcm, _⟩ := h
  unfold maxLen at hcm
  have H0 := Lib.hid (show riseP lo hi (prevI xs 0) (xs.drop 0) = riseP lo hi none xs from rfl)
  go_enter Tryd.func24, Tryd.ntmps24
  go_wp2
  go_loopw [7] (fun i wr => ∃ (k : Nat), k ≤ xs.length ∧ i = .int .i64 k ∧ Hid (riseP lo hi (prevI xs k) (xs.drop k) = riseP lo hi none xs) ∧ Hid (Dr w wr)) (fun i _ => xs.length - (intOf i).toNat)
  case atStart => exact ⟨0, Nat.zero_le _, rfl, H0, Dr.refl _⟩
  case round =>
    obtain ⟨k, hk, rfl, HI, HD⟩ := hrel
    by_cases hlt : k < xs.length
    · have HSr := Lib.hid (HS.out.keep (w' := wr) fun b _ => by rw [HD.out.heap])
      obtain ⟨b, off, c1, hv, _, _, _, hc0, _⟩ := HSr.out.i64_at hlt
      obtain ⟨rfl, rfl⟩ : A = some ⟨b, off, none⟩ ∧ cap = c1 := by simpa using hv
      have i0 : (0 : Int) ≤ k := by omega
      have i1 : (k : Int) < xs.length := by omega
      by_cases hin : lo ≤ xs[k] ∧ xs[k] ≤ hi
      · have HQ := Lib.hid fun w => (show Calls Tryd.prog 42 #[.int .i64 xs[k], .int .i64 lo, .int .i64 hi] w fun e w' => e = .returned (.bool true) ∧ w' = w from (l6In_any xs[k] lo hi w).mono fun e w' ⟨h1, h2⟩ => ⟨by rw [h1, decide_eq_true hin.1, decide_eq_true hin.2]; rfl, h2.symm⟩)
        by_cases h0 : 0 < k
        · obtain ⟨hk1, _⟩ := prevI_pos h0 hk
          obtain ⟨b', off', c1', hv', _, _, _, hc1, _⟩ := HSr.out.i64_at hk1
          obtain ⟨⟨rfl, rfl⟩, rfl⟩ : (b = b' ∧ off = off') ∧ cap = c1' := by simpa using hv'
          have g0 : (0 : Int) < k := by omega
          have g1 : ((k - 1 : Nat) : Int) = (k : Int) - 1 := by omega
          have g2 : (0 : Int) ≤ (k : Int) - 1 := by omega
          have g3 : (k : Int) - 1 < xs.length := by omega
          have g4 : ((k : Int) - 1).toNat = k - 1 := by omega
          have g5 : IntKind.i64.wrap ((k : Int) - 1) = (k : Int) - 1 := IntWalk.i64_in _ (by omega)
          by_cases hb : xs[k] ≤ xs[k - 1]
          · have HN := Lib.hid (riseP_back hlt HI.out h0 hb)
            clear hv hv' hin
            generalize xs[k] = x at *
            generalize xs[k - 1] = y at *
            go_wp2
            go_quiet ((go_at_call 42; exact Calls.quiet_of_same (HQ.out _)))
            go_wp2
            go_ret
            exact ⟨ret_bool HN.out, HD.out.more _⟩
          · have HN := Lib.hid (riseP_step hlt HI.out hin fun _ => by omega)
            clear hv hv' hin
            generalize xs[k] = x at *
            generalize xs[k - 1] = y at *
            go_wp2
            go_quiet ((go_at_call 42; exact Calls.quiet_of_same (HQ.out _)))
            go_wp2
            go_roundw
            case rel => exact ⟨k + 1, by omega, by go_num, HN, HD.out.more _⟩
            case measure => simp [intOf]; omega
        · have HN := Lib.hid (riseP_step hlt HI.out hin fun h => absurd h h0)
          have g0 : ¬ (0 : Int) < k := by omega
          have g1 : decide ((0 : Int) < k) = false := by simpa using g0
          have g2 : decide (0 < k) = false := by simpa using h0
          clear hv hin
          generalize xs[k] = x at *
          go_wp2
          go_quiet ((go_at_call 42; exact Calls.quiet_of_same (HQ.out _)))
          go_wp2
          go_roundw
          case rel => exact ⟨k + 1, by omega, by go_num, HN, HD.out.more _⟩
          case measure => simp [intOf]; omega
      · have HQ := Lib.hid fun w => (show Calls Tryd.prog 42 #[.int .i64 xs[k], .int .i64 lo, .int .i64 hi] w fun e w' => e = .returned (.bool false) ∧ w' = w from (l6In_any xs[k] lo hi w).mono fun e w' ⟨h1, h2⟩ => ⟨by rw [h1, show (decide (lo ≤ xs[k]) && decide (xs[k] ≤ hi)) = false by simpa using hin], h2.symm⟩)
        have HN := Lib.hid (riseP_out hlt HI.out hin)
        clear hv hin
        generalize xs[k] = x at *
        go_wp2
        go_quiet ((go_at_call 42; exact Calls.quiet_of_same (HQ.out _)))
        go_wp2
        go_ret
        exact ⟨ret_bool HN.out, HD.out.more _⟩
    · have HB := Lib.hid (riseP_end hlt HI.out)
      go_wp2
      go_ret
      exact ⟨ret_bool HB.out, HD.out⟩
end Go.Proofs.YthkdkefkgmmoiaaDoor

namespace Go.Proofs.YthkdkefkgmmoiaaDoor
open Go.RowKit

def callB (i : InsR) : Bool := i.op.toList == [99, 97, 108, 108]
def insB (m : Int) (i : InsR) : Bool := insOk i.op i.a i.b && !(callB i && decide (m < i.a))
def codeB (m : Int) (code : List InsR) : Bool := code.all (insB m) && (decide (1 ≤ code.length) && decide (code.length ≤ 40))

set_option maxRecDepth 100000 in
set_option maxHeartbeats 4000000 in
theorem l4Code_any (F : Nat → Prop) (v : Value) (m : Int) (xs : List InsR) (w : World) (h : Cod.insr.Sl F w v xs) (hF : ∀ b, F b → b < w.heap.size) :
    Calls Tryd.prog 44 #[.int .i64 m, v] w fun e w' => e = .returned (.bool (codeB m xs)) ∧ Below w.heap.size w w' := by
  have HS := Lib.hid h
  have HF := Lib.hid hF
  obtain ⟨A, cap, rfl, hlc, hcm, _⟩ := h
  unfold maxLen at hcm
  have H0 := Lib.hid (show (xs.drop 0).all (insB m) = xs.all (insB m) from rfl)
  clear hF
  go_enter Tryd.func44, Tryd.ntmps44
  go_wp2
  go_loopw [5] (fun i wr => ∃ (k : Nat), k ≤ xs.length ∧ i = .int .i64 k ∧ Hid ((xs.drop k).all (insB m) = xs.all (insB m)) ∧ Hid (Below w.heap.size w wr)) (fun i _ => xs.length - (intOf i).toNat)
  case atStart => exact ⟨0, Nat.zero_le _, rfl, H0, Below.refl _ _⟩
  case round =>
    obtain ⟨k, hk, rfl, HI, HB⟩ := hrel
    by_cases hlt : k < xs.length
    · have HSr := Lib.hid (HS.out.keep (below_keeps HB.out HF.out))
      obtain ⟨b, off, c1, hv, hFb, _, _, d0, d1, d2, hd⟩ := HSr.out.insr_at hlt
      obtain ⟨rfl, rfl⟩ : A = some ⟨b, off, none⟩ ∧ cap = c1 := by simpa using hv
      have hbl : b < wr.heap.size := Nat.lt_of_lt_of_le (HF.out b hFb) HB.out.size
      have i0 : (0 : Int) ≤ k := by omega
      have i1 : (k : Int) < xs.length := by omega
      have HC := Lib.hid (specInsOk_any xs[k].op xs[k].a xs[k].b wr hd.a hd.b)
      have hstep := fun h => all_step (p := insB m) hlt HI.out h
      have hstop := fun h => all_stop (p := insB m) hlt HI.out h
      generalize xs[k] = x at *
      have Hstep := Lib.hid hstep
      have Hstop := Lib.hid hstop
      clear hv hd hstep hstop
      by_cases ho : insOk x.op x.a x.b = true
      · by_cases hc : callB x = true
        · have t1 : (x.op.toList == [99, 97, 108, 108]) = true := hc
          by_cases hm : m < x.a
          · have HR := Lib.hid (Hstop.out (by unfold insB; rw [ho, hc, decide_eq_true hm]; rfl))
            have t2 : decide (m < x.a) = true := by simpa using hm
            rw [ho] at HC
            clear ho hc
            go_wp2_with (go_at_call 58; (with_reducible refine HC.out.mono ?_); rintro e w1 ⟨rfl, hb⟩; have c0 := (hb.cell (p := ⟨b, off + k * 3, none⟩) hbl).trans d0; have c1 := (hb.cell (p := ⟨b, off + k * 3 + 1, none⟩) hbl).trans d1)
            go_ret
            exact ⟨ret_bool (by unfold codeB; rw [← HR.out]; rfl), HB.out.trans (hb.mono HB.out.size)⟩
          · have HR := Lib.hid (Hstep.out (by unfold insB; rw [ho, decide_eq_false hm, Bool.and_false]; rfl))
            have t2 : decide (m < x.a) = false := by simpa using hm
            rw [ho] at HC
            clear ho hc
            go_wp2_with (go_at_call 58; (with_reducible refine HC.out.mono ?_); rintro e w1 ⟨rfl, hb⟩; have c0 := (hb.cell (p := ⟨b, off + k * 3, none⟩) hbl).trans d0; have c1 := (hb.cell (p := ⟨b, off + k * 3 + 1, none⟩) hbl).trans d1)
            go_roundw
            case rel => exact ⟨k + 1, by omega, by go_num, HR, HB.out.trans (hb.mono HB.out.size)⟩
            case measure => simp [intOf]; omega
        · have hc' : callB x = false := by simpa using hc
          have t1 : (x.op.toList == [99, 97, 108, 108]) = false := hc'
          have HR := Lib.hid (Hstep.out (by unfold insB; rw [ho, show callB x = false from t1]; rfl))
          rw [ho] at HC
          clear ho hc hc'
          go_wp2_with (go_at_call 58; (with_reducible refine HC.out.mono ?_); rintro e w1 ⟨rfl, hb⟩; have c0 := (hb.cell (p := ⟨b, off + k * 3, none⟩) hbl).trans d0)
          go_roundw
          case rel => exact ⟨k + 1, by omega, by go_num, HR, HB.out.trans (hb.mono HB.out.size)⟩
          case measure => simp [intOf]; omega
      · have ho' : insOk x.op x.a x.b = false := by simpa using ho
        have HR := Lib.hid (Hstop.out (by unfold insB; rw [ho']; rfl))
        rw [ho'] at HC
        clear ho ho'
        go_wp2_with (go_at_call 58; (with_reducible refine HC.out.mono ?_); rintro e w1 ⟨rfl, hb⟩)
        go_ret
        exact ⟨ret_bool (by unfold codeB; rw [← HR.out]; rfl), HB.out.trans (hb.mono HB.out.size)⟩
    · have HR := Lib.hid (all_end (show k = xs.length by omega) HI.out)
      go_wp2_with (go_at_call 42; refine (l6In_any _ _ _ _).mono ?_; rintro e w' ⟨rfl, rfl⟩)
      go_ret
      exact ⟨ret_bool (by unfold codeB; rw [← HR.out, Bool.true_and, Bool.eq_iff_iff]; simp; omega), HB.out⟩

/-- A function's shape, but for what its types, Takes and code are. -/
def headN (f : FunR) : Bool := (decide (0 ≤ f.seen) && decide (f.seen ≤ 2)) && decide (f.args.length ≤ 3) && decide (f.rets.length ≤ 3) && decide (f.args.length + f.locals.length ≤ 6)
def funB (ks : Ks) (m : Nat) (n : Int) (f : FunR) : Bool :=
  headN f && (typesB (ks.take (m + 1)) f.args && typesB (ks.take (m + 1)) f.rets && typesB (ks.take (m + 1)) f.locals) && riseP 0 (n - 1) none f.takes && codeB m f.code

theorem headN_yes {f : FunR} (h1 : 0 ≤ f.seen ∧ f.seen ≤ 2) (h2 : f.args.length ≤ 3) (h3 : f.rets.length ≤ 3) (h4 : f.args.length + f.locals.length ≤ 6) : headN f = true := by
  unfold headN; rw [decide_eq_true h1.1, decide_eq_true h1.2, decide_eq_true h2, decide_eq_true h3, decide_eq_true h4]; rfl
theorem headN_1 {f : FunR} (h : ¬ (0 ≤ f.seen ∧ f.seen ≤ 2)) : headN f = false := by
  unfold headN; rw [show (decide (0 ≤ f.seen) && decide (f.seen ≤ 2)) = false by simpa using h]; rfl
theorem headN_2 {f : FunR} (h : ¬ f.args.length ≤ 3) : headN f = false := by
  unfold headN; rw [decide_eq_false h, Bool.and_false]; rfl
theorem headN_3 {f : FunR} (h : ¬ f.rets.length ≤ 3) : headN f = false := by
  unfold headN; rw [decide_eq_false h, Bool.and_false]; rfl
theorem headN_4 {f : FunR} (h : ¬ f.args.length + f.locals.length ≤ 6) : headN f = false := by
  unfold headN; rw [decide_eq_false h, Bool.and_false]
theorem funB_head {ks : Ks} {m : Nat} {n : Int} {f : FunR} (h : headN f = false) : false = funB ks m n f := by unfold funB; rw [h]; rfl

set_option maxRecDepth 100000 in
set_option maxHeartbeats 16000000 in
theorem l4Func_any (F G : Nat → Prop) (v v1 v2 v3 v4 v5 : Value) (ks : Ks) (m : Nat) (f : FunR) (w : World) (h : Cod.recs.Sl F w v ks) (hF : ∀ b, F b → b < w.heap.size) (hm : m < ks.length) (hf : FunRd G w v1 v2 v3 v4 v5 f) (hG : ∀ b, G b → b < w.heap.size) (hsm : f.locals.length ≤ 2000000) :
    Calls Tryd.prog 25 #[v, .int .i64 m, .agg #[.int .i64 f.seen, v1, v2, v3, v4, v5]] w fun e w' => e = .returned (.bool (funB ks m ks[m].length f)) ∧ Below w.heap.size w w' := by
  obtain ⟨b, off, cap, u, rfl, hFb, hlc, hcm, hc0, hu⟩ := h.sl_at hm
  obtain ⟨Au, cu, rfl, hul, huc, _⟩ := hu
  obtain ⟨A1, c1, rfl, h11, h12, _⟩ := id hf.args
  obtain ⟨A2, c2, rfl, h21, h22, _⟩ := id hf.rets
  obtain ⟨A3, c3, rfl, h31, h32, _⟩ := id hf.locals
  obtain ⟨A4, c4, rfl, _⟩ := id hf.takes
  obtain ⟨A5, c5, rfl, _⟩ := id hf.code
  unfold maxLen at hcm huc h12 h22 h32
  have hbl := hF b hFb
  have HT := h.take_ (k := m + 1) (by omega)
  obtain ⟨wA, hwA⟩ : ∃ wA, wA = w.alloc (.cells #[.int .i64 f.seen, .slice A1 f.args.length c1, .slice A2 f.rets.length c2, .slice A3 f.locals.length c3, .slice A4 f.takes.length c4, .slice A5 f.code.length c5] 62) := ⟨_, rfl⟩
  have hbA : Below w.heap.size w wA := by rw [hwA]; exact (Below.refl _ _).alloc (Nat.le_refl _) _
  have HB := Lib.hid (show Blk wA w.heap.size 62 #[.int .i64 f.seen, .slice A1 f.args.length c1, .slice A2 f.rets.length c2, .slice A3 f.locals.length c3, .slice A4 f.takes.length c4, .slice A5 f.code.length c5] by rw [hwA]; exact Blk.new _ _ _)
  have HE := Lib.hid hbA
  have HTA := Lib.hid (show Cod.recs.Sl F wA (.slice (some ⟨b, off, none⟩) (m + 1) cap) (ks.take (m + 1)) from HT.keep (below_keeps hbA hF))
  have HfA := Lib.hid (show FunRd G wA (.slice A1 f.args.length c1) (.slice A2 f.rets.length c2) (.slice A3 f.locals.length c3) (.slice A4 f.takes.length c4) (.slice A5 f.code.length c5) f from hf.keep (below_keeps hbA hG))
  have hGA : ∀ b, G b → b < wA.heap.size := fun b hb => Nat.lt_of_lt_of_le (hG b hb) hbA.size
  have k0 : wA.cell? ⟨b, off + m, none⟩ = some (.slice Au ks[m].length cu) := (hbA.cell (p := ⟨b, off + m, none⟩) hbl).trans hc0
  have HFA := Lib.hid (show ∀ b, F b → b < wA.heap.size from fun b hb => Nat.lt_of_lt_of_le (hF b hb) hbA.size)
  have hlA : w.heap.size < wA.heap.size := HB.out.lt
  have hblA : b < wA.heap.size := HFA.out b hFb
  have HGA := Lib.hid hGA
  obtain ⟨n, hn⟩ : ∃ n, n = ks[m].length := ⟨_, rfl⟩
  rw [← hn] at k0 ⊢
  have Hn := Lib.hid hn
  have HwA := Lib.hid hwA
  have i0 : (0 : Int) ≤ m := by omega
  have i1 : (m : Int) < ks.length := by omega
  have i2 : (m : Int) + 1 ≤ cap := by omega
  have i3 : ((m : Int) + 1).toNat = m + 1 := by omega
  have hnb : (n : Int) ≤ 9223372036854775807 := by omega
  clear h hF hf hG HT hn hbA hwA hc0 hGA
  have z0 : ∀ s : Later wA, s.w.cell? ⟨w.heap.size, 0, none⟩ = some (.int .i64 f.seen) := Later.cell hlA (HB.out.cell 0)
  have z1 : ∀ s : Later wA, s.w.cell? ⟨w.heap.size, 1, none⟩ = some (.slice A1 f.args.length c1) := Later.cell hlA (HB.out.cell 1)
  have z2 : ∀ s : Later wA, s.w.cell? ⟨w.heap.size, 2, none⟩ = some (.slice A2 f.rets.length c2) := Later.cell hlA (HB.out.cell 2)
  have z3 : ∀ s : Later wA, s.w.cell? ⟨w.heap.size, 3, none⟩ = some (.slice A3 f.locals.length c3) := Later.cell hlA (HB.out.cell 3)
  have z4 : ∀ s : Later wA, s.w.cell? ⟨w.heap.size, 4, none⟩ = some (.slice A4 f.takes.length c4) := Later.cell hlA (HB.out.cell 4)
  have z5 : ∀ s : Later wA, s.w.cell? ⟨w.heap.size, 5, none⟩ = some (.slice A5 f.code.length c5) := Later.cell hlA (HB.out.cell 5)
  have z6 : ∀ s : Later wA, s.w.cell? ⟨b, off + m, none⟩ = some (.slice Au n cu) := Later.cell hblA k0
  by_cases c1_ : 0 ≤ f.seen ∧ f.seen ≤ 2
  · by_cases c2_ : f.args.length ≤ 3
    · by_cases c3_ : f.rets.length ≤ 3
      · by_cases c4_ : f.args.length + f.locals.length ≤ 6
        · have HH := Lib.hid (headN_yes c1_ c2_ c3_ c4_)
          have t2 : decide ((3 : Int) < (f.args.length : Int)) = false := by rw [decide_eq_false_iff_not]; omega
          have t3 : decide ((3 : Int) < (f.rets.length : Int)) = false := by rw [decide_eq_false_iff_not]; omega
          have u0 : (0 : Int) ≤ (f.args.length : Int) + f.locals.length := by omega
          have u1 : (f.args.length : Int) + f.locals.length ≤ 9223372036854775807 := by omega
          have t4 : decide ((6 : Int) < (f.args.length : Int) + f.locals.length) = false := by rw [decide_eq_false_iff_not]; omega
          have HQ := Lib.hid fun w => (show Calls Tryd.prog 42 #[.int .i64 f.seen, .int .i64 0, .int .i64 2] w fun e w' => e = .returned (.bool true) ∧ w = w' from (l6In_any f.seen 0 2 w).mono fun e w' ⟨h1, h2⟩ => ⟨by rw [h1, decide_eq_true c1_.1, decide_eq_true c1_.2]; rfl, h2⟩)
          cases q1 : typesB (ks.take (m + 1)) f.args with
          | false =>
            have q1' := q1
            clear q1
            have HR := Lib.hid (show false = funB ks m n f by unfold funB; rw [HH.out, q1']; simp)
            have HC1 := Lib.hid fun s : Later wA => Calls.later ((l4Types_any F G _ _ (ks.take (m + 1)) f.args s.w (HTA.out.keep fun b hb => s.h.block b (HFA.out b hb)) (HfA.out.args.keep fun b hb => s.h.block b (HGA.out b hb))).mono fun e w' h => ⟨h.1, h.2.below⟩)
            rw [q1'] at HC1
            clear c1_ c2_ c3_ c4_ q1'
            go_enter Tryd.func25, Tryd.ntmps25
            go_wp2_with (go_at_call 42; (with_reducible refine (HQ.out _).mono ?_); rintro e w' ⟨rfl, rfl⟩)
            rw [← HwA.out]
            refine wp_region_later wA (Below.refl _ _) (by kernel_rfl) (by kernel_rfl) ?_
            repeat (go_big_quiet_step (first | (go_at_call 43; with_reducible exact HC1.out _)))
            refine wpQuiet_nil ?_
            intro s
            go_wp2
            go_ret
            exact ⟨ret_bool HR.out, HE.out.trans (s.h.mono HE.out.size)⟩
          | true =>
            cases q2 : typesB (ks.take (m + 1)) f.rets with
            | false =>
              have q2' := q2
              clear q2
              have HR := Lib.hid (show false = funB ks m n f by unfold funB; rw [HH.out, q1, q2']; simp)
              have HC1 := Lib.hid fun s : Later wA => Calls.later ((l4Types_any F G _ _ (ks.take (m + 1)) f.args s.w (HTA.out.keep fun b hb => s.h.block b (HFA.out b hb)) (HfA.out.args.keep fun b hb => s.h.block b (HGA.out b hb))).mono fun e w' h => ⟨h.1, h.2.below⟩)
              rw [q1] at HC1
              have HC2 := Lib.hid fun s : Later wA => Calls.later ((l4Types_any F G _ _ (ks.take (m + 1)) f.rets s.w (HTA.out.keep fun b hb => s.h.block b (HFA.out b hb)) (HfA.out.rets.keep fun b hb => s.h.block b (HGA.out b hb))).mono fun e w' h => ⟨h.1, h.2.below⟩)
              rw [q2'] at HC2
              clear c1_ c2_ c3_ c4_ q1 q2'
              go_enter Tryd.func25, Tryd.ntmps25
              go_wp2_with (go_at_call 42; (with_reducible refine (HQ.out _).mono ?_); rintro e w' ⟨rfl, rfl⟩)
              rw [← HwA.out]
              refine wp_region_later wA (Below.refl _ _) (by kernel_rfl) (by kernel_rfl) ?_
              repeat (go_big_quiet_step (first | (go_at_call 43; with_reducible exact HC1.out _) | (go_at_call 43; with_reducible exact HC2.out _)))
              refine wpQuiet_nil ?_
              intro s
              go_wp2
              go_ret
              exact ⟨ret_bool HR.out, HE.out.trans (s.h.mono HE.out.size)⟩
            | true =>
              cases q3 : typesB (ks.take (m + 1)) f.locals with
              | false =>
                have q3' := q3
                clear q3
                have HR := Lib.hid (show false = funB ks m n f by unfold funB; rw [HH.out, q1, q2, q3']; simp)
                have HC1 := Lib.hid fun s : Later wA => Calls.later ((l4Types_any F G _ _ (ks.take (m + 1)) f.args s.w (HTA.out.keep fun b hb => s.h.block b (HFA.out b hb)) (HfA.out.args.keep fun b hb => s.h.block b (HGA.out b hb))).mono fun e w' h => ⟨h.1, h.2.below⟩)
                rw [q1] at HC1
                have HC2 := Lib.hid fun s : Later wA => Calls.later ((l4Types_any F G _ _ (ks.take (m + 1)) f.rets s.w (HTA.out.keep fun b hb => s.h.block b (HFA.out b hb)) (HfA.out.rets.keep fun b hb => s.h.block b (HGA.out b hb))).mono fun e w' h => ⟨h.1, h.2.below⟩)
                rw [q2] at HC2
                have HC3 := Lib.hid fun s : Later wA => Calls.later ((l4Types_any F G _ _ (ks.take (m + 1)) f.locals s.w (HTA.out.keep fun b hb => s.h.block b (HFA.out b hb)) (HfA.out.locals.keep fun b hb => s.h.block b (HGA.out b hb))).mono fun e w' h => ⟨h.1, h.2.below⟩)
                rw [q3'] at HC3
                clear c1_ c2_ c3_ c4_ q1 q2 q3'
                go_enter Tryd.func25, Tryd.ntmps25
                go_wp2_with (go_at_call 42; (with_reducible refine (HQ.out _).mono ?_); rintro e w' ⟨rfl, rfl⟩)
                rw [← HwA.out]
                refine wp_region_later wA (Below.refl _ _) (by kernel_rfl) (by kernel_rfl) ?_
                repeat (go_big_quiet_step (first | (go_at_call 43; with_reducible exact HC1.out _) | (go_at_call 43; with_reducible exact HC2.out _) | (go_at_call 43; with_reducible exact HC3.out _)))
                refine wpQuiet_nil ?_
                intro s
                go_wp2
                go_ret
                exact ⟨ret_bool HR.out, HE.out.trans (s.h.mono HE.out.size)⟩
              | true =>
                cases q4 : riseP 0 ((n : Int) - 1) none f.takes with
                | false =>
                  have q4' := q4
                  clear q4
                  have HR := Lib.hid (show false = funB ks m n f by unfold funB; rw [HH.out, q1, q2, q3, q4']; rfl)
                  have HC1 := Lib.hid fun s : Later wA => Calls.later ((l4Types_any F G _ _ (ks.take (m + 1)) f.args s.w (HTA.out.keep fun b hb => s.h.block b (HFA.out b hb)) (HfA.out.args.keep fun b hb => s.h.block b (HGA.out b hb))).mono fun e w' h => ⟨h.1, h.2.below⟩)
                  rw [q1] at HC1
                  have HC2 := Lib.hid fun s : Later wA => Calls.later ((l4Types_any F G _ _ (ks.take (m + 1)) f.rets s.w (HTA.out.keep fun b hb => s.h.block b (HFA.out b hb)) (HfA.out.rets.keep fun b hb => s.h.block b (HGA.out b hb))).mono fun e w' h => ⟨h.1, h.2.below⟩)
                  rw [q2] at HC2
                  have HC3 := Lib.hid fun s : Later wA => Calls.later ((l4Types_any F G _ _ (ks.take (m + 1)) f.locals s.w (HTA.out.keep fun b hb => s.h.block b (HFA.out b hb)) (HfA.out.locals.keep fun b hb => s.h.block b (HGA.out b hb))).mono fun e w' h => ⟨h.1, h.2.below⟩)
                  rw [q3] at HC3
                  have HC4 := Lib.hid fun s : Later wA => Calls.later ((l4Rises_any G _ f.takes 0 ((n : Int) - 1) s.w (HfA.out.takes.keep fun b hb => s.h.block b (HGA.out b hb))).mono fun e w' h => ⟨h.1, h.2.below⟩)
                  rw [q4'] at HC4
                  clear c1_ c2_ c3_ c4_ q1 q2 q3 q4'
                  go_enter Tryd.func25, Tryd.ntmps25
                  go_wp2_with (go_at_call 42; (with_reducible refine (HQ.out _).mono ?_); rintro e w' ⟨rfl, rfl⟩)
                  rw [← HwA.out]
                  refine wp_region_later wA (Below.refl _ _) (by kernel_rfl) (by kernel_rfl) ?_
                  repeat (go_big_quiet_step (first | (go_at_call 43; with_reducible exact HC1.out _) | (go_at_call 43; with_reducible exact HC2.out _) | (go_at_call 43; with_reducible exact HC3.out _) | (go_at_call 24; with_reducible exact HC4.out _)))
                  refine wpQuiet_nil ?_
                  intro s
                  go_wp2
                  go_ret
                  exact ⟨ret_bool HR.out, HE.out.trans (s.h.mono HE.out.size)⟩
                | true =>
                  have HR := Lib.hid (show codeB m f.code = funB ks m n f by unfold funB; rw [HH.out, q1, q2, q3, q4]; rfl)
                  have HC1 := Lib.hid fun s : Later wA => Calls.later ((l4Types_any F G _ _ (ks.take (m + 1)) f.args s.w (HTA.out.keep fun b hb => s.h.block b (HFA.out b hb)) (HfA.out.args.keep fun b hb => s.h.block b (HGA.out b hb))).mono fun e w' h => ⟨h.1, h.2.below⟩)
                  rw [q1] at HC1
                  have HC2 := Lib.hid fun s : Later wA => Calls.later ((l4Types_any F G _ _ (ks.take (m + 1)) f.rets s.w (HTA.out.keep fun b hb => s.h.block b (HFA.out b hb)) (HfA.out.rets.keep fun b hb => s.h.block b (HGA.out b hb))).mono fun e w' h => ⟨h.1, h.2.below⟩)
                  rw [q2] at HC2
                  have HC3 := Lib.hid fun s : Later wA => Calls.later ((l4Types_any F G _ _ (ks.take (m + 1)) f.locals s.w (HTA.out.keep fun b hb => s.h.block b (HFA.out b hb)) (HfA.out.locals.keep fun b hb => s.h.block b (HGA.out b hb))).mono fun e w' h => ⟨h.1, h.2.below⟩)
                  rw [q3] at HC3
                  have HC4 := Lib.hid fun s : Later wA => Calls.later ((l4Rises_any G _ f.takes 0 ((n : Int) - 1) s.w (HfA.out.takes.keep fun b hb => s.h.block b (HGA.out b hb))).mono fun e w' h => ⟨h.1, h.2.below⟩)
                  rw [q4] at HC4
                  have HC5 := Lib.hid fun s : Later wA => Calls.later ((l4Code_any G _ m f.code s.w (HfA.out.code.keep fun b hb => s.h.block b (HGA.out b hb)) (fun b hb => Nat.lt_of_lt_of_le (HGA.out b hb) s.h.size)).mono fun e w' h => ⟨h.1, h.2⟩)
                  clear c1_ c2_ c3_ c4_ q1 q2 q3 q4
                  go_enter Tryd.func25, Tryd.ntmps25
                  go_wp2_with (go_at_call 42; (with_reducible refine (HQ.out _).mono ?_); rintro e w' ⟨rfl, rfl⟩)
                  rw [← HwA.out]
                  refine wp_region_later wA (Below.refl _ _) (by kernel_rfl) (by kernel_rfl) ?_
                  repeat (go_big_quiet_step (first | (go_at_call 43; with_reducible exact HC1.out _) | (go_at_call 43; with_reducible exact HC2.out _) | (go_at_call 43; with_reducible exact HC3.out _) | (go_at_call 24; with_reducible exact HC4.out _) | (go_at_call 44; with_reducible exact HC5.out _)))
                  refine wpQuiet_nil ?_
                  intro s
                  go_wp2
                  go_ret
                  exact ⟨ret_bool HR.out, HE.out.trans (s.h.mono HE.out.size)⟩
        · skip
          have HR := Lib.hid (funB_head (ks := ks) (m := m) (n := n) (headN_4 c4_))
          have t2 : decide ((3 : Int) < (f.args.length : Int)) = false := by rw [decide_eq_false_iff_not]; omega
          have t3 : decide ((3 : Int) < (f.rets.length : Int)) = false := by rw [decide_eq_false_iff_not]; omega
          have u0 : (0 : Int) ≤ (f.args.length : Int) + f.locals.length := by omega
          have u1 : (f.args.length : Int) + f.locals.length ≤ 9223372036854775807 := by omega
          have t4 : decide ((6 : Int) < (f.args.length : Int) + f.locals.length) = true := by rw [decide_eq_true_eq]; omega
          have HQ := Lib.hid fun w => (show Calls Tryd.prog 42 #[.int .i64 f.seen, .int .i64 0, .int .i64 2] w fun e w' => e = .returned (.bool true) ∧ w = w' from (l6In_any f.seen 0 2 w).mono fun e w' ⟨h1, h2⟩ => ⟨by rw [h1, decide_eq_true c1_.1, decide_eq_true c1_.2]; rfl, h2⟩)
          clear c1_
          go_enter Tryd.func25, Tryd.ntmps25
          go_wp2_with (go_at_call 42; (with_reducible refine (HQ.out _).mono ?_); rintro e w' ⟨rfl, rfl⟩)
          rw [← HwA.out]
          go_ret
          exact ⟨ret_bool HR.out, HE.out⟩
      · skip
        have HR := Lib.hid (funB_head (ks := ks) (m := m) (n := n) (headN_3 c3_))
        have t2 : decide ((3 : Int) < (f.args.length : Int)) = false := by rw [decide_eq_false_iff_not]; omega
        have t3 : decide ((3 : Int) < (f.rets.length : Int)) = true := by rw [decide_eq_true_eq]; omega
        have HQ := Lib.hid fun w => (show Calls Tryd.prog 42 #[.int .i64 f.seen, .int .i64 0, .int .i64 2] w fun e w' => e = .returned (.bool true) ∧ w = w' from (l6In_any f.seen 0 2 w).mono fun e w' ⟨h1, h2⟩ => ⟨by rw [h1, decide_eq_true c1_.1, decide_eq_true c1_.2]; rfl, h2⟩)
        clear c1_
        go_enter Tryd.func25, Tryd.ntmps25
        go_wp2_with (go_at_call 42; (with_reducible refine (HQ.out _).mono ?_); rintro e w' ⟨rfl, rfl⟩)
        rw [← HwA.out]
        go_ret
        exact ⟨ret_bool HR.out, HE.out⟩
    · skip
      have HR := Lib.hid (funB_head (ks := ks) (m := m) (n := n) (headN_2 c2_))
      have t2 : decide ((3 : Int) < (f.args.length : Int)) = true := by rw [decide_eq_true_eq]; omega
      have HQ := Lib.hid fun w => (show Calls Tryd.prog 42 #[.int .i64 f.seen, .int .i64 0, .int .i64 2] w fun e w' => e = .returned (.bool true) ∧ w = w' from (l6In_any f.seen 0 2 w).mono fun e w' ⟨h1, h2⟩ => ⟨by rw [h1, decide_eq_true c1_.1, decide_eq_true c1_.2]; rfl, h2⟩)
      clear c1_
      go_enter Tryd.func25, Tryd.ntmps25
      go_wp2_with (go_at_call 42; (with_reducible refine (HQ.out _).mono ?_); rintro e w' ⟨rfl, rfl⟩)
      rw [← HwA.out]
      go_ret
      exact ⟨ret_bool HR.out, HE.out⟩
  · skip
    have HR := Lib.hid (funB_head (ks := ks) (m := m) (n := n) (headN_1 c1_))
    have HQ := Lib.hid fun w => (show Calls Tryd.prog 42 #[.int .i64 f.seen, .int .i64 0, .int .i64 2] w fun e w' => e = .returned (.bool false) ∧ w = w' from (l6In_any f.seen 0 2 w).mono fun e w' ⟨h1, h2⟩ => ⟨by rw [h1, show (decide (0 ≤ f.seen) && decide (f.seen ≤ 2)) = false by simpa using c1_], h2⟩)
    clear c1_
    go_enter Tryd.func25, Tryd.ntmps25
    go_wp2_with (go_at_call 42; (with_reducible refine (HQ.out _).mono ?_); rintro e w' ⟨rfl, rfl⟩)
    rw [← HwA.out]
    go_ret
    exact ⟨ret_bool HR.out, HE.out⟩
end Go.Proofs.YthkdkefkgmmoiaaDoor

namespace Go.Proofs.YthkdkefkgmmoiaaDoor
open Go.RowKit

def modB (ks : Ks) (n m : Nat) (x : ModR) : Bool := decide (x.funcs.length ≤ 4) && riseP ((m : Int) + 1) ((n : Int) - 1) none x.friends && x.funcs.all (funB ks m x.records.length)
def modsB (ks : Ks) (n : Nat) : Nat → List ModR → Bool
  | _, [] => true
  | m, x :: r => modB ks n m x && modsB ks n (m + 1) r
def shapeB (xs : List ModR) : Bool := kindsOk (kindsOf xs) && modsB (kindsOf xs) xs.length 0 xs

theorem modsB_stop {ks : Ks} {n k : Nat} {xs : List ModR} {R : Bool} (hk : k < xs.length) (h : modsB ks n k (xs.drop k) = R) (hn : modB ks n k xs[k] = false) : false = R := by
  rw [← h, List.drop_eq_getElem_cons hk]; simp only [modsB]; rw [hn]; rfl
theorem modsB_step {ks : Ks} {n k : Nat} {xs : List ModR} {R : Bool} (hk : k < xs.length) (h : modsB ks n k (xs.drop k) = R) (hn : modB ks n k xs[k] = true) : modsB ks n (k + 1) (xs.drop (k + 1)) = R := by
  rw [← h, List.drop_eq_getElem_cons hk]; simp only [modsB]; rw [hn]; rfl
theorem modsB_end {ks : Ks} {n k : Nat} {xs : List ModR} {R : Bool} (hk : k = xs.length) (h : modsB ks n k (xs.drop k) = R) : true = R := by
  rw [← h, hk, List.drop_length]; rfl

set_option maxRecDepth 100000 in
set_option maxHeartbeats 8000000 in
theorem specShelfShape_any (F : Nat → Prop) (v : Value) (xs : List ModR) (w : World) (h : Cod.modr.Sl F w v xs) (hF : ∀ b, F b → b < w.heap.size) (hn : xs.length ≤ 2000000) (hsm : ∀ x ∈ xs, SmolModr x) :
    Calls Tryd.prog 10 #[v] w fun e w' => e = .returned (.bool (shapeB xs)) ∧ Below w.heap.size w w' := by
  have HS := Lib.hid h
  have HF := Lib.hid hF
  have HM := Lib.hid hsm
  have HC := Lib.hid (specShelfKinds_any F v xs w h hF hn hsm)
  obtain ⟨A, cap, rfl, hlc, hcm, _⟩ := h
  unfold maxLen at hcm
  obtain ⟨ks, hks⟩ : ∃ ks, ks = kindsOf xs := ⟨_, rfl⟩
  unfold KindsD at HC
  rw [← hks] at HC
  have HKl := Lib.hid (show ks.length = xs.length by rw [hks]; exact kindsOf_length xs)
  have HKa := Lib.hid (show ∀ (k : Nat) (hk : k < xs.length), ∃ hh : k < ks.length, ks[k].length = xs[k].records.length from fun k hk => by subst hks; exact ⟨by rw [kindsOf_length]; exact hk, by rw [kindsOf_at hk]⟩)
  have HSh := Lib.hid (show shapeB xs = (kindsOk ks && modsB ks xs.length 0 xs) by rw [hks]; rfl)
  clear hks hsm hF
  cases hok : kindsOk ks with
  | false =>
    have HR := Lib.hid (show false = shapeB xs by rw [HSh.out, hok]; rfl)
    go_enter Tryd.func10, Tryd.ntmps10
    go_wp2_with fail
    refine HC.out.mono ?_
    rintro e w1 ⟨A', c', rfl, hO, hb⟩
    have HK := Lib.hid (specKindsOk_any _ _ ks w1 hO.sl (fun b hb => hb.2))
    have HB1 := Lib.hid hb
    rw [hok] at HK
    clear hb hO hok
    go_wp2_with fail
    refine HK.out.mono ?_
    rintro e w2 ⟨rfl, hb⟩
    have HB2 := Lib.hid (HB1.out.trans (hb.mono HB1.out.size))
    clear hb
    go_wp2_with fail
    go_ret
    exact ⟨ret_bool HR.out, HB2.out⟩
  | true =>
    have HSh2 := Lib.hid (show modsB ks xs.length 0 (xs.drop 0) = shapeB xs by rw [HSh.out, hok]; rfl)
    go_enter Tryd.func10, Tryd.ntmps10
    go_wp2_with fail
    refine HC.out.mono ?_
    rintro e w1 ⟨A', c', rfl, hO, hb⟩
    have HK := Lib.hid (specKindsOk_any _ _ ks w1 hO.sl (fun b hb => hb.2))
    have HB1 := Lib.hid hb
    have HO1 := Lib.hid hO.sl
    rw [hok] at HK
    clear hb hO hok
    go_wp2_with fail
    refine HK.out.mono ?_
    rintro e w2 ⟨rfl, hb⟩
    have HB2 := Lib.hid (show Below w1.heap.size w1 w2 from hb)
    clear hb HK
    go_wp2
    go_loopw [4] (fun i wr => ∃ (k : Nat), k ≤ xs.length ∧ i = .int .i64 k ∧ Hid (modsB ks xs.length k (xs.drop k) = shapeB xs) ∧ Hid (Below w1.heap.size w1 wr)) (fun i _ => xs.length - (intOf i).toNat)
    case atStart => exact ⟨0, Nat.zero_le _, rfl, HSh2, HB2⟩
    case round =>
      obtain ⟨k, hk, rfl, HI, HBr⟩ := hrel
      obtain ⟨wo, hwo⟩ : ∃ wo, wo = wr := ⟨_, rfl⟩
      subst hwo
      by_cases hlt : k < xs.length
      · have HBw := Lib.hid (HB1.out.trans (HBr.out.mono HB1.out.size))
        have HSr := Lib.hid (HS.out.keep (below_keeps HBw.out HF.out))
        have HFr := Lib.hid (show ∀ b, F b → b < wo.heap.size from fun b hb => Nat.lt_of_lt_of_le (HF.out b hb) HBw.out.size)
        obtain ⟨b, off, cap', D0, e0, D1, e1, D2, e2, hv, hFb, _, _, k0, k1, k2, hd⟩ := HSr.out.modr_at hlt
        obtain ⟨rfl, rfl⟩ : A = some ⟨b, off, none⟩ ∧ cap = cap' := by simpa using hv
        have hbl := HFr.out b hFb
        have i0 : (0 : Int) ≤ k := by omega
        have i1 : (k : Int) < xs.length := by omega
        have i2 : (0 : Int) ≤ (k : Int) + 1 := by omega
        have i3 : (k : Int) + 1 ≤ 9223372036854775807 := by omega
        have i4 : (0 : Int) ≤ (xs.length : Int) - 1 := by omega
        have i5 : (xs.length : Int) - 1 ≤ 9223372036854775807 := by omega
        have HRi := Lib.hid fun wx (hb : Below w1.heap.size w1 wx) => l4Rises_any F (.slice D2 xs[k].friends.length e2) xs[k].friends ((k : Int) + 1) ((xs.length : Int) - 1) wx
        have HD := Lib.hid hd
        have hstop := fun h => modsB_stop (ks := ks) (n := xs.length) hlt HI.out h
        have hstep := fun h => modsB_step (ks := ks) (n := xs.length) hlt HI.out h
        obtain ⟨hkk, hkl⟩ := HKa.out k hlt
        have hl0 : xs[k].funcs.length ≤ e1 := by obtain ⟨_, _, h1, h2, _⟩ := hd.funcs; simp only [Value.slice.injEq] at h1; omega
        have hl1 : e1 ≤ 2 ^ 63 - 1 := by obtain ⟨_, _, h1, h2, h3, _⟩ := hd.funcs; simp only [Value.slice.injEq] at h1; unfold maxLen at h3; omega
        have HMx := Lib.hid (HM.out _ (List.getElem_mem hlt))
        have hRi := l4Rises_any F (.slice D2 xs[k].friends.length e2) xs[k].friends ((k : Int) + 1) ((xs.length : Int) - 1) wo hd.friends
        generalize xs[k] = x at *
        have Hstop := Lib.hid hstop
        have Hstep := Lib.hid hstep
        have Hkl := Lib.hid hkl
        clear hv hd hstop hstep hkl HRi
        by_cases hf : x.funcs.length ≤ 4
        · have t1 : decide ((4 : Int) < (x.funcs.length : Int)) = false := by rw [decide_eq_false_iff_not]; omega
          cases hr : riseP ((k : Int) + 1) ((xs.length : Int) - 1) none x.friends with
          | false =>
            have HR := Lib.hid (Hstop.out (by unfold modB; rw [hr, Bool.and_false]; rfl))
            rw [hr] at hRi
            have HRi := Lib.hid hRi
            clear hr hRi
            go_wp2_with (go_at_call 24; (with_reducible refine HRi.out.mono ?_); rintro e w3 ⟨rfl, hD⟩)
            go_ret
            exact ⟨ret_bool HR.out, HBw.out.trans (hD.below.mono HBw.out.size)⟩
          | true =>
            have HX := Lib.hid (show ∀ R, x.funcs.all (funB ks k x.records.length) = R → modB ks xs.length k x = R from fun R h => by unfold modB; rw [hr, decide_eq_true hf, h]; rfl)
            rw [hr] at hRi
            have HRi := Lib.hid hRi
            have HA0 := Lib.hid (show (x.funcs.drop 0).all (funB ks k x.records.length) = x.funcs.all (funB ks k x.records.length) from rfl)
            clear hr hRi
            go_wp2_with (go_at_call 24; (with_reducible refine HRi.out.mono ?_); rintro e w3 ⟨rfl, hD⟩)
            have HB3 := Lib.hid (HBr.out.trans (hD.below.mono HBr.out.size))
            clear hD
            go_loopw [5] (fun i wy => ∃ (j : Nat), j ≤ x.funcs.length ∧ i = .int .i64 j ∧ Hid ((x.funcs.drop j).all (funB ks k x.records.length) = x.funcs.all (funB ks k x.records.length)) ∧ Hid (Below w1.heap.size w1 wy)) (fun i _ => x.funcs.length - (intOf i).toNat)
            case atStart => exact ⟨0, Nat.zero_le _, rfl, HA0, HB3⟩
            case round =>
              obtain ⟨j, hj, rfl, HJ, HBy⟩ := hrel
              have hb1 : b < w1.heap.size := Nat.lt_of_lt_of_le (HF.out b hFb) HB1.out.size
              have k1y : wr.cell? ⟨b, off + k * 3 + 1, none⟩ = some (.slice D1 x.funcs.length e1) := (HBy.out.cell (p := ⟨b, off + k * 3 + 1, none⟩) hb1).trans ((HBr.out.cell (p := ⟨b, off + k * 3 + 1, none⟩) hb1).symm.trans k1)
              by_cases hlj : j < x.funcs.length
              · have HDy := Lib.hid (HD.out.funcs.keep (w' := wr) fun b hb => (HBy.out.block b (Nat.lt_of_lt_of_le (HF.out b hb) HB1.out.size)).trans (HBr.out.block b (Nat.lt_of_lt_of_le (HF.out b hb) HB1.out.size)).symm)
                obtain ⟨bb, oo, cp, B1, d1, B2, d2, B3, d3, B4, d4, B5, d5, hv2, hFbb, _, _, q0, q1, q2, q3, q4, q5, hfd⟩ := HDy.out.funr_at hlj
                obtain ⟨rfl, rfl⟩ : D1 = some ⟨bb, oo, none⟩ ∧ e1 = cp := by simpa using hv2
                have hl2 := (HMx.out.2.2.2.2 _ (List.getElem_mem hlj)).2.2.1
                have hC := l4Func_any _ F _ _ _ _ _ _ ks k x.funcs[j] wr (HO1.out.keep fun b hb => HBy.out.block b hb.2) (fun b hb => Nat.lt_of_lt_of_le hb.2 HBy.out.size) hkk hfd (fun b hb => Nat.lt_of_lt_of_le (Nat.lt_of_lt_of_le (HF.out b hb) HB1.out.size) HBy.out.size) hl2
                rw [Hkl.out] at hC
                have hst := fun h => all_stop (p := funB ks k x.records.length) hlj HJ.out h
                have hsp := fun h => all_step (p := funB ks k x.records.length) hlj HJ.out h
                have j0 : (0 : Int) ≤ j := by omega
                have j1 : (j : Int) < x.funcs.length := by omega
                generalize x.funcs[j] = y at *
                have Hst := Lib.hid hst
                have Hsp := Lib.hid hsp
                have HBw3 := Lib.hid (HB1.out.trans (HBy.out.mono HB1.out.size))
                clear hv2 hfd hst hsp hl2
                cases hg : funB ks k x.records.length y with
                | false =>
                  have HR := Lib.hid (Hstop.out (HX.out _ (Hst.out hg).symm))
                  rw [hg] at hC
                  have HC2 := Lib.hid hC
                  clear hg hC
                  go_wp2_with (go_at_call 25; (with_reducible refine HC2.out.mono ?_); rintro e w4 ⟨rfl, hb⟩)
                  go_ret
                  exact ⟨ret_bool HR.out, HBw3.out.trans (hb.mono HBw3.out.size)⟩
                | true =>
                  have HN := Lib.hid (Hsp.out hg)
                  rw [hg] at hC
                  have HC2 := Lib.hid hC
                  clear hg hC
                  go_wp2_with (go_at_call 25; (with_reducible refine HC2.out.mono ?_); rintro e w4 ⟨rfl, hb⟩)
                  go_roundw
                  case rel => exact ⟨j + 1, by omega, by go_num, HN, HBy.out.trans (hb.mono HBy.out.size)⟩
                  case measure => simp [intOf]; omega
              · have HN := Lib.hid (Hstep.out (HX.out _ (all_end (show j = x.funcs.length by omega) HJ.out).symm))
                go_wp2
                go_roundw
                case rel => exact ⟨k + 1, by omega, by go_num, HN, HBy⟩
                case measure => simp [intOf]; omega
        · have t1 : decide ((4 : Int) < (x.funcs.length : Int)) = true := by rw [decide_eq_true_eq]; omega
          have HR := Lib.hid (Hstop.out (by unfold modB; rw [decide_eq_false hf]; rfl))
          go_wp2
          go_ret
          exact ⟨ret_bool HR.out, HBw.out⟩
      · have HR := Lib.hid (modsB_end (show k = xs.length by omega) HI.out)
        go_wp2
        go_ret
        exact ⟨ret_bool HR.out, HB1.out.trans (HBr.out.mono HB1.out.size)⟩
end Go.Proofs.YthkdkefkgmmoiaaDoor
