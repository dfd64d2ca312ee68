/- FuncSeen, of the model and of the program. -/
import Derived.Test.YthhheipinogcoaaGi
import Derived.Test.YthhheipinogcoaaGf
namespace Go.Proofs.Ythhheipinogcoaa
open Go.RowKit

def fseen (xs : List ModR) (fr m f : Int) : Bool :=
  match fAt xs m f with
  | none => false
  | some y => (decide (m ≤ fr) && decide (fr < xs.length)) && (decide (fr = m) || (decide (y.seen = 2) || (decide (y.seen = 1) && decide (fr ∈ (xs.getD m.toNat ⟨[], [], []⟩).friends))))
theorem fseen_none {xs : List ModR} {fr m f : Int} (h : fAt xs m f = none) : fseen xs fr m f = false := by unfold fseen; rw [h]
theorem fseen_out {xs : List ModR} {fr m f : Int} (h : ¬ (m ≤ fr ∧ fr < xs.length)) : fseen xs fr m f = false := by
  unfold fseen
  split
  · rfl
  · have : (decide (m ≤ fr) && decide (fr < xs.length)) = false := by
      rw [Bool.eq_false_iff]
      simp only [ne_eq, Bool.and_eq_true, decide_eq_true_eq]
      exact h
    rw [this, Bool.false_and]
theorem fseen_some {xs : List ModR} {fr : Int} {m : Nat} {f : Int} {y : FunR} (h : fAt xs m f = some y) (hm : m < xs.length) (h1 : (m : Int) ≤ fr) (h2 : fr < xs.length) : fseen xs fr m f = (decide (fr = m) || (decide (y.seen = 2) || (decide (y.seen = 1) && decide (fr ∈ xs[m].friends)))) := by
  unfold fseen
  rw [h]
  simp [h1, h2, List.getElem?_eq_getElem hm]

set_option maxRecDepth 100000 in
set_option maxHeartbeats 2000000 in
theorem l4Has_any (F : Nat → Prop) (v : Value) (xs : List ModR) (m f : Int) (w : World) (h : Cod.modr.Sl F w v xs) (hsm : ∀ x ∈ xs, SmolModr x) :
    Calls Try.prog 39 #[v, .int .i64 m, .int .i64 f] w fun e w' => e = .returned (.bool (fAt xs m f).isSome) ∧ w = w' := by
  have HS := Lib.hid h
  obtain ⟨A, cap, rfl, hlc, hcm, _⟩ := h
  unfold maxLen at hcm
  have H6 := Lib.hid fun (w' : World) => l6In_yn m 0 ((xs.length : Int) - 1) w'
  by_cases hm : 0 ≤ m ∧ m < xs.length
  · obtain ⟨mn, rfl⟩ : ∃ mn : Nat, m = mn := ⟨m.toNat, by omega⟩
    have hml : mn < xs.length := by omega
    obtain ⟨b, off, cap', D0, e0, D1, e1, D2, e2, hv, hFb, _, _, k0, k1, k2, hd⟩ := HS.out.modr_at hml
    obtain ⟨rfl, rfl⟩ : A = some ⟨b, off, none⟩ ∧ cap = cap' := by simpa using hv
    have hx := (hsm _ (List.getElem_mem hml)).2.1
    have H7 := Lib.hid fun (w' : World) => l6In_yn f 0 ((xs[mn].funcs.length : Int) - 1) w'
    have H6' := Lib.hid fun (w' : World) => (H6.out w').1 (by omega)
    by_cases hf : 0 ≤ f ∧ f < xs[mn].funcs.length
    · have HX := Lib.hid (show (fAt xs mn f).isSome = true by
        obtain ⟨fn, rfl⟩ : ∃ fn : Nat, f = fn := ⟨f.toNat, by omega⟩
        rw [fAt_yes hml (by omega)]
        rfl)
      have H7' := Lib.hid fun (w' : World) => (H7.out w').1 (by omega)
      clear H6 H7 hf hv hd hm hsm
      go_enter Try.func39, Try.ntmps39
      go_wp2_with (first | (go_at_call 54; with_reducible refine (H6'.out _).mono ?_; rintro e w' ⟨rfl, rfl⟩) | (go_at_call 54; with_reducible refine (H7'.out _).mono ?_; rintro e w' ⟨rfl, rfl⟩))
      go_ret
      exact ⟨ret_bool HX.out.symm, rfl⟩
    · have HX := Lib.hid (show (fAt xs mn f).isSome = false by
        rw [fAt_no fun hh => hf ⟨hh.2.1, by obtain ⟨h1, h2⟩ := hh.2.2; simp only [Int.toNat_natCast] at h2; omega⟩]
        rfl)
      have H7' := Lib.hid fun (w' : World) => (H7.out w').2 (by omega)
      clear H6 H7 hf hv hd hm hsm
      go_enter Try.func39, Try.ntmps39
      go_wp2_with (first | (go_at_call 54; with_reducible refine (H6'.out _).mono ?_; rintro e w' ⟨rfl, rfl⟩) | (go_at_call 54; with_reducible refine (H7'.out _).mono ?_; rintro e w' ⟨rfl, rfl⟩))
      go_ret
      exact ⟨ret_bool HX.out.symm, rfl⟩
  · have HX := Lib.hid (show (fAt xs m f).isSome = false by
      rw [fAt_no fun hh => hm ⟨hh.1, by obtain ⟨h1, h2⟩ := hh.2.2; omega⟩]
      rfl)
    have H6' := Lib.hid fun (w' : World) => (H6.out w').2 (by omega)
    clear H6 hm hsm
    go_enter Try.func39, Try.ntmps39
    go_wp2_with (go_at_call 54; with_reducible refine (H6'.out _).mono ?_; rintro e w' ⟨rfl, rfl⟩)
    go_ret
    exact ⟨ret_bool HX.out.symm, rfl⟩

set_option maxRecDepth 100000 in
set_option maxHeartbeats 4000000 in
theorem specFuncSeen_any (F : Nat → Prop) (v : Value) (xs : List ModR) (fr m f : Int) (w : World) (h : Cod.modr.Sl F w v xs) (hsm : ∀ x ∈ xs, SmolModr x) :
    Calls Try.prog 26 #[v, .int .i64 fr, .int .i64 m, .int .i64 f] w fun e w' => e = .returned (.bool (fseen xs fr m f)) ∧ w = w' := by
  have HS := Lib.hid h
  have HH := Lib.hid (l4Has_any F v xs m f w h hsm)
  obtain ⟨A, cap, rfl, hlc, hcm, _⟩ := h
  unfold maxLen at hcm
  have H6 := Lib.hid (l6In_yn fr 0 ((xs.length : Int) - 1) w)
  cases hat : fAt xs m f with
  | none =>
    have HX := Lib.hid (fseen_none (fr := fr) hat)
    rw [hat] at HH
    clear hat hsm H6
    go_enter Try.func26, Try.ntmps26
    go_wp2_with (go_at_call 39; with_reducible refine HH.out.mono ?_; rintro e w' ⟨rfl, rfl⟩)
    go_ret
    exact ⟨ret_bool HX.out.symm, rfl⟩
  | some y =>
    rw [hat] at HH
    have hyes : 0 ≤ m ∧ 0 ≤ f ∧ ∃ h : m.toNat < xs.length, f.toNat < xs[m.toNat].funcs.length := by
      rcases Classical.em (0 ≤ m ∧ 0 ≤ f ∧ ∃ h : m.toNat < xs.length, f.toNat < xs[m.toNat].funcs.length) with h | h
      · exact h
      · rw [fAt_no h] at hat; cases hat
    obtain ⟨hm0, hf0, hml, hfl⟩ := hyes
    obtain ⟨mn, rfl⟩ : ∃ mn : Nat, m = mn := ⟨m.toNat, by omega⟩
    obtain ⟨fn, rfl⟩ : ∃ fn : Nat, f = fn := ⟨f.toNat, by omega⟩
    simp only [Int.toNat_natCast] at hml hfl
    by_cases h0 : 0 ≤ fr ∧ fr < xs.length
    · have H6' := Lib.hid (H6.out.1 (by omega))
      by_cases hlt : fr < (mn : Int)
      · have HX := Lib.hid (fseen_out (xs := xs) (fr := fr) (m := mn) (f := fn) (by omega))
        clear hat hsm H6
        go_enter Try.func26, Try.ntmps26
        go_wp2_with (first | (go_at_call 39; with_reducible refine HH.out.mono ?_; rintro e w' ⟨rfl, rfl⟩) | (go_at_call 54; with_reducible refine H6'.out.mono ?_; rintro e w' ⟨rfl, rfl⟩))
        go_ret
        exact ⟨ret_bool HX.out.symm, rfl⟩
      · have HX := Lib.hid (fseen_some hat hml (by omega) h0.2)
        rw [fAt_yes hml hfl] at hat
        simp only [Option.some.injEq] at hat
        obtain ⟨b, off, cap', D0, e0, D1, e1, D2, e2, hv, hFb, _, _, k0, k1, k2, hd⟩ := HS.out.modr_at hml
        obtain ⟨rfl, rfl⟩ : A = some ⟨b, off, none⟩ ∧ cap = cap' := by simpa using hv
        obtain ⟨bb, oo, cp, B1, d1, B2, d2, B3, d3, B4, d4, B5, d5, hv2, hFbb, hl2, hcp, q0, q1, q2, q3, q4, q5, hfd⟩ := hd.funcs.funr_at hfl
        obtain ⟨rfl, rfl⟩ : D1 = some ⟨bb, oo, none⟩ ∧ e1 = cp := by simpa using hv2
        rw [hat] at q0
        have HI := Lib.hid (l4In_any F _ xs[mn].friends fr w hd.friends)
        unfold maxLen at hcp
        clear hv hv2 hd hfd hat hsm q1 q2 q3 q4 q5 H6
        by_cases ha : fr = mn
        · have t1 : ((mn : Int) == fr) = true := by rw [ha]; simp
          have HY := Lib.hid (show fseen xs fr mn fn = true by rw [HX.out]; simp [ha])
          clear HX ha
          go_enter Try.func26, Try.ntmps26
          go_wp2_with (first | (go_at_call 39; with_reducible refine HH.out.mono ?_; rintro e w' ⟨rfl, rfl⟩) | (go_at_call 54; with_reducible refine H6'.out.mono ?_; rintro e w' ⟨rfl, rfl⟩) | (go_at_call 59; with_reducible refine HI.out.mono ?_; rintro e w' ⟨rfl, rfl⟩))
          go_ret
          exact ⟨ret_bool HY.out.symm, rfl⟩
        · have t1 : ((mn : Int) == fr) = false := by simp [Ne.symm ha]
          by_cases hb : y.seen = 2
          · have t2 : (y.seen == 2) = true := by rw [hb]; rfl
            have HY := Lib.hid (show fseen xs fr mn fn = true by rw [HX.out]; simp [hb])
            clear HX hb
            go_enter Try.func26, Try.ntmps26
            go_wp2_with (first | (go_at_call 39; with_reducible refine HH.out.mono ?_; rintro e w' ⟨rfl, rfl⟩) | (go_at_call 54; with_reducible refine H6'.out.mono ?_; rintro e w' ⟨rfl, rfl⟩) | (go_at_call 59; with_reducible refine HI.out.mono ?_; rintro e w' ⟨rfl, rfl⟩))
            go_ret
            exact ⟨ret_bool HY.out.symm, rfl⟩
          · have t2 : (y.seen == 2) = false := by simp [hb]
            by_cases hc : y.seen = 1
            · have t3 : (y.seen == 1) = true := by rw [hc]; rfl
              have HY := Lib.hid (show fseen xs fr mn fn = decide (fr ∈ xs[mn].friends) by rw [HX.out]; simp [ha, hb, hc])
              clear HX ha hb hc
              go_enter Try.func26, Try.ntmps26
              go_wp2_with (first | (go_at_call 39; with_reducible refine HH.out.mono ?_; rintro e w' ⟨rfl, rfl⟩) | (go_at_call 54; with_reducible refine H6'.out.mono ?_; rintro e w' ⟨rfl, rfl⟩) | (go_at_call 59; with_reducible refine HI.out.mono ?_; rintro e w' ⟨rfl, rfl⟩))
              go_ret
              exact ⟨ret_bool HY.out.symm, rfl⟩
            · have t3 : (y.seen == 1) = false := by simp [hc]
              have HY := Lib.hid (show fseen xs fr mn fn = false by rw [HX.out]; simp [ha, hb, hc])
              clear HX ha hb hc
              go_enter Try.func26, Try.ntmps26
              go_wp2_with (first | (go_at_call 39; with_reducible refine HH.out.mono ?_; rintro e w' ⟨rfl, rfl⟩) | (go_at_call 54; with_reducible refine H6'.out.mono ?_; rintro e w' ⟨rfl, rfl⟩) | (go_at_call 59; with_reducible refine HI.out.mono ?_; rintro e w' ⟨rfl, rfl⟩))
              go_ret
              exact ⟨ret_bool HY.out.symm, rfl⟩
    · have HX := Lib.hid (fseen_out (xs := xs) (fr := fr) (m := mn) (f := fn) (by omega))
      have H6' := Lib.hid (H6.out.2 (by omega))
      clear hat hsm H6
      go_enter Try.func26, Try.ntmps26
      go_wp2_with (first | (go_at_call 39; with_reducible refine HH.out.mono ?_; rintro e w' ⟨rfl, rfl⟩) | (go_at_call 54; with_reducible refine H6'.out.mono ?_; rintro e w' ⟨rfl, rfl⟩))
      go_ret
      exact ⟨ret_bool HX.out.symm, rfl⟩

set_option maxRecDepth 100000 in
set_option maxHeartbeats 4000000 in
theorem implFuncSeen_any (F : Nat → Prop) (v : Value) (xs : List ModR) (fr m f : Int) (w : World) (h : Cod.modr.Sl F w v xs) (hF : ∀ b, F b → b < w.heap.size) (hsm : ∀ x ∈ xs, SmolModr x) (hm64 : I64 m) (hf64 : I64 f) :
    Calls Try.prog 27 #[v, .int .i64 fr, .int .i64 m, .int .i64 f] w fun e w' => e = .returned (.bool (fseen xs fr m f)) ∧ Below w.heap.size w w' := by
  have HS := Lib.hid h
  have HH := Lib.hid (implShelfFunc_any F v xs m f w h hF hsm hm64 hf64)
  obtain ⟨A, cap, rfl, hlc, hcm, _⟩ := h
  unfold maxLen at hcm
  cases hat : fAt xs m f with
  | none =>
    have HX := Lib.hid (fseen_none (fr := fr) hat)
    rw [hat] at HH
    clear hat hsm
    go_enter Try.func27, Try.ntmps27
    go_wp2_with fail
    refine HH.out.mono ?_
    rintro e w1 ⟨A1, A2, A3, A4, A5, c1, c2, c3, c4, c5, rfl, _, hb⟩
    have HQ := Lib.hid (hb.alloc hb.size (.cells #[.int .i64 zeroF.seen, .slice A1 zeroF.args.length c1, .slice A2 zeroF.rets.length c2, .slice A3 zeroF.locals.length c3, .slice A4 zeroF.takes.length c4, .slice A5 zeroF.code.length c5] 37))
    dsimp only [funV, Option.getD, Option.isSome]
    clear hb HH
    go_wp2
    go_ret
    exact ⟨ret_bool HX.out.symm, HQ.out⟩
  | some y =>
    rw [hat] at HH
    have hyes : 0 ≤ m ∧ 0 ≤ f ∧ ∃ h : m.toNat < xs.length, f.toNat < xs[m.toNat].funcs.length := by
      rcases Classical.em (0 ≤ m ∧ 0 ≤ f ∧ ∃ h : m.toNat < xs.length, f.toNat < xs[m.toNat].funcs.length) with h | h
      · exact h
      · rw [fAt_no h] at hat; cases hat
    obtain ⟨hm0, hf0, hml, hfl⟩ := hyes
    obtain ⟨mn, rfl⟩ : ∃ mn : Nat, m = mn := ⟨m.toNat, by omega⟩
    obtain ⟨fn, rfl⟩ : ∃ fn : Nat, f = fn := ⟨f.toNat, by omega⟩
    simp only [Int.toNat_natCast] at hml hfl
    by_cases h0 : (mn : Int) ≤ fr ∧ fr < xs.length
    · have HX := Lib.hid (fseen_some hat hml h0.1 h0.2)
      obtain ⟨b, off, cap', D0, e0, D1, e1, D2, e2, hv, hFb, _, _, k0, k1, k2, hd⟩ := HS.out.modr_at hml
      obtain ⟨rfl, rfl⟩ : A = some ⟨b, off, none⟩ ∧ cap = cap' := by simpa using hv
      have HV := Lib.hid hd.friends
      have hbl := hF b hFb
      have HF := Lib.hid hF
      clear hv hd hat hsm hF hFb
      by_cases ha : fr = mn
      · have t1 : (fr == (mn : Int)) = true := by rw [ha]; simp
        have HY := Lib.hid (show fseen xs fr mn fn = true by rw [HX.out]; simp [ha])
        clear HX ha
        go_enter Try.func27, Try.ntmps27
        go_wp2_with fail
        refine HH.out.mono ?_
        rintro e w1 ⟨A1, A2, A3, A4, A5, c1, c2, c3, c4, c5, rfl, _, hb⟩
        dsimp only [funV, Option.getD, Option.isSome]
        have HQ := Lib.hid (hb.alloc hb.size (.cells #[.int .i64 y.seen, .slice A1 y.args.length c1, .slice A2 y.rets.length c2, .slice A3 y.locals.length c3, .slice A4 y.takes.length c4, .slice A5 y.code.length c5] 37))
        have hbl1 : b < w1.heap.size := Nat.lt_of_lt_of_le hbl hb.size
        have z2 : w1.cell? ⟨b, off + mn * 3 + 2, none⟩ = some (.slice D2 xs[mn].friends.length e2) := (hb.cell (p := ⟨b, off + mn * 3 + 2, none⟩) hbl).trans k2
        have HI := Lib.hid (contains_any F _ xs[mn].friends fr (w1.alloc (.cells #[.int .i64 y.seen, .slice A1 y.args.length c1, .slice A2 y.rets.length c2, .slice A3 y.locals.length c3, .slice A4 y.takes.length c4, .slice A5 y.code.length c5] 37)) (HV.out.keep (below_keeps HQ.out HF.out)))
        clear hb HH k0 k1 k2
        go_wp2_with (go_at_call 60; with_reducible refine HI.out.mono ?_; rintro e w' ⟨rfl, rfl⟩)
        go_ret
        exact ⟨ret_bool HY.out.symm, HQ.out⟩
      · have t1 : (fr == (mn : Int)) = false := by simp [ha]
        by_cases hc : y.seen = 1
        · have t3 : (y.seen == 1) = true := by rw [hc]; rfl
          have HY := Lib.hid (show fseen xs fr mn fn = decide (fr ∈ xs[mn].friends) by rw [HX.out]; simp [ha, hc])
          clear HX ha hc
          go_enter Try.func27, Try.ntmps27
          go_wp2_with fail
          refine HH.out.mono ?_
          rintro e w1 ⟨A1, A2, A3, A4, A5, c1, c2, c3, c4, c5, rfl, _, hb⟩
          dsimp only [funV, Option.getD, Option.isSome]
          have HQ := Lib.hid (hb.alloc hb.size (.cells #[.int .i64 y.seen, .slice A1 y.args.length c1, .slice A2 y.rets.length c2, .slice A3 y.locals.length c3, .slice A4 y.takes.length c4, .slice A5 y.code.length c5] 37))
          have hbl1 : b < w1.heap.size := Nat.lt_of_lt_of_le hbl hb.size
          have z2 : w1.cell? ⟨b, off + mn * 3 + 2, none⟩ = some (.slice D2 xs[mn].friends.length e2) := (hb.cell (p := ⟨b, off + mn * 3 + 2, none⟩) hbl).trans k2
          have HI := Lib.hid (contains_any F _ xs[mn].friends fr (w1.alloc (.cells #[.int .i64 y.seen, .slice A1 y.args.length c1, .slice A2 y.rets.length c2, .slice A3 y.locals.length c3, .slice A4 y.takes.length c4, .slice A5 y.code.length c5] 37)) (HV.out.keep (below_keeps HQ.out HF.out)))
          clear hb HH k0 k1 k2
          go_wp2_with (go_at_call 60; with_reducible refine HI.out.mono ?_; rintro e w' ⟨rfl, rfl⟩)
          go_ret
          exact ⟨ret_bool HY.out.symm, HQ.out⟩
        · have t3 : (y.seen == 1) = false := by simp [hc]
          by_cases hb2 : y.seen = 2
          · have t2 : (y.seen == 2) = true := by rw [hb2]; rfl
            have HY := Lib.hid (show fseen xs fr mn fn = true by rw [HX.out]; simp [hb2])
            clear HX hb2
            go_enter Try.func27, Try.ntmps27
            go_wp2_with fail
            refine HH.out.mono ?_
            rintro e w1 ⟨A1, A2, A3, A4, A5, c1, c2, c3, c4, c5, rfl, _, hb⟩
            dsimp only [funV, Option.getD, Option.isSome]
            have HQ := Lib.hid (hb.alloc hb.size (.cells #[.int .i64 y.seen, .slice A1 y.args.length c1, .slice A2 y.rets.length c2, .slice A3 y.locals.length c3, .slice A4 y.takes.length c4, .slice A5 y.code.length c5] 37))
            have hbl1 : b < w1.heap.size := Nat.lt_of_lt_of_le hbl hb.size
            have z2 : w1.cell? ⟨b, off + mn * 3 + 2, none⟩ = some (.slice D2 xs[mn].friends.length e2) := (hb.cell (p := ⟨b, off + mn * 3 + 2, none⟩) hbl).trans k2
            have HI := Lib.hid (contains_any F _ xs[mn].friends fr (w1.alloc (.cells #[.int .i64 y.seen, .slice A1 y.args.length c1, .slice A2 y.rets.length c2, .slice A3 y.locals.length c3, .slice A4 y.takes.length c4, .slice A5 y.code.length c5] 37)) (HV.out.keep (below_keeps HQ.out HF.out)))
            clear hb HH k0 k1 k2
            go_wp2_with (go_at_call 60; with_reducible refine HI.out.mono ?_; rintro e w' ⟨rfl, rfl⟩)
            go_ret
            exact ⟨ret_bool HY.out.symm, HQ.out⟩
          · have t2 : (y.seen == 2) = false := by simp [hb2]
            have HY := Lib.hid (show fseen xs fr mn fn = false by rw [HX.out]; simp [ha, hb2, hc])
            clear HX ha hc hb2
            go_enter Try.func27, Try.ntmps27
            go_wp2_with fail
            refine HH.out.mono ?_
            rintro e w1 ⟨A1, A2, A3, A4, A5, c1, c2, c3, c4, c5, rfl, _, hb⟩
            dsimp only [funV, Option.getD, Option.isSome]
            have HQ := Lib.hid (hb.alloc hb.size (.cells #[.int .i64 y.seen, .slice A1 y.args.length c1, .slice A2 y.rets.length c2, .slice A3 y.locals.length c3, .slice A4 y.takes.length c4, .slice A5 y.code.length c5] 37))
            have hbl1 : b < w1.heap.size := Nat.lt_of_lt_of_le hbl hb.size
            have z2 : w1.cell? ⟨b, off + mn * 3 + 2, none⟩ = some (.slice D2 xs[mn].friends.length e2) := (hb.cell (p := ⟨b, off + mn * 3 + 2, none⟩) hbl).trans k2
            have HI := Lib.hid (contains_any F _ xs[mn].friends fr (w1.alloc (.cells #[.int .i64 y.seen, .slice A1 y.args.length c1, .slice A2 y.rets.length c2, .slice A3 y.locals.length c3, .slice A4 y.takes.length c4, .slice A5 y.code.length c5] 37)) (HV.out.keep (below_keeps HQ.out HF.out)))
            clear hb HH k0 k1 k2
            go_wp2_with (go_at_call 60; with_reducible refine HI.out.mono ?_; rintro e w' ⟨rfl, rfl⟩)
            go_ret
            exact ⟨ret_bool HY.out.symm, HQ.out⟩
    · have HX := Lib.hid (fseen_out (xs := xs) (fr := fr) (m := mn) (f := fn) h0)
      clear hat hsm
      by_cases h1 : fr < (mn : Int)
      · go_enter Try.func27, Try.ntmps27
        go_wp2_with fail
        refine HH.out.mono ?_
        rintro e w1 ⟨A1, A2, A3, A4, A5, c1, c2, c3, c4, c5, rfl, _, hb⟩
        dsimp only [funV, Option.getD, Option.isSome]
        have HQ := Lib.hid (hb.alloc hb.size (.cells #[.int .i64 y.seen, .slice A1 y.args.length c1, .slice A2 y.rets.length c2, .slice A3 y.locals.length c3, .slice A4 y.takes.length c4, .slice A5 y.code.length c5] 37))
        clear hb HH
        go_wp2
        go_ret
        exact ⟨ret_bool HX.out.symm, HQ.out⟩
      · have h2 : (xs.length : Int) ≤ fr := by omega
        clear h0
        go_enter Try.func27, Try.ntmps27
        go_wp2_with fail
        refine HH.out.mono ?_
        rintro e w1 ⟨A1, A2, A3, A4, A5, c1, c2, c3, c4, c5, rfl, _, hb⟩
        dsimp only [funV, Option.getD, Option.isSome]
        have HQ := Lib.hid (hb.alloc hb.size (.cells #[.int .i64 y.seen, .slice A1 y.args.length c1, .slice A2 y.rets.length c2, .slice A3 y.locals.length c3, .slice A4 y.takes.length c4, .slice A5 y.code.length c5] 37))
        clear hb HH
        go_wp2
        go_ret
        exact ⟨ret_bool HX.out.symm, HQ.out⟩
end Go.Proofs.Ythhheipinogcoaa
