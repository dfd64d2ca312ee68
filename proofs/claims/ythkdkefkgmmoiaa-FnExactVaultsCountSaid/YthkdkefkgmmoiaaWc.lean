/- The model's vaults: which are ones, and where a record is. The model's vaults: whether they are ones, and where a record is. -/
import Derived.Test.YthkdkefkgmmoiaaWb
import Derived.Test.YthkdkefkgmmoiaaSpb
import Derived.Test.YthkdkefkgmmoiaaVsp
import Derived.BigQuiet
namespace Go.Proofs.Ythkdkefkgmmoiaa
open Go.RowKit

def AblesIn (ks : Ks) : Prop := ∀ m k, hasB ks m k = true → 0 ≤ (recAt ks m k).able ∧ (recAt ks m k).able ≤ 15
theorem ables_in {ks : Ks} (h : kindsOk ks = true) : AblesIn ks := fun m k hh => by
  have hrec := ok_rec h hh
  unfold recB at hrec
  simp only [Bool.and_eq_true, decide_eq_true_eq] at hrec
  omega
/-- A record that can be kept. -/
def keptB (ks : Ks) (d : Nat) (v : Val) : Bool := (kindOf v.ty).isSome && (okV ks (d + 1) v && canB (ableT ks v.ty) 8)
theorem kind_three {t : ByteArray} (h : t.size ≠ 3) : kindOf t = none := by unfold kindOf; rw [dif_neg h]
theorem one_size {t : ByteArray} {c : UInt8} (h : (t.toList == [c]) = true) : t.size = 1 := by
  have := congrArg List.length (beq_iff_eq.1 h)
  rw [length_toList] at this
  simpa using this
theorem ok_has {ks : Ks} {d : Nat} {v : Val} (h : okV ks (d + 1) v = true) {m k : Nat} (hk : kindOf v.ty = some (m, k)) : hasB ks m k = true := by
  have hs : v.ty.size = 3 := by
    rcases Nat.decEq v.ty.size 3 with h | h
    · rw [kind_three h] at hk; cases hk
    · exact h
  unfold okV okOf at h
  have hn : ∀ c : UInt8, (v.ty.toList == [c]) ≠ true := fun c hc => by have := one_size hc; omega
  rw [if_neg (hn _), if_neg (hn _), if_neg (hn _), hk] at h
  simp only [Bool.and_eq_true] at h
  exact h.1.1.1.1
theorem ok_knownV {ks : Ks} {d : Nat} {v : Val} (h : okV ks (d + 1) v = true) : Known ks v.ty := fun m k hk => ok_has h hk
theorem ableT_in {ks : Ks} {t : ByteArray} (ha : AblesIn ks) (hk : Known ks t) : 0 ≤ ableT ks t ∧ ableT ks t ≤ 1000000 := by
  unfold ableT
  split
  · decide
  · split
    · decide
    · cases hh : kindOf t with
      | none => exact ⟨(by show (0 : Int) ≤ 7; decide), (by show (7 : Int) ≤ 1000000; decide)⟩
      | some mk => have := ha _ _ (hk _ _ hh); exact ⟨this.1, by have := this.2; show (recAt ks mk.1 mk.2).able ≤ 1000000; omega⟩

set_option maxRecDepth 100000 in
set_option maxHeartbeats 2000000 in
theorem l9Kind_any {ks : Ks} (d : Nat) (F : Nat → Prop) (kv : Value) (A B : Option Addr) (n m cA cB : Nat) (v : Val) (w : World) (hks : Cod.recs.Sl F w kv ks) (h : VRd (Cod.val d) F w (.slice A n cA) (.slice B m cB) v) (hF : ∀ b, F b → b < w.heap.size) (hab : AblesIn ks) :
    Calls Try.prog 91 #[kv, .agg #[.string v.ty, .int .i64 v.n, .slice A n cA, .slice B m cB]] w fun e w' => e = .returned (.bool (keptB ks d v)) ∧ Below w.heap.size w w' := by
  obtain ⟨w0, hw0⟩ : ∃ w0, w0 = w.alloc (.cells #[.string v.ty, .int .i64 v.n, .slice A n cA, .slice B m cB] 95) := ⟨_, rfl⟩
  have hb0 : Below w.heap.size w w0 := by rw [hw0]; exact (Below.refl _ _).alloc (Nat.le_refl _) _
  have hB0 : Blk w0 w.heap.size 95 #[.string v.ty, .int .i64 v.n, .slice A n cA, .slice B m cB] := by rw [hw0]; exact Blk.new _ _ _
  have hs0 : w.heap.size < w0.heap.size := by rw [hw0]; simp
  obtain ⟨y0, y1, y2, y3⟩ := hB0.c2
  have HS := Lib.hid (hks.keep (w' := w0) fun b hb => hb0.block b (hF b hb))
  have HV := Lib.hid (h.keep (w' := w0) fun b hb => hb0.block b (hF b hb))
  have HF := Lib.hid (show ∀ b, F b → b < w0.heap.size from fun b hb => by have := hF b hb; omega)
  have HE := Lib.hid hb0
  have HB := Lib.hid hB0
  have hty := h.ty
  unfold maxLen at hty
  have Hty := Lib.hid h.ty
  have Hw0 := Lib.hid hw0
  have Hab := Lib.hid hab
  obtain ⟨Ak, ck, rfl, _⟩ := hks
  clear hb0 hB0 hw0 h hF hab
  cases hk : kindOf v.ty with
  | none =>
    have HK := Lib.hid (l1Kind_no v.ty w0 hk)
    have HR := Lib.hid (show keptB ks d v = false by unfold keptB; rw [hk]; rfl)
    clear hk
    go_enter Try.func91, Try.ntmps91
    rw [Hw0.out] at y0 y1 y2 y3
    go_wp2_with fail
    rw [← Hw0.out]
    refine HK.out.mono ?_
    rintro e w1 ⟨rfl, a, hw1⟩
    have HB1 := Lib.hid (show Below w.heap.size w w1 by rw [hw1]; exact HE.out.trans (below_drewN (Below.refl _ _) a))
    clear hw1 HK y0 y1 y2 y3
    go_wp2
    go_ret
    exact ⟨ret_bool HR.out.symm, HB1.out⟩
  | some mk =>
    obtain ⟨mm, kk⟩ := mk
    have HK := Lib.hid (l1Kind_yes v.ty mm kk w0 hk)
    have HOk := Lib.hid (fun (w1 : World) (hb : Below w0.heap.size w0 w1) => l2Ok_any ks d F (.slice Ak ks.length ck) A B n m cA cB v w1 (HS.out.keep (below_keeps hb HF.out)) (HV.out.keep (below_keeps hb HF.out)) (fun b hb' => Nat.lt_of_lt_of_le (HF.out b hb') hb.size))
    have HR0 := Lib.hid (show keptB ks d v = (okV ks (d + 1) v && canB (ableT ks v.ty) 8) by unfold keptB; rw [hk]; rfl)
    clear hk
    go_enter Try.func91, Try.ntmps91
    rw [Hw0.out] at y0 y1 y2 y3
    go_wp2_with fail
    rw [← Hw0.out]
    refine HK.out.mono ?_
    rintro e w1 ⟨rfl, a, hw1⟩
    have hb1 : Below w0.heap.size w0 w1 := by rw [hw1]; exact below_drewN (Below.refl _ _) a
    have HC := Lib.hid (HOk.out w1 hb1)
    have HB1 := Lib.hid (HB.out.below hb1 hs0)
    have HE1 := Lib.hid (HE.out.trans (hb1.mono HE.out.size))
    have Hb1 := Lib.hid hb1
    clear hw1 HK hb1 y0 y1 y2 y3
    obtain ⟨y0, y1, y2, y3⟩ := HB1.out.c2
    cases hok : okV ks (d + 1) v with
    | false =>
      have HC2 : Hid (Calls Try.prog 110 #[.slice Ak ks.length ck, .agg #[.string v.ty, .int .i64 v.n, .slice A n cA, .slice B m cB]] w1 fun e w' => e = .returned (.bool false) ∧ Below w1.heap.size w1 w') := Lib.hid (by have := HC.out; rw [show okOf ks (okV ks d) v = false from hok] at this; exact this)
      have HR := Lib.hid (show keptB ks d v = false by rw [HR0.out, hok]; rfl)
      clear hok HC
      go_wp2_with fail
      go_at_call 110
      with_reducible refine HC2.out.mono ?_
      rintro e w2 ⟨rfl, hb2⟩
      have HE2 := Lib.hid (HE1.out.trans (hb2.mono HE1.out.size))
      clear hb2 y0 y1 y2 y3
      go_wp2
      go_ret
      exact ⟨ret_bool HR.out.symm, HE2.out⟩
    | true =>
      have HC2 : Hid (Calls Try.prog 110 #[.slice Ak ks.length ck, .agg #[.string v.ty, .int .i64 v.n, .slice A n cA, .slice B m cB]] w1 fun e w' => e = .returned (.bool true) ∧ Below w1.heap.size w1 w') := Lib.hid (by have := HC.out; rw [show okOf ks (okV ks d) v = true from hok] at this; exact this)
      have HR := Lib.hid (show keptB ks d v = canB (ableT ks v.ty) 8 by rw [HR0.out, hok]; rfl)
      have HKn := Lib.hid (ok_knownV hok)
      clear hok HC
      go_wp2_with fail
      go_at_call 110
      with_reducible refine HC2.out.mono ?_
      rintro e w2 ⟨rfl, hb2⟩
      have hb02 : Below w0.heap.size w0 w2 := Hb1.out.trans (hb2.mono Hb1.out.size)
      have HB2 := Lib.hid (HB.out.below hb02 hs0)
      have HE2 := Lib.hid (HE1.out.trans (hb2.mono HE1.out.size))
      have HA := Lib.hid (l1Able_any F _ ks v.ty w2 (HS.out.keep (below_keeps hb02 HF.out)) Hty.out HKn.out)
      clear hb2 hb02 HC2 y0 y1 y2 y3
      obtain ⟨y0, y1, y2, y3⟩ := HB2.out.c2
      go_wp2_with fail
      go_at_call 112
      with_reducible refine HA.out.mono ?_
      rintro e w3 ⟨rfl, a3, hw3⟩
      have HE3 := Lib.hid (show Below w.heap.size w w3 by rw [hw3]; exact HE2.out.trans ((below_drewN (Below.refl _ _) a3).mono HE2.out.size))
      have HCn := Lib.hid (l1Can_any (ableT ks v.ty) 8 w3 (ableT_in Hab.out HKn.out).1 (by decide) (ableT_in Hab.out HKn.out).2)
      clear hw3 HA y0 y1 y2 y3
      go_wp2_with fail
      go_at_call 111
      with_reducible refine HCn.out.mono ?_
      rintro e w4 ⟨rfl, rfl⟩
      go_wp2
      go_ret
      exact ⟨ret_bool HR.out.symm, HE3.out⟩

/-- One ahead of another in vaults. -/
def ltK (p x : KepR) : Bool := decide (p.o < x.o) || (decide (p.o = x.o) && Go.Op.bytesLess p.v.ty.toList x.v.ty.toList)
def zeroK : KepR := ⟨0, .mk ⟨#[]⟩ 0 [] []⟩
def okAtK (ks : Ks) (d : Nat) (xs : List KepR) (i : Nat) : Bool := (inB (xs.getD i zeroK).o 0 3 && keptB ks d (xs.getD i zeroK).v) && (decide (i = 0) || ltK (xs.getD (i - 1) zeroK) (xs.getD i zeroK))
def okList (ks : Ks) (d : Nat) (xs : List KepR) : Bool := (List.range xs.length).all (okAtK ks d xs) && decide (xs.length ≤ 36)
theorem okList_at {ks : Ks} {d : Nat} {xs : List KepR} (h : okList ks d xs = true) {i : Nat} (hi : i < xs.length) : okAtK ks d xs i = true := by
  unfold okList at h
  simp only [Bool.and_eq_true, List.all_eq_true, List.mem_range] at h
  exact h.1 i hi
theorem okList_len {ks : Ks} {d : Nat} {xs : List KepR} (h : okList ks d xs = true) : xs.length ≤ 36 := by
  unfold okList at h
  simp only [Bool.and_eq_true, decide_eq_true_eq] at h
  exact h.2
theorem okList_bad {ks : Ks} {d : Nat} {xs : List KepR} {i : Nat} (hi : i < xs.length) (h : okAtK ks d xs i = false) : okList ks d xs = false := by
  rw [Bool.eq_false_iff]
  intro hh
  rw [okList_at hh hi] at h
  cases h
theorem okList_end {ks : Ks} {d : Nat} {xs : List KepR} (h : ∀ i, i < xs.length → okAtK ks d xs i = true) : okList ks d xs = decide (xs.length ≤ 36) := by
  unfold okList
  rw [List.all_eq_true.2 (fun i hi => h i (List.mem_range.1 hi)), Bool.true_and]
theorem getK {xs : List KepR} {i : Nat} (h : i < xs.length) : xs.getD i zeroK = xs[i] := by rw [List.getD_eq_getElem?_getD, List.getElem?_eq_getElem h]; rfl

theorem below_goF {F : Nat → Prop} {w w' : World} (hF : ∀ b, F b → b < w.heap.size) (hb : Below w.heap.size w w') : ∀ b, F b → b < w'.heap.size := fun b h => Nat.lt_of_lt_of_le (hF b h) hb.size

set_option maxRecDepth 100000 in
set_option maxHeartbeats 4000000 in
theorem l9Ok_any {ks : Ks} (d : Nat) (F : Nat → Prop) (kv v : Value) (xs : List KepR) (w : World) (hks : Cod.recs.Sl F w kv ks) (h : (Cod.kept (Cod.val d)).Sl F w v xs) (hF : ∀ b, F b → b < w.heap.size) (hab : AblesIn ks) :
    Calls Try.prog 68 #[kv, v] w fun e w' => e = .returned (.bool (okList ks d xs)) ∧ Below w.heap.size w w' := by
  have HS := Lib.hid hks
  have HV := Lib.hid h
  have HF := Lib.hid hF
  have Hab := Lib.hid hab
  obtain ⟨Ak, ck, rfl, _⟩ := hks
  obtain ⟨A, cap, rfl, hlc, hcm, _⟩ := h
  unfold maxLen at hcm
  clear hF hab
  go_enter Try.func68, Try.ntmps68
  go_wp2
  go_loopw [5] (fun i wr => ∃ k : Nat, k ≤ xs.length ∧ i = .int .i64 k ∧ Hid (∀ j, j < k → okAtK ks d xs j = true) ∧ Hid (Below w.heap.size w wr)) (fun i _ => xs.length - (intOf i).toNat)
  case atStart => exact ⟨0, Nat.zero_le _, rfl, Lib.hid (fun j hj => by omega), Lib.hid (Below.refl _ _)⟩
  case round =>
    obtain ⟨k, hk, rfl, HK, HB⟩ := hrel
    by_cases hlt : k < xs.length
    · obtain ⟨b, off, cap', A2, cA, B2, cB, hv, hFb, _, _, hc0, hc1, hc2, hc3, hc4, -, hV⟩ := (HV.out.keep (below_keeps HB.out HF.out)).kept_at hlt
      obtain ⟨rfl, rfl⟩ : A = some ⟨b, off, none⟩ ∧ cap = cap' := by simpa using hv
      have i0 : (0 : Int) ≤ k := by omega
      have i1 : (k : Int) < xs.length := by omega
      have HL := Lib.hid (l6In_any xs[k].o 0 3 wr)
      have HFr := Lib.hid (below_goF HF.out HB.out)
      have HQ := Lib.hid (l9Kind_any d F (.slice Ak ks.length ck) _ _ _ _ _ _ xs[k].v wr (HS.out.keep (below_keeps HB.out HF.out)) hV HFr.out Hab.out)
      have HAt := Lib.hid (show okAtK ks d xs k = ((inB xs[k].o 0 3 && keptB ks d xs[k].v) && (decide (k = 0) || ltK (xs.getD (k - 1) zeroK) xs[k])) by unfold okAtK; rw [getK hlt])
      have HBad := Lib.hid (fun h : okAtK ks d xs k = false => okList_bad hlt h)
      clear hv hV
      cases hin : inB xs[k].o 0 3 with
      | false =>
        have HL2 : Hid (Calls Try.prog 42 #[.int .i64 xs[k].o, .int .i64 0, .int .i64 3] wr fun e w' => e = .returned (.bool false) ∧ wr = w') := Lib.hid (by have := HL.out; rw [show (decide ((0 : Int) ≤ xs[k].o) && decide (xs[k].o ≤ 3)) = false from hin] at this; exact this)
        have HR := Lib.hid (HBad.out (by rw [HAt.out, hin]; rfl))
        clear hin HL
        generalize xs[k] = x at *
        go_wp2_with fail
        go_at_call 42
        with_reducible refine HL2.out.mono ?_
        rintro e w1 ⟨rfl, rfl⟩
        go_wp2
        go_ret
        exact ⟨ret_bool HR.out.symm, HB.out⟩
      | true =>
        have HL2 : Hid (Calls Try.prog 42 #[.int .i64 xs[k].o, .int .i64 0, .int .i64 3] wr fun e w' => e = .returned (.bool true) ∧ wr = w') := Lib.hid (by have := HL.out; rw [show (decide ((0 : Int) ≤ xs[k].o) && decide (xs[k].o ≤ 3)) = true from hin] at this; exact this)
        have HAt2 := Lib.hid (show okAtK ks d xs k = (keptB ks d xs[k].v && (decide (k = 0) || ltK (xs.getD (k - 1) zeroK) xs[k])) by rw [HAt.out, hin]; rfl)
        clear hin HL HAt
        cases hkb : keptB ks d xs[k].v with
        | false =>
          have HQ2 : Hid (Calls Try.prog 91 #[.slice Ak ks.length ck, .agg #[.string xs[k].v.ty, .int .i64 xs[k].v.n, .slice A2 xs[k].v.parts.length cA, .slice B2 xs[k].v.path.length cB]] wr fun e w' => e = .returned (.bool false) ∧ Below wr.heap.size wr w') := Lib.hid (by have := HQ.out; rw [hkb] at this; exact this)
          have HR := Lib.hid (HBad.out (by rw [HAt2.out, hkb]; rfl))
          clear hkb HQ HAt2 HBad
          generalize xs[k] = x at *
          go_wp2_with fail
          go_at_call 42
          with_reducible refine HL2.out.mono ?_
          rintro e w1 ⟨rfl, rfl⟩
          go_wp2_with fail
          go_at_call 91
          with_reducible refine HQ2.out.mono ?_
          rintro e w2 ⟨rfl, hb2⟩
          have HB2 := Lib.hid (HB.out.trans (hb2.mono HB.out.size))
          clear hb2
          go_wp2
          go_ret
          exact ⟨ret_bool HR.out.symm, HB2.out⟩
        | true =>
          have HQ2 : Hid (Calls Try.prog 91 #[.slice Ak ks.length ck, .agg #[.string xs[k].v.ty, .int .i64 xs[k].v.n, .slice A2 xs[k].v.parts.length cA, .slice B2 xs[k].v.path.length cB]] wr fun e w' => e = .returned (.bool true) ∧ Below wr.heap.size wr w') := Lib.hid (by have := HQ.out; rw [hkb] at this; exact this)
          have HAt3 := Lib.hid (show okAtK ks d xs k = (decide (k = 0) || ltK (xs.getD (k - 1) zeroK) xs[k]) by rw [HAt2.out, hkb]; rfl)
          clear hkb HQ HAt2
          have Hlt := Lib.hid hlt
          have HKs := Lib.hid (fun h : okAtK ks d xs k = true => show ∀ j, j < k + 1 → okAtK ks d xs j = true from fun j hj => by
            rcases Nat.lt_or_ge j k with h1 | h1
            · exact HK.out j h1
            · obtain rfl : j = k := by omega
              exact h)
          cases k with
          | zero =>
            have HOk := Lib.hid (HKs.out (by rw [HAt3.out]; rfl))
            simp only [Nat.zero_mul, Nat.add_zero] at hc0 hc1 hc2 hc3 hc4
            have i2 : (0 : Int) < xs.length := by omega
            clear HAt3 HBad HKs HK
            go_wp2_with fail
            go_at_call 42
            with_reducible refine HL2.out.mono ?_
            rintro e w1 ⟨rfl, rfl⟩
            go_wp2_with fail
            go_at_call 91
            with_reducible refine HQ2.out.mono ?_
            rintro e w2 ⟨rfl, hb2⟩
            have HB2 := Lib.hid (HB.out.trans (hb2.mono HB.out.size))
            have HBd := Lib.hid (HB2.out.drew)
            have t0 : decide ((0 : Int) < ((0 : Nat) : Int)) = false := rfl
            clear hb2
            go_wp2_with fail
            go_quiet (fail)
            go_wp2
            go_roundw
            case rel => exact ⟨1, by omega, by go_num, HOk, by first | exact HB2 | exact HBd | exact Lib.hid (HB2.out.trans (below_drewN (Below.refl _ _) _))⟩
            case measure => first | (simp [intOf]; done) | (simp [intOf]; omega)
          | succ j =>
            obtain ⟨b', off', cap2, A3, cA3, B3, cB3, hv', hFb', _, _, hd0, hd1, hd2, hd3, hd4, -, hV'⟩ := (HV.out.keep (below_keeps HB.out HF.out)).kept_at (show j < xs.length by omega)
            obtain ⟨⟨rfl, rfl⟩, rfl⟩ : (b = b' ∧ off = off') ∧ cap = cap2 := by simpa using hv'
            have HAt4 := Lib.hid (show okAtK ks d xs (j + 1) = ltK xs[j] xs[j + 1] by rw [HAt3.out, show j + 1 - 1 = j by omega, getK (by omega)]; rfl)
            clear hv' hV' HAt3
            have j0 : (0 : Int) ≤ j := by omega
            have j1 : (j : Int) < xs.length := by omega
            have j2 : decide ((0 : Int) < (j : Int) + 1) = true := decide_eq_true (by omega)
            have j3 : (0 : Int) ≤ (j : Int) + 1 := by omega
            have j4 : (j : Int) + 1 < xs.length := by omega
            generalize xs[j + 1] = x at *
            generalize xs[j] = p at *
            have hbl := HFr.out b hFb
            go_wp2_with fail
            go_at_call 42
            with_reducible refine HL2.out.mono ?_
            rintro e w1 ⟨rfl, rfl⟩
            go_wp2_with fail
            go_at_call 91
            with_reducible refine HQ2.out.mono ?_
            rintro e w2 ⟨rfl, hb2⟩
            have x0 := (hb2.cell (p := ⟨b, off + (j + 1) * 5, none⟩) hbl).trans hc0
            have x1 := (hb2.cell (p := ⟨b, off + (j + 1) * 5 + 1, none⟩) hbl).trans hc1
            have y0 := (hb2.cell (p := ⟨b, off + j * 5, none⟩) hbl).trans hd0
            have y1 := (hb2.cell (p := ⟨b, off + j * 5 + 1, none⟩) hbl).trans hd1
            have HB2 := Lib.hid (HB.out.trans (hb2.mono HB.out.size))
            have HBd := Lib.hid (HB2.out.drew)
            clear hb2 hc0 hc1 hc2 hc3 hc4 hd0 hd1 hd2 hd3 hd4 HL2 HQ2
            rcases Int.lt_trichotomy p.o x.o with ho | ho | ho
            · have HOk := Lib.hid (HKs.out (by rw [HAt4.out]; unfold ltK; rw [decide_eq_true ho]; rfl))
              have t0 : decide (x.o < p.o) = false := decide_eq_false (by omega)
              have t1 : (p.o == x.o) = false := by rw [beq_eq_false_iff_ne]; omega
              clear HAt4 HKs HBad
              go_wp2_with fail
              go_quiet (fail)
              go_wp2
              go_roundw
              case rel => exact ⟨j + 1 + 1, by omega, by go_num, HOk, by first | exact HB2 | exact HBd | exact Lib.hid (HB2.out.trans (below_drewN (Below.refl _ _) _))⟩
              case measure => first | (simp [intOf]; done) | (simp [intOf]; omega)
            · cases hl : Go.Op.bytesLess p.v.ty.toList x.v.ty.toList with
              | true =>
                have HOk := Lib.hid (HKs.out (by rw [HAt4.out]; unfold ltK; rw [decide_eq_true ho, hl]; simp))
                have t0 : decide (x.o < p.o) = false := decide_eq_false (by omega)
                have t1 : (p.o == x.o) = true := by rw [beq_iff_eq]; exact ho
                clear HAt4 HKs HBad ho
                go_wp2_with fail
                go_quiet (fail)
                go_wp2
                go_roundw
                case rel => exact ⟨j + 1 + 1, by omega, by go_num, HOk, by first | exact HB2 | exact HBd | exact Lib.hid (HB2.out.trans (below_drewN (Below.refl _ _) _))⟩
                case measure => first | (simp [intOf]; done) | (simp [intOf]; omega)
              | false =>
                have HR := Lib.hid (HBad.out (by rw [HAt4.out]; unfold ltK; rw [hl, decide_eq_false (by omega)]; simp))
                have t0 : decide (x.o < p.o) = false := decide_eq_false (by omega)
                have t1 : (p.o == x.o) = true := by rw [beq_iff_eq]; exact ho
                clear HAt4 HKs HBad ho
                go_wp2_with fail
                go_quiet (fail)
                go_wp2
                go_ret
                exact ⟨ret_bool HR.out.symm, by first | exact HB2.out | exact HBd.out | exact HB2.out.trans (below_drewN (Below.refl _ _) _)⟩
            · have HR := Lib.hid (HBad.out (by rw [HAt4.out]; unfold ltK; rw [decide_eq_false (by omega), decide_eq_false (by omega)]; rfl))
              have t0 : decide (x.o < p.o) = true := decide_eq_true ho
              clear HAt4 HKs HBad
              go_wp2_with fail
              go_quiet (fail)
              go_wp2
              go_ret
              exact ⟨ret_bool HR.out.symm, by first | exact HB2.out | exact HBd.out | exact HB2.out.trans (below_drewN (Below.refl _ _) _)⟩
    · have HR := Lib.hid (okList_end (ks := ks) (d := d) (xs := xs) (fun i hi => HK.out i (by omega)))
      by_cases h36 : (xs.length : Int) ≤ 36
      · have HR2 := Lib.hid (show okList ks d xs = true by rw [HR.out]; exact decide_eq_true (by omega))
        go_wp2
        go_ret
        exact ⟨ret_bool HR2.out.symm, HB.out⟩
      · have HR2 := Lib.hid (show okList ks d xs = false by rw [HR.out]; exact decide_eq_false (by omega))
        go_wp2
        go_ret
        exact ⟨ret_bool HR2.out.symm, HB.out⟩
end Go.Proofs.Ythkdkefkgmmoiaa

namespace Go.Proofs.Ythkdkefkgmmoiaa
open Go.RowKit

def vOk (ks : Ks) (d : Nat) (xs : List KepR) : Bool := kindsOk ks && okList ks d xs

set_option maxRecDepth 100000 in
set_option maxHeartbeats 1000000 in
theorem specVaultsOk_any {ks : Ks} (d : Nat) (F : Nat → Prop) (kv v : Value) (xs : List KepR) (w : World) (hks : Cod.recs.Sl F w kv ks) (h : (Cod.kept (Cod.val d)).Sl F w v xs) (hF : ∀ b, F b → b < w.heap.size) :
    Calls Try.prog 49 #[kv, v] w fun e w' => e = .returned (.bool (vOk ks d xs)) ∧ Below w.heap.size w w' := by
  have HS := Lib.hid hks
  have HV := Lib.hid h
  have HF := Lib.hid hF
  have HK := Lib.hid (specKindsOk_any F kv ks w hks hF)
  obtain ⟨Ak, ck, rfl, _⟩ := hks
  obtain ⟨A, cap, rfl, _⟩ := h
  clear hF
  cases hk : kindsOk ks with
  | false =>
    rw [hk] at HK
    have HR := Lib.hid (show vOk ks d xs = false by unfold vOk; rw [hk]; rfl)
    clear hk
    go_enter Try.func49, Try.ntmps49
    go_wp2_with fail
    go_at_call 67
    with_reducible refine HK.out.mono ?_
    rintro e w1 ⟨rfl, hb⟩
    have HB := Lib.hid hb
    clear hb
    go_wp2
    go_ret
    exact ⟨ret_bool HR.out.symm, HB.out⟩
  | true =>
    rw [hk] at HK
    have HR := Lib.hid (show vOk ks d xs = okList ks d xs by unfold vOk; rw [hk]; rfl)
    have Hab := Lib.hid (ables_in hk)
    clear hk
    go_enter Try.func49, Try.ntmps49
    go_wp2_with fail
    go_at_call 67
    with_reducible refine HK.out.mono ?_
    rintro e w1 ⟨rfl, hb⟩
    have HL := Lib.hid (l9Ok_any d F _ _ xs w1 (HS.out.keep (below_keeps hb HF.out)) (HV.out.keep (below_keeps hb HF.out)) (below_goF HF.out hb) Hab.out)
    have HB := Lib.hid hb
    clear hb HK
    go_wp2_with fail
    go_at_call 68
    with_reducible refine HL.out.mono ?_
    rintro e w2 ⟨rfl, hb2⟩
    have HB2 := Lib.hid (HB.out.trans (hb2.mono HB.out.size))
    clear hb2
    go_wp2
    go_ret
    exact ⟨ret_bool HR.out.symm, HB2.out⟩

def isK2 (o : Int) (t : ByteArray) (x : KepR) : Bool := (x.o == o) && (x.v.ty.toList == t.toList)
def findK (o : Int) (t : ByteArray) : List KepR → Nat → Int
  | [], _ => -1
  | x :: r, i => if isK2 o t x = true then (i : Int) else findK o t r (i + 1)
theorem findK_at {o : Int} {t : ByteArray} : ∀ (xs : List KepR) (i : Nat), findK o t xs i = -1 ∨ ∃ j, ∃ h : j < xs.length, findK o t xs i = ((i + j : Nat) : Int) ∧ isK2 o t xs[j] = true
  | [], _ => .inl rfl
  | x :: r, i => by
    unfold findK
    by_cases hx : isK2 o t x = true
    · rw [if_pos hx]
      exact .inr ⟨0, by simp, by simp, hx⟩
    · rw [if_neg hx]
      rcases findK_at r (i + 1) with h | ⟨j, h1, h2, h3⟩
      · exact .inl h
      · exact .inr ⟨j + 1, by simp; omega, by rw [h2]; omega, h3⟩

end Go.Proofs.Ythkdkefkgmmoiaa
