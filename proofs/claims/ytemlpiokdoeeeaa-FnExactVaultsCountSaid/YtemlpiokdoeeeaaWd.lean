/- The model's vaults: whether they are ones, and where a record is. -/
import Derived.Test.YtemlpiokdoeeeaaWc
namespace Go.Proofs.Ytemlpiokdoeeeaa
open Go.RowKit

def vOk (ks : Ks) (d : Nat) (xs : List KepR) : Bool := kindsOk ks && okList ks d xs

set_option maxRecDepth 100000 in
set_option maxHeartbeats 1000000 in
theorem specVaultsOk_any {ks : Ks} (d : Nat) (F : Nat → Prop) (kv v : Value) (xs : List KepR) (w : World) (hks : Cod.recs.Sl F w kv ks) (h : (Cod.kept (Cod.val d)).Sl F w v xs) (hF : ∀ b, F b → b < w.heap.size) :
    Calls Try.prog 12 #[kv, v] w fun e w' => e = .returned (.bool (vOk ks d xs)) ∧ Below w.heap.size w w' := by
  have HS := Lib.hid hks
  have HV := Lib.hid h
  have HF := Lib.hid hF
  have HK := Lib.hid (specKindsOk_any F kv ks w hks hF)
  obtain ⟨Ak, ck, rfl, _⟩ := hks
  obtain ⟨A, cap, rfl, _⟩ := h
  clear hF
  cases hk : kindsOk ks with
  | false =>
    rw [hk] at HK
    have HR := Lib.hid (show vOk ks d xs = false by unfold vOk; rw [hk]; rfl)
    clear hk
    go_enter Try.func12, Try.ntmps12
    go_wp2_with fail
    go_at_call 40
    with_reducible refine HK.out.mono ?_
    rintro e w1 ⟨rfl, hb⟩
    have HB := Lib.hid hb
    clear hb
    go_wp2
    go_ret
    exact ⟨ret_bool HR.out.symm, HB.out⟩
  | true =>
    rw [hk] at HK
    have HR := Lib.hid (show vOk ks d xs = okList ks d xs by unfold vOk; rw [hk]; rfl)
    have Hab := Lib.hid (ables_in hk)
    clear hk
    go_enter Try.func12, Try.ntmps12
    go_wp2_with fail
    go_at_call 40
    with_reducible refine HK.out.mono ?_
    rintro e w1 ⟨rfl, hb⟩
    have HL := Lib.hid (l9Ok_any d F _ _ xs w1 (HS.out.keep (below_keeps hb HF.out)) (HV.out.keep (below_keeps hb HF.out)) (below_goF HF.out hb) Hab.out)
    have HB := Lib.hid hb
    clear hb HK
    go_wp2_with fail
    go_at_call 46
    with_reducible refine HL.out.mono ?_
    rintro e w2 ⟨rfl, hb2⟩
    have HB2 := Lib.hid (HB.out.trans (hb2.mono HB.out.size))
    clear hb2
    go_wp2
    go_ret
    exact ⟨ret_bool HR.out.symm, HB2.out⟩

def isK2 (o : Int) (t : ByteArray) (x : KepR) : Bool := (x.o == o) && (x.v.ty.toList == t.toList)
def findK (o : Int) (t : ByteArray) : List KepR → Nat → Int
  | [], _ => -1
  | x :: r, i => if isK2 o t x = true then (i : Int) else findK o t r (i + 1)
theorem findK_at {o : Int} {t : ByteArray} : ∀ (xs : List KepR) (i : Nat), findK o t xs i = -1 ∨ ∃ j, ∃ h : j < xs.length, findK o t xs i = ((i + j : Nat) : Int) ∧ isK2 o t xs[j] = true
  | [], _ => .inl rfl
  | x :: r, i => by
    unfold findK
    by_cases hx : isK2 o t x = true
    · rw [if_pos hx]
      exact .inr ⟨0, by simp, by simp, hx⟩
    · rw [if_neg hx]
      rcases findK_at r (i + 1) with h | ⟨j, h1, h2, h3⟩
      · exact .inl h
      · exact .inr ⟨j + 1, by simp; omega, by rw [h2]; omega, h3⟩

set_option maxRecDepth 100000 in
set_option maxHeartbeats 2000000 in
theorem l9Find_any (d : Nat) (F : Nat → Prop) (v : Value) (xs : List KepR) (o : Int) (t : ByteArray) (w : World) (h : (Cod.kept (Cod.val d)).Sl F w v xs) :
    Calls Try.prog 57 #[v, .int .i64 o, .string t] w fun e w' => e = .returned (.int .i64 (findK o t xs 0)) ∧ w' = w := by
  have HV := Lib.hid h
  obtain ⟨A, cap, rfl, hlc, hcm, _⟩ := h
  unfold maxLen at hcm
  have H0 := Lib.hid (show findK o t (xs.drop 0) 0 = findK o t xs 0 by rw [List.drop_zero])
  go_enter Try.func57, Try.ntmps57
  go_wp2
  go_loopw [7] (fun i wr => ∃ k : Nat, k ≤ xs.length ∧ i = .int .i64 k ∧ Hid (findK o t (xs.drop k) k = findK o t xs 0) ∧ w = wr) (fun i _ => xs.length - (intOf i).toNat)
  case atStart => exact ⟨0, Nat.zero_le _, rfl, H0, by first | rfl | trivial⟩
  case round =>
    obtain ⟨k, hk, rfl, HH, hwq⟩ := hrel
    subst hwq
    by_cases hlt : k < xs.length
    · obtain ⟨b, off, cap', A2, cA, B2, cB, hv, hFb, _, _, hc0, hc1, hc2, hc3, hc4, -, hV⟩ := HV.out.kept_at hlt
      obtain ⟨rfl, rfl⟩ : A = some ⟨b, off, none⟩ ∧ cap = cap' := by simpa using hv
      have i0 : (0 : Int) ≤ k := by omega
      have i1 : (k : Int) < xs.length := by omega
      have HH2 := Lib.hid (show (if isK2 o t xs[k] = true then (k : Int) else findK o t (xs.drop (k + 1)) (k + 1)) = findK o t xs 0 by rw [← HH.out, List.drop_eq_getElem_cons hlt]; rfl)
      clear hv hV HH H0
      cases ho : (xs[k].o == o) with
      | false =>
        have HN := Lib.hid (show findK o t (xs.drop (k + 1)) (k + 1) = findK o t xs 0 by rw [← HH2.out, if_neg (by unfold isK2; rw [ho]; simp)])
        clear HH2
        generalize xs[k] = x at *
        go_wp2
        go_roundw
        case rel => exact ⟨k + 1, by omega, by go_num, HN, by first | rfl | trivial⟩
        case measure => first | (simp [intOf]; done) | (simp [intOf]; omega)
      | true =>
        cases ht : (xs[k].v.ty.toList == t.toList) with
        | false =>
          have HN := Lib.hid (show findK o t (xs.drop (k + 1)) (k + 1) = findK o t xs 0 by rw [← HH2.out, if_neg (by unfold isK2; rw [ht]; simp)])
          clear HH2
          generalize xs[k] = x at *
          go_wp2
          go_roundw
          case rel => exact ⟨k + 1, by omega, by go_num, HN, by first | rfl | trivial⟩
          case measure => first | (simp [intOf]; done) | (simp [intOf]; omega)
        | true =>
          have HN := Lib.hid (show findK o t xs 0 = (k : Int) by rw [← HH2.out, if_pos (by unfold isK2; rw [ho, ht]; rfl)])
          clear HH2
          generalize xs[k] = x at *
          go_wp2
          go_ret
          exact ⟨ret_int HN.out.symm, rfl⟩
    · have HN := Lib.hid (show findK o t xs 0 = -1 by rw [← HH.out, List.drop_eq_nil_of_le (by omega)]; rfl)
      clear HH H0
      go_wp2
      go_ret
      exact ⟨ret_int HN.out.symm, rfl⟩
end Go.Proofs.Ytemlpiokdoeeeaa
