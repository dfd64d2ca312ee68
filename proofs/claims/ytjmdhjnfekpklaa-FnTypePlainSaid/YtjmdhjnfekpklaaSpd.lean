/- The model of types, the last: what holds what. -/
import Derived.Test.YtjmdhjnfekpklaaSpc
namespace Go.Proofs.Ytjmdhjnfekpklaa
open Go.RowKit

theorem any_stop {α : Type} {p : α → Bool} {xs : List α} {k : Nat} {R : Bool} (hk : k < xs.length) (h : (xs.drop k).any p = R) (hn : p xs[k] = true) : true = R := by
  rw [drop_cons hk, List.any_cons, hn, Bool.true_or] at h; exact h
theorem any_step {α : Type} {p : α → Bool} {xs : List α} {k : Nat} {R : Bool} (hk : k < xs.length) (h : (xs.drop k).any p = R) (hn : p xs[k] = false) : (xs.drop (k + 1)).any p = R := by
  rw [drop_cons hk, List.any_cons, hn, Bool.false_or] at h; exact h
theorem any_end {α : Type} {p : α → Bool} {xs : List α} {k : Nat} {R : Bool} (hk : k = xs.length) (h : (xs.drop k).any p = R) : false = R := by
  rw [hk, List.drop_length] at h; exact h

theorem ok_field {ks : Ks} (h : kindsOk ks = true) {m k : Nat} (hh : hasB ks m k = true) {f : ByteArray} (hf : f ∈ (recAt ks m k).fields) : fieldB ks m k f = true := by
  have hr := ok_rec h hh
  unfold recB at hr
  simp only [Bool.and_eq_true, List.all_eq_true] at hr
  exact (hr.2 f hf).1

set_option maxHeartbeats 400000 in
theorem l1Holds_any (F : Nat → Prop) (v : Value) (ks : Ks) (inn : ByteArray) (hok : kindsOk ks = true) (n : Nat) : ∀ (t : ByteArray) (w : World), rank t < n → Known ks t → Cod.recs.Sl F w v ks →
    Calls Try.prog 67 #[v, .string t, .string inn] w fun e w' => e = .returned (.bool (holdsF ks inn n t)) ∧ ∃ d, w' = w.drewN d := by
  induction n with
  | zero => intro t w h; omega
  | succ n ih =>
    intro t w hrk hkn h
    by_cases he : t = inn
    · have HP : Hid (holdsF ks inn (n + 1) t = true) := by show _ = _; unfold holdsF; rw [decide_eq_true he]; rfl
      have hq : (t.toList == inn.toList) = true := by rw [he]; exact beq_self_eq_true _
      clear he ih
      go_enter Try.func67, Try.ntmps67
      go_wp2_with fail
      go_ret
      exact ⟨ret_bool HP.out.symm, 0, rfl⟩
    · have hd : decide (t = inn) = false := decide_eq_false he
      have hq : (t.toList == inn.toList) = false := by
        rw [beq_eq_false_iff_ne]
        exact fun h => he (ext_toList h)
      cases hk : kindOf t with
      | none =>
        have HK := Lib.hid hk
        have HP : Hid (holdsF ks inn (n + 1) t = false) := by show _ = _; unfold holdsF; rw [hd, hk]; rfl
        clear he ih hd hk
        go_enter Try.func67, Try.ntmps67
        go_wp2_with (go_at_call 65; refine (l1Kind_no t _ HK.out).mono ?_; rintro e w1 ⟨rfl, n1, rfl⟩)
        go_ret
        exact ⟨ret_bool HP.out.symm, _, rfl⟩
      | some mk =>
        obtain ⟨m, k⟩ := mk
        have hh := hkn m k hk
        have Hfield := Lib.hid (fun f (hf : f ∈ (recAt ks m k).fields) => ok_field hok hh hf)
        obtain ⟨hm, hk', hrec⟩ := has_at hh
        have HK := Lib.hid hk
        have Hrk := Lib.hid (show rank t = 10 * m + k + 1 by unfold rank; rw [hk])
        have HS := Lib.hid h
        have HP : Hid (((ks[m][k]).fields.drop 0).any (holdsF ks inn n) = holdsF ks inn (n + 1) t) := by show _ = _; rw [holdsF, hd, hk, ← hrec]; simp
        obtain ⟨b, off, cap, u, rfl, _, hlc, hcm, hc0, hu⟩ := h.sl_at hm
        obtain ⟨b', off', cap', u', rfl, _, hlu, hcu, hc1, hc2, _, hu'⟩ := hu.rec_at hk'
        have HU := Lib.hid hu'
        obtain ⟨Af, cf, rfl, hlf, hcf, _⟩ := hu'
        unfold maxLen at hcm hcu hcf
        have Hrec := Lib.hid hrec
        have IH := Lib.hid ih
        clear he ih hd hk hrec hu hh hkn
        have hk9 := kindOf_le HK.out
        go_enter Try.func67, Try.ntmps67
        go_wp2_with (go_at_call 65; refine (l1Kind_yes t m k _ HK.out).mono ?_; rintro e w1 ⟨rfl, n1, rfl⟩)
        go_loopw [10] (fun i wr => ∃ (j d : Nat), j ≤ (ks[m][k]).fields.length ∧ i = .int .i64 j ∧ Hid (((ks[m][k]).fields.drop j).any (holdsF ks inn n) = holdsF ks inn (n + 1) t) ∧ wr = w.drewN d) (fun i _ => (ks[m][k]).fields.length - (intOf i).toNat)
        case atStart => exact ⟨0, _, Nat.zero_le _, rfl, HP, rfl⟩
        case round =>
          obtain ⟨j, d, hj, rfl, HH, rfl⟩ := hrel
          by_cases hlt : j < (ks[m][k]).fields.length
          · obtain ⟨bf, of, c1, hv, _, _, _, hcf0, hsf⟩ := HU.out.str_at hlt
            obtain ⟨rfl, rfl⟩ : Af = some ⟨bf, of, none⟩ ∧ cf = c1 := by simpa using hv
            clear hv
            have hmem : (ks[m][k]).fields[j] ∈ (recAt ks m k).fields := by rw [Hrec.out]; exact List.getElem_mem hlt
            have Hf1 := Lib.hid (Hfield.out _ hmem)
            have Hf2 := Lib.hid (show rank (ks[m][k]).fields[j] < n by have h1 := rank_field hk9.2 Hf1.out; have h2 := Hrk.out; omega)
            clear hmem
            cases hr : holdsF ks inn n (ks[m][k]).fields[j] with
            | true =>
              go_wp2_with (go_at_call 67; refine (IH.out _ (w.drewN d) Hf2.out (field_known Hf1.out).1 (HS.out.keep fun _ _ => rfl)).mono ?_; rintro e w1 ⟨rfl, n2, rfl⟩)
              go_ret
              exact ⟨ret_bool (any_stop hlt HH.out hr), _, rfl⟩
            | false =>
              go_wp2_with (go_at_call 67; refine (IH.out _ (w.drewN d) Hf2.out (field_known Hf1.out).1 (HS.out.keep fun _ _ => rfl)).mono ?_; rintro e w1 ⟨rfl, n2, rfl⟩)
              go_roundw
              case rel => exact ⟨j + 1, _, by omega, by go_num, any_step hlt HH.out hr, rfl⟩
              case measure => simp [intOf]; omega
          · go_wp2
            go_ret
            exact ⟨ret_bool (any_end (by omega) HH.out), _, rfl⟩

def typeHolds (ks : Ks) (t inn : ByteArray) : Bool := typeOkB ks t && typeOkB ks inn && (kindOf inn).isSome && !refB t && holdsF ks inn 40 t

theorem rank_ok {ks : Ks} {t : ByteArray} (h : Known ks t) (h3 : ks.length ≤ 3) : rank t < 40 := by
  unfold rank
  split
  · omega
  · rename_i m k hk
    obtain ⟨hm, _⟩ := has_at (h m k hk)
    have := kindOf_le hk
    omega
theorem ok_len {ks : Ks} (h : kindsOk ks = true) : ks.length ≤ 3 := by
  unfold kindsOk kindsBad at h
  have h := of_decide_eq_true h
  split at h
  · simp at h
  · omega

set_option maxHeartbeats 1000000 in
theorem specTypeHolds_any (F : Nat → Prop) (v : Value) (ks : Ks) (t inn : ByteArray) (w : World) (h : Cod.recs.Sl F w v ks) (hF : ∀ b, F b → b < w.heap.size) (hs : t.size ≤ maxLen) (hi : inn.size ≤ maxLen) :
    Calls Try.prog 30 #[v, .string t, .string inn] w fun e w' => e = .returned (.bool (typeHolds ks t inn)) ∧ Below w.heap.size w w' := by
  have HS := Lib.hid h
  obtain ⟨A, cap, rfl, _⟩ := h
  have hkd : ∃ (m k : Nat), (∀ W : World, Calls Try.prog 65 #[.string inn] W fun e w' => e = .returned (.tuple #[.int .i64 m, .int .i64 k, .bool (kindOf inn).isSome]) ∧ ∃ n, w' = W.drewN n) := by
    cases hk : kindOf inn with
    | none => exact ⟨0, 0, fun W => l1Kind_no inn W hk⟩
    | some mk => exact ⟨mk.1, mk.2, fun W => l1Kind_yes inn mk.1 mk.2 W hk⟩
  obtain ⟨m, k, hkd⟩ := hkd
  have HK := Lib.hid hkd
  clear hkd
  cases ht : typeOkB ks t
  · have HP : Hid (typeHolds ks t inn = false) := by show _ = _; unfold typeHolds; rw [ht]; simp
    go_enter Try.func30, Try.ntmps30
    go_wp2_with (first
      | (go_at_call 65; refine (HK.out _).mono ?_; rintro e w1 ⟨rfl, n1, rfl⟩)
      | (go_at_call 15; refine (specTypeOk_any F _ ks t (w.drewN n1) (HS.out.keep fun _ _ => rfl) hF hs).mono ?_; rintro e w2 ⟨rfl, hb2⟩))
    go_ret
    exact ⟨ret_bool HP.out.symm, (below_drewN (Below.refl _ _) _).trans hb2⟩
  · have Hok := Lib.hid (show kindsOk ks = true by unfold typeOkB at ht; simp only [Bool.and_eq_true] at ht; exact ht.1)
    have Hkn := Lib.hid (known_of_ok ht)
    have Hrk := Lib.hid (rank_ok Hkn.out (ok_len Hok.out))
    have HP : Hid (typeHolds ks t inn = (typeOkB ks inn && (kindOf inn).isSome && !refB t && holdsF ks inn 40 t)) := by show _ = _; unfold typeHolds; rw [ht]; simp
    go_enter Try.func30, Try.ntmps30
    go_wp2_with (go_at_call 65; refine (HK.out _).mono ?_; rintro e w1 ⟨rfl, n1, rfl⟩)
    refine (specTypeOk_any F _ ks t (w.drewN n1) (HS.out.keep fun _ _ => rfl) hF hs).mono ?_
    rintro e w2 ⟨rfl, hb2⟩
    rw [ht]
    go_wp2_with fail
    refine (specTypeOk_any F _ ks inn w2 (HS.out.keep (below_keeps hb2 hF)) (fun b hb => Nat.lt_of_lt_of_le (hF b hb) hb2.size) hi).mono ?_
    rintro e w3 ⟨rfl, hb3⟩
    have hb := ((below_drewN (Below.refl w.heap.size w) n1).trans hb2).trans (hb3.mono hb2.size)
    go_wp2_with (first
      | (go_at_call 66; refine (l1Ref_any t _ hs).mono ?_; rintro e w' ⟨rfl, rfl⟩)
      | (go_at_call 67; refine (l1Holds_any F _ ks inn Hok.out 40 t w3 Hrk.out Hkn.out (HS.out.keep (below_keeps hb hF))).mono ?_; rintro e w4 ⟨rfl, n4, rfl⟩))
    all_goals
      go_ret
      exact ⟨ret_bool (by rw [HP.out]; simp [*]), by first | exact below_drewN hb _ | exact hb⟩
end Go.Proofs.Ytjmdhjnfekpklaa
