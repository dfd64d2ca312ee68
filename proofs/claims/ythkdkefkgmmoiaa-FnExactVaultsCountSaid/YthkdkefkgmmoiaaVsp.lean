/- The model of values: what is one. The model of values: the parts of a record. The model of values: what is one, whole. -/
import Derived.Test.YthkdkefkgmmoiaaSpb
import Derived.Test.YthkdkefkgmmoiaaVal
namespace Go.Proofs.Ythkdkefkgmmoiaa
open Go.RowKit

def inB (n lo hi : Int) : Bool := decide (lo ≤ n) && decide (n ≤ hi)
def plainV (v : Val) : Bool := decide (v.parts.length = 0) && decide (v.path.length = 0)
/-- A value is one of kinds, its parts by f. -/
def okOf (ks : Ks) (f : Val → Bool) (v : Val) : Bool :=
  if (v.ty.toList == [110]) = true then plainV v && inB v.n 0 1000000
  else if (v.ty.toList == [98]) = true then plainV v && inB v.n 0 1
  else if (v.ty.toList == [111]) = true then plainV v && inB v.n 0 3
  else match kindOf v.ty with
    | none => false
    | some (m, k) => (hasB ks m k && decide (v.n = 0) && decide (v.path.length = 0) && decide (v.parts.length = (recAt ks m k).fields.length)) && (v.parts.zip (recAt ks m k).fields).all fun x => (x.1.ty.toList == x.2.toList) && f x.1
def okV (ks : Ks) : Nat → Val → Bool
  | 0 => fun _ => false
  | d + 1 => okOf ks (okV ks d)

set_option maxHeartbeats 400000 in
theorem l2Plain_any {c : Cod Val} (F : Nat → Prop) (A B : Option Addr) (n m cA cB : Nat) (v : Val) (w : World) (h : VRd c F w (.slice A n cA) (.slice B m cB) v) :
    Calls Try.prog 125 #[.agg #[.string v.ty, .int .i64 v.n, .slice A n cA, .slice B m cB]] w fun e w' => e = .returned (.bool (plainV v)) ∧ w.alloc (.cells #[.string v.ty, .int .i64 v.n, .slice A n cA, .slice B m cB] 95) = w' := by
  obtain ⟨A', cA', hA, hA1, hA2, _⟩ := h.parts
  obtain ⟨B', cB', hB, hB1, hB2, _⟩ := h.path
  simp only [Value.slice.injEq] at hA hB
  obtain ⟨rfl, rfl, rfl⟩ := hA
  obtain ⟨rfl, rfl, rfl⟩ := hB
  unfold maxLen at hA2 hB2
  clear h
  by_cases h1 : v.parts.length = 0
  · by_cases h2 : v.path.length = 0
    · have HP : Hid (plainV v = true) := by show _ = _; unfold plainV; rw [h1, h2]; rfl
      have b1 : ((v.parts.length : Int) == 0) = true := by rw [beq_iff_eq]; omega
      have b2 : ((v.path.length : Int) == 0) = true := by rw [beq_iff_eq]; omega
      clear h1 h2
      go_enter Try.func125, Try.ntmps125
      go_wp2
      go_ret
      exact ⟨ret_bool HP.out.symm, rfl⟩
    · have HP : Hid (plainV v = false) := by show _ = _; unfold plainV; rw [decide_eq_false h2, Bool.and_false]
      have b1 : ((v.parts.length : Int) == 0) = true := by rw [beq_iff_eq]; omega
      have b2 : ((v.path.length : Int) == 0) = false := by rw [beq_eq_false_iff_ne]; omega
      clear h1 h2
      go_enter Try.func125, Try.ntmps125
      go_wp2
      go_ret
      exact ⟨ret_bool HP.out.symm, rfl⟩
  · have HP : Hid (plainV v = false) := by show _ = _; unfold plainV; rw [decide_eq_false h1, Bool.false_and]
    have b1 : ((v.parts.length : Int) == 0) = false := by rw [beq_eq_false_iff_ne]; omega
    clear h1
    go_enter Try.func125, Try.ntmps125
    go_wp2
    go_ret
    exact ⟨ret_bool HP.out.symm, rfl⟩

def OkC (ks : Ks) (c : Cod Val) (f : Val → Bool) : Prop := ∀ (F : Nat → Prop) (kv : Value) (A B : Option Addr) (n m cA cB : Nat) (v : Val) (w : World), Cod.recs.Sl F w kv ks → VRd c F w (.slice A n cA) (.slice B m cB) v → (∀ b, F b → b < w.heap.size) →
    Calls Try.prog 110 #[kv, .agg #[.string v.ty, .int .i64 v.n, .slice A n cA, .slice B m cB]] w fun e w' => e = .returned (.bool (okOf ks f v)) ∧ Below w.heap.size w w'

end Go.Proofs.Ythkdkefkgmmoiaa

namespace Go.Proofs.Ythkdkefkgmmoiaa
open Go.RowKit

def partB (f : Val → Bool) (x : Val × ByteArray) : Bool := (x.1.ty.toList == x.2.toList) && f x.1

set_option maxRecDepth 100000 in
set_option maxHeartbeats 4000000 in
theorem l2Ok_loop {ks : Ks} {c e : Cod Val} {f g : Val → Bool} (hc : IsVal c e) (IH : HasEl c → OkC ks e g ∧ f = okOf ks g)
    (F : Nat → Prop) (kv : Value) (A B : Option Addr) (cA cB : Nat) (v : Val) (w : World) (hks : Cod.recs.Sl F w kv ks) (h : VRd c F w (.slice A v.parts.length cA) (.slice B v.path.length cB) v) (hF : ∀ b, F b → b < w.heap.size)
    (c1 : (v.ty.toList == [110]) = false) (c2 : (v.ty.toList == [98]) = false) (c3 : (v.ty.toList == [111]) = false) (m k : Nat) (hk : kindOf v.ty = some (m, k)) (hh : hasB ks m k = true) (hn0 : v.n = 0) (hp0 : v.path.length = 0) (hl0 : v.parts.length = (recAt ks m k).fields.length) :
    Calls Try.prog 110 #[kv, .agg #[.string v.ty, .int .i64 v.n, .slice A v.parts.length cA, .slice B v.path.length cB]] w fun e w' => e = .returned (.bool ((v.parts.zip (recAt ks m k).fields).all (partB f))) ∧ Below w.heap.size w w' := by
  have HS := Lib.hid hks
  have HV := Lib.hid h
  have IHH := Lib.hid (fun hp : 0 < v.parts.length => IH ⟨F, w, _, v.parts, h.parts, hp⟩)
  obtain ⟨A', cA', hA, hA1, hA2, _⟩ := h.parts
  obtain ⟨B', cB', hB, hB1, hB2, _⟩ := h.path
  simp only [Value.slice.injEq] at hA hB
  obtain ⟨rfl, _, rfl⟩ := hA
  obtain ⟨rfl, _, rfl⟩ := hB
  unfold maxLen at hA2 hB2
  clear h IH
  have hk1 : ∀ b, F b → (w.alloc (.cells #[.string v.ty, .int .i64 v.n, .slice A v.parts.length cA, .slice B v.path.length cB] 95)).heap[b]? = w.heap[b]? := fun b hb => Below.heap_alloc _ _ _ (hF b hb)
  have HV1 := Lib.hid (HV.out.keep hk1)
  have HS1 := Lib.hid (HS.out.keep hk1)
  have HB := Lib.hid (Blk.new w 95 #[.string v.ty, .int .i64 v.n, .slice A v.parts.length cA, .slice B v.path.length cB])
  have HK := Lib.hid hk
  obtain ⟨hm, hk', hrec⟩ := has_at hh
  rw [hrec] at hl0 ⊢
  obtain ⟨b, off, cap, u, rfl, hFb, hlc, hcm, hc0, hu⟩ := hks.sl_at hm
  obtain ⟨b', off', cap', u', rfl, hFb', hlu, hcu, hcr1, hcr2, _, hu'⟩ := hu.rec_at hk'
  have HU := Lib.hid hu'
  obtain ⟨Af, cf, rfl, hlf, hcf, _⟩ := hu'
  unfold maxLen at hcm hcu hcf
  have hb1 := hF b hFb
  have hb2 := hF b' hFb'
  have HH := Lib.hid hh
  have Hl := Lib.hid hl0
  have bn : (v.n != 0) = false := bne_eq_false_iff_eq.2 hn0
  have bp : decide (0 < v.path.length) = false := decide_eq_false (by omega)
  have bl : (v.parts.length != (ks[m][k]).fields.length) = false := bne_eq_false_iff_eq.2 hl0
  have bl2 : ((v.parts.length : Int) != ((ks[m][k]).fields.length : Int)) = false := bne_eq_false_iff_eq.2 (by omega)
  have Hzl := Lib.hid (show (v.parts.zip (ks[m][k]).fields).length = v.parts.length by rw [List.length_zip]; omega)
  clear hu hh hrec hk hn0 hp0 hl0 hk1
  generalize hfs : (ks[m][k]).fields = fs at *
  have HFS := Lib.hid hfs
  clear hfs
  have HQ : Hid (((v.parts.zip fs).drop 0).all (partB f) = (v.parts.zip fs).all (partB f)) := rfl
  go_enter Try.func110, Try.ntmps110
  go_wp2_with (go_at_call 48; refine (l1Kind_yes v.ty m k _ HK.out).mono ?_; rintro e w1 ⟨rfl, n1, rfl⟩)
  go_quiet ((go_at_call 70; exact Calls.still2 n1 (fun j => (l1Has_any F _ ks m k _ (HS1.out.drewN j)).mono fun e w' hh => ⟨hh.1.trans (by rw [HH.out]), hh.2⟩) _))
  go_wp2
  go_loopw [8] (fun i wr => ∃ j : Nat, j ≤ v.parts.length ∧ i = .int .i64 j ∧ Hid (((v.parts.zip fs).drop j).all (partB f) = (v.parts.zip fs).all (partB f)) ∧ Hid (Below (w.heap.size + 1) (w.alloc (.cells #[.string v.ty, .int .i64 v.n, .slice A v.parts.length cA, .slice B v.path.length cB] 95)) wr)) (fun i _ => v.parts.length - (intOf i).toNat)
  case atStart => exact ⟨0, Nat.zero_le _, rfl, HQ, below_drewN (below_drewN (Below.refl _ _) _) _⟩
  case round =>
    obtain ⟨j, hj, rfl, HH1, HBe⟩ := hrel
    have hBw := (HB.out.below HBe.out (by simp))
    obtain ⟨x0, x1, x2, x3⟩ := hBw.c2
    have HBw := Lib.hid hBw
    clear hBw
    by_cases hlt : j < v.parts.length
    · have hb := Lib.hid (((Below.refl w.heap.size w).alloc (Nat.le_refl _) _).trans (HBe.out.mono (by simp)))
      have hws := hb.out.size
      have hlf : j < fs.length := by have := Hl.out; omega
      obtain ⟨bp2, of2, cp2, A2, cA2, B2, cB2, hv, hFp, _, _, hp0, hp1, hp2, hp3, hV⟩ := (HV.out.parts.keep (below_keeps hb.out hF)).val_at hc hlt
      obtain ⟨rfl, rfl⟩ : A = some ⟨bp2, of2, none⟩ ∧ cA = cp2 := by simpa using hv
      obtain ⟨bf, of, c5, hv5, hFf, _, _, hcf0, hsf⟩ := (HU.out.keep (below_keeps hb.out hF)).str_at hlf
      obtain ⟨rfl, rfl⟩ : Af = some ⟨bf, of, none⟩ ∧ cf = c5 := by simpa using hv5
      have hk0 : wr.cell? ⟨b, off + m, none⟩ = _ := (hb.out.cell (p := ⟨b, off + m, none⟩) hb1).trans hc0
      have hk2 : wr.cell? ⟨b', off' + k * 2 + 1, none⟩ = _ := (hb.out.cell (p := ⟨b', off' + k * 2 + 1, none⟩) hb2).trans hcr2
      have HVp := Lib.hid hV
      have IH1 := Lib.hid (IHH.out (by omega)).1
      have Hf1 := Lib.hid (show f v.parts[j] = okOf ks g v.parts[j] by rw [(IHH.out (by omega)).2])
      have HSr := Lib.hid (HS.out.keep (below_keeps hb.out hF))
      have HFr := Lib.hid (show ∀ b, F b → b < wr.drew.heap.size from fun b h => Nat.lt_of_lt_of_le (hF b h) hws)
      have Hz := Lib.hid (show (v.parts.zip fs)[j]'(by rw [Hzl.out]; exact hlt) = (v.parts[j], fs[j]) from List.getElem_zip)
      clear hv hv5 hV hFp hFf hc0 hcr2
      have i0 : (0 : Int) ≤ j := by omega
      have i1 : (j : Int) < v.parts.length := by omega
      have i2 : (j : Int) < fs.length := by omega
      cases ht : (v.parts[j].ty.toList == fs[j].toList) with
      | false =>
        have ht2 : (v.parts[j].ty.toList != fs[j].toList) = true := by rw [bne, ht]; rfl
        have HT := Lib.hid ht
        go_wp2
        go_quiet (fail)
        go_wp2
        go_ret
        exact ⟨ret_bool (all_stop (by rw [Hzl.out]; exact hlt) HH1.out (by rw [Hz.out]; unfold partB; rw [HT.out]; rfl)), below_drewN hb.out _⟩
      | true =>
        have ht2 : (v.parts[j].ty.toList != fs[j].toList) = false := by rw [bne, ht]; rfl
        have HT := Lib.hid ht
        go_wp2
        go_still_tail 25, (by kernel_rfl)
        change wpList _ _ _ _ _ wr.drew
        go_wp2_with fail
        refine (IH1.out F _ _ _ _ _ _ _ v.parts[j] wr.drew HSr.out.drew HVp.out.drew HFr.out).mono ?_
        rintro e' w2 ⟨rfl, hb2⟩
        have HBn := Lib.hid ((HBe.out.drew).trans (hb2.mono (by have h := HBe.out.size; rw [World.size_alloc] at h; exact h)))
        have HBl := Lib.hid (hb.out.drew.trans (hb2.mono hws))
        cases hq : okOf ks g v.parts[j] with
        | false =>
          go_wp2_with fail
          go_ret
          exact ⟨ret_bool (all_stop (by rw [Hzl.out]; exact hlt) HH1.out (by rw [Hz.out]; unfold partB; rw [HT.out, Hf1.out, hq]; rfl)), HBl.out⟩
        | true =>
          have HQ2 := Lib.hid hq
          clear hq
          go_wp2_with fail
          go_roundw
          case rel => exact ⟨j + 1, by omega, by go_num, all_step (by rw [Hzl.out]; exact hlt) HH1.out (by rw [Hz.out]; unfold partB; rw [HT.out, Hf1.out, HQ2.out]; rfl), HBn.out⟩
          case measure => simp [intOf]; omega
    · go_wp2
      go_ret
      exact ⟨ret_bool (all_end (by rw [Hzl.out]; omega) HH1.out), ((Below.refl _ _).alloc (Nat.le_refl _) _).trans (HBe.out.mono (by simp))⟩
end Go.Proofs.Ythkdkefkgmmoiaa

namespace Go.Proofs.Ythkdkefkgmmoiaa
open Go.RowKit

set_option maxRecDepth 100000 in
set_option maxHeartbeats 4000000 in
theorem l2Ok_of {ks : Ks} {c e : Cod Val} {f g : Val → Bool} (hc : IsVal c e) (IH : HasEl c → OkC ks e g ∧ f = okOf ks g) : OkC ks c f := by
  intro F kv A B n m cA cB v w hks h hF
  have HS := Lib.hid hks
  have HV := Lib.hid h
  have IHH := Lib.hid IH
  obtain ⟨A', cA', hA, hA1, hA2, _⟩ := h.parts
  obtain ⟨B', cB', hB, hB1, hB2, _⟩ := h.path
  simp only [Value.slice.injEq] at hA hB
  obtain ⟨rfl, rfl, rfl⟩ := hA
  obtain ⟨rfl, rfl, rfl⟩ := hB
  unfold maxLen at hA2 hB2
  clear h IH
  have hk1 : ∀ b, F b → (w.alloc (.cells #[.string v.ty, .int .i64 v.n, .slice A v.parts.length cA, .slice B v.path.length cB] 95)).heap[b]? = w.heap[b]? := fun b hb => Below.heap_alloc _ _ _ (hF b hb)
  have HV1 := Lib.hid (HV.out.keep hk1)
  have HS1 := Lib.hid (HS.out.keep hk1)
  clear hk1
  cases c1 : (v.ty.toList == [110])
  · cases c2 : (v.ty.toList == [98])
    · cases c3 : (v.ty.toList == [111])
      · cases hk : kindOf v.ty with
        | none =>
          obtain ⟨Ak, ck, rfl, _⟩ := hks
          have HK := Lib.hid hk
          have HR : Hid (okOf ks f v = false) := by show _ = _; unfold okOf; rw [c1, c2, c3, hk]; rfl
          clear hk
          go_enter Try.func110, Try.ntmps110
          go_wp2_with (go_at_call 48; refine (l1Kind_no v.ty _ HK.out).mono ?_; rintro e w1 ⟨rfl, n1, rfl⟩)
          go_quiet (fail)
          go_wp2
          go_ret
          exact ⟨ret_bool HR.out.symm, below_drewN (below_drewN ((Below.refl _ _).alloc (Nat.le_refl _) _) _) _⟩
        | some mk =>
          obtain ⟨m, k⟩ := mk
          have HK := Lib.hid hk
          have hR : okOf ks f v = ((hasB ks m k && decide (v.n = 0) && decide (v.path.length = 0) && decide (v.parts.length = (recAt ks m k).fields.length)) && (v.parts.zip (recAt ks m k).fields).all fun x => (x.1.ty.toList == x.2.toList) && f x.1) := by unfold okOf; rw [c1, c2, c3, hk]; rfl
          clear hk
          cases hh : hasB ks m k with
          | false =>
            obtain ⟨Ak, ck, rfl, _⟩ := hks
            rw [hh] at hR
            have HR := Lib.hid hR
            have HH := Lib.hid hh
            clear hR hh
            go_enter Try.func110, Try.ntmps110
            go_wp2_with (go_at_call 48; refine (l1Kind_yes v.ty m k _ HK.out).mono ?_; rintro e w1 ⟨rfl, n1, rfl⟩)
            go_quiet ((go_at_call 70; exact Calls.still2 n1 (fun j => (l1Has_any F _ ks m k _ (HS1.out.drewN j)).mono fun e w' hh => ⟨hh.1.trans (by rw [HH.out]), hh.2⟩) _))
            go_wp2
            go_ret
            exact ⟨ret_bool (by rw [HR.out]; rfl), below_drewN (below_drewN ((Below.refl _ _).alloc (Nat.le_refl _) _) _) _⟩
          | true =>
            obtain ⟨hm, hk', hrec⟩ := has_at hh
            rw [hh, hrec] at hR
            obtain ⟨b, off, cap, u, rfl, hFb, hlc, hcm, hc0, hu⟩ := hks.sl_at hm
            obtain ⟨b', off', cap', u', rfl, hFb', hlu, hcu, hcr1, hcr2, _, hu'⟩ := hu.rec_at hk'
            have HU := Lib.hid hu'
            obtain ⟨Af, cf, rfl, hlf, hcf, _⟩ := hu'
            unfold maxLen at hcm hcu hcf
            have hb1 := hF b hFb
            have hb2 := hF b' hFb'
            have HH := Lib.hid hh
            have hrec' := hrec
            clear hu hh hrec
            by_cases hn0 : v.n = 0
            · by_cases hp0 : v.path.length = 0
              · by_cases hl0 : v.parts.length = (ks[m][k]).fields.length
                · exact (l2Ok_loop hc IHH.out F _ A B cA cB v w HS.out HV.out hF c1 c2 c3 m k HK.out HH.out hn0 hp0 (by rw [hrec']; exact hl0)).mono fun e w' hh => ⟨hh.1.trans (ret_bool (by rw [hR, ← hrec', decide_eq_true hn0, decide_eq_true hp0, decide_eq_true (show v.parts.length = (recAt ks m k).fields.length by rw [hrec']; exact hl0)]; rfl)), hh.2⟩
                · have bn : (v.n != 0) = false := bne_eq_false_iff_eq.2 hn0
                  have bp : decide (0 < v.path.length) = false := decide_eq_false (by omega)
                  have bl : (v.parts.length != (ks[m][k]).fields.length) = true := bne_iff_ne.2 hl0
                  have bl2 : ((v.parts.length : Int) != ((ks[m][k]).fields.length : Int)) = true := bne_iff_ne.2 (by omega)
                  have HR : Hid (okOf ks f v = false) := by show _ = _; rw [hR, decide_eq_false hl0, Bool.and_false, Bool.false_and]
                  clear hR hn0 hp0 hl0 hrec'
                  go_enter Try.func110, Try.ntmps110
                  go_wp2_with (go_at_call 48; refine (l1Kind_yes v.ty m k _ HK.out).mono ?_; rintro e w1 ⟨rfl, n1, rfl⟩)
                  go_quiet ((go_at_call 70; exact Calls.still2 n1 (fun j => (l1Has_any F _ ks m k _ (HS1.out.drewN j)).mono fun e w' hh => ⟨hh.1.trans (by rw [HH.out]), hh.2⟩) _))
                  go_wp2
                  go_ret
                  exact ⟨ret_bool HR.out.symm, below_drewN (below_drewN ((Below.refl _ _).alloc (Nat.le_refl _) _) _) _⟩
              · have bn : (v.n != 0) = false := bne_eq_false_iff_eq.2 hn0
                have bp : decide (0 < v.path.length) = true := decide_eq_true (by omega)
                have HR : Hid (okOf ks f v = false) := by show _ = _; rw [hR, decide_eq_false hp0]; simp
                clear hR hn0 hp0 hrec'
                go_enter Try.func110, Try.ntmps110
                go_wp2_with (go_at_call 48; refine (l1Kind_yes v.ty m k _ HK.out).mono ?_; rintro e w1 ⟨rfl, n1, rfl⟩)
                go_quiet ((go_at_call 70; exact Calls.still2 n1 (fun j => (l1Has_any F _ ks m k _ (HS1.out.drewN j)).mono fun e w' hh => ⟨hh.1.trans (by rw [HH.out]), hh.2⟩) _))
                go_wp2
                go_ret
                exact ⟨ret_bool HR.out.symm, below_drewN (below_drewN ((Below.refl _ _).alloc (Nat.le_refl _) _) _) _⟩
            · have bn : (v.n != 0) = true := bne_iff_ne.2 hn0
              have HR : Hid (okOf ks f v = false) := by show _ = _; rw [hR, decide_eq_false hn0]; rfl
              clear hR hn0 hrec'
              go_enter Try.func110, Try.ntmps110
              go_wp2_with (go_at_call 48; refine (l1Kind_yes v.ty m k _ HK.out).mono ?_; rintro e w1 ⟨rfl, n1, rfl⟩)
              go_quiet ((go_at_call 70; exact Calls.still2 n1 (fun j => (l1Has_any F _ ks m k _ (HS1.out.drewN j)).mono fun e w' hh => ⟨hh.1.trans (by rw [HH.out]), hh.2⟩) _))
              go_wp2
              go_ret
              exact ⟨ret_bool HR.out.symm, below_drewN (below_drewN ((Below.refl _ _).alloc (Nat.le_refl _) _) _) _⟩
      · have HR : Hid (okOf ks f v = (plainV v && inB v.n 0 3)) := by show _ = _; unfold okOf; rw [c1, c2, c3]; rfl
        have HI : Hid (inB v.n 0 3 = (decide (0 ≤ v.n) && decide (v.n ≤ 3))) := rfl
        go_enter Try.func110, Try.ntmps110
        go_wp2_with (first
          | (go_at_call 125; refine (l2Plain_any F A B _ _ cA cB v _ HV1.out).mono ?_; rintro e w1 ⟨rfl, rfl⟩)
          | (go_at_call 42; refine (l6In_any _ _ _ _).mono ?_; rintro e w' ⟨rfl, rfl⟩))
        all_goals
          go_ret
          exact ⟨ret_bool (by rw [HR.out, HI.out]; simp [*]), ((Below.refl _ _).alloc (Nat.le_refl _) _).alloc (by simp) _⟩
    · have HR : Hid (okOf ks f v = (plainV v && inB v.n 0 1)) := by show _ = _; unfold okOf; rw [c1, c2]; rfl
      have HI : Hid (inB v.n 0 1 = (decide (0 ≤ v.n) && decide (v.n ≤ 1))) := rfl
      go_enter Try.func110, Try.ntmps110
      go_wp2_with (first
        | (go_at_call 125; refine (l2Plain_any F A B _ _ cA cB v _ HV1.out).mono ?_; rintro e w1 ⟨rfl, rfl⟩)
        | (go_at_call 42; refine (l6In_any _ _ _ _).mono ?_; rintro e w' ⟨rfl, rfl⟩))
      all_goals
        go_ret
        exact ⟨ret_bool (by rw [HR.out, HI.out]; simp [*]), ((Below.refl _ _).alloc (Nat.le_refl _) _).alloc (by simp) _⟩
  · have HR : Hid (okOf ks f v = (plainV v && inB v.n 0 1000000)) := by show _ = _; unfold okOf; rw [c1]; rfl
    have HI : Hid (inB v.n 0 1000000 = (decide (0 ≤ v.n) && decide (v.n ≤ 1000000))) := rfl
    go_enter Try.func110, Try.ntmps110
    go_wp2_with (first
      | (go_at_call 125; refine (l2Plain_any F A B _ _ cA cB v _ HV1.out).mono ?_; rintro e w1 ⟨rfl, rfl⟩)
      | (go_at_call 42; refine (l6In_any _ _ _ _).mono ?_; rintro e w' ⟨rfl, rfl⟩))
    all_goals
      go_ret
      exact ⟨ret_bool (by rw [HR.out, HI.out]; simp [*]), ((Below.refl _ _).alloc (Nat.le_refl _) _).alloc (by simp) _⟩

theorem l2Ok_any (ks : Ks) : ∀ d, OkC ks (Cod.val d) (okV ks d)
  | 0 => l2Ok_of (e := Cod.no) (g := fun _ => false) (IsVal.zero _) fun h => absurd h no_el
  | d + 1 => l2Ok_of (IsVal.of _) fun _ => ⟨l2Ok_any ks d, rfl⟩

/-- A value, its parts of a depth, is one of kinds. -/
def valOk (ks : Ks) (d : Nat) (v : Val) : Bool := kindsOk ks && okV ks (d + 1) v

end Go.Proofs.Ythkdkefkgmmoiaa
