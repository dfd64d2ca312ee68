/- The functions that reckon sizes, at instructions, functions and modules. The functions that copy arguments, at instructions, functions and modules: what they hand back is the call's own. -/
import Derived.Test.YthkdkefkgmmoiaaDoorGd
import Derived.Test.YthkdkefkgmmoiaaDoorSz
import Derived.Test.YthkdkefkgmmoiaaDoorMk
namespace Go.Proofs.YthkdkefkgmmoiaaDoor
open Go.RowKit


/-- What a row's size is, copies, compares, marks and holds: as facts about one Go function. -/
def SzRow {α : Type} (c : Cod α) (f : FuncId) (g : List α → Int → Int) : Prop := ∀ (F : Nat → Prop) (v : Value) (xs : List α) (left : Int) (w : World), c.Sl F w v xs → (∀ b, F b → b < w.heap.size) → 0 ≤ left → left ≤ 2000000 →
    Calls Tryd.prog f #[v, .int .i64 left] w fun e w' => e = .returned (.int .i64 (g xs left)) ∧ Below w.heap.size w w'
theorem sz_str : SzRow Cod.str 53 (szS szB) := fun F v xs left w h _ h0 h1 => (szStringS_any F v xs left w h h0 h1).mono fun _ _ hh => ⟨hh.1, hh.2 ▸ Below.refl _ _⟩
theorem sz_i64 : SzRow Cod.i64 22 szI := fun F v xs left w h _ h0 h1 => (szIntS_any F v xs left w h h0 h1).mono fun _ _ hh => ⟨hh.1, hh.2 ▸ Below.refl _ _⟩
theorem sz_rec : SzRow Cod.rec_ 20 (szS szRec) := fun F v xs left w h hF h0 h1 => szRecordS_any F v xs left w h hF h0 h1
def szThen (a : Int) (f : Int → Int) : Int := if a < 0 then -1 else f a
theorem szThen_neg {a : Int} {f : Int → Int} (h : a < 0) : szThen a f = -1 := by unfold szThen; rw [if_pos h]
theorem szThen_go {a : Int} {f : Int → Int} (h : ¬ a < 0) : szThen a f = f a := by unfold szThen; rw [if_neg h]
theorem szThen_le {a l : Int} {f : Int → Int} (h0 : 0 ≤ l) (h1 : a ≤ l) (h2 : ∀ b, 0 ≤ b → b ≤ l → f b ≤ l) : szThen a f ≤ l := by
  unfold szThen
  split
  · omega
  · exact h2 a (by omega) h1
theorem szThen_pos {a : Int} {f : Int → Int} (h : 0 ≤ szThen a f) : 0 ≤ a ∧ 0 ≤ f a := by
  unfold szThen at h
  split at h
  · omega
  · exact ⟨by omega, h⟩

theorem szI_len {xs : List Int} {l : Int} (h : 0 ≤ szI xs l) : (xs.length : Int) ≤ l := by
  unfold szI at h
  split at h <;> omega
def SmolRec (r : Rec) : Prop := r.fields.length ≤ 2000000
theorem smol_rec {r : Rec} {l : Int} (_ : 0 ≤ l) (h1 : l ≤ 2000000) (h : 0 ≤ szRec r l) : SmolRec r := by
  unfold szRec at h
  split at h
  · omega
  · obtain ⟨h5, _⟩ := szS_len szB_le h
    unfold SmolRec
    omega

def szInsr (x : InsR) (l : Int) : Int := szThen (l - x.op.size) fun l0 => l0
theorem szInsr_le (x : InsR) (l : Int) (h : 0 ≤ l) : szInsr x l ≤ l := by
  unfold szInsr
  refine szThen_le h (by omega) fun l0 p0 q0 => ?_
  omega
def SmolInsr (x : InsR) : Prop := True
theorem smol_insr {x : InsR} {l : Int} (h0 : 0 ≤ l) (h1 : l ≤ 2000000) (h : 0 ≤ szInsr x l) : SmolInsr x := by
  trivial

set_option maxRecDepth 100000 in
set_option maxHeartbeats 1000000 in
theorem szInsr_one (F : Nat → Prop) (x : InsR) (left : Int) (w : World) (h : InsRd F w  x) (hF : ∀ b, F b → b < w.heap.size) (h0 : 0 ≤ left) (h1 : left ≤ 2000000) :
    Calls Tryd.prog 68 #[.agg #[.string x.op, .int .i64 x.a, .int .i64 x.b], .int .i64 left] w fun e w' => e = .returned (.int .i64 (szInsr x left)) ∧ Below w.heap.size w w' := by
  obtain ⟨w0, hw0⟩ : ∃ w0, w0 = w.alloc (.cells #[.string x.op, .int .i64 x.a, .int .i64 x.b] 111) := ⟨_, rfl⟩
  have HB0 := Lib.hid (show Blk w0 w.heap.size 111 #[.string x.op, .int .i64 x.a, .int .i64 x.b] by rw [hw0]; exact Blk.new _ _ _)
  have HW0 := Lib.hid (show Below w.heap.size w w0 by rw [hw0]; exact (Below.refl _ _).alloc (Nat.le_refl _) _)
  have hs0 : w0.heap.size = w.heap.size + 1 := by rw [hw0]; simp
  have HV0 := Lib.hid (h.keep (w' := w0) fun b hb => HW0.out.block b (hF b hb))
  have HF0 := Lib.hid (show ∀ b, F b → b < w0.heap.size from fun b hb => by have := hF b hb; omega)
  have Hw0 := Lib.hid hw0
  have Hs0 := Lib.hid hs0
  have hm0 := h.op
  unfold maxLen at hm0
  clear h hw0 hs0 hF
  go_enter Tryd.func68, Tryd.ntmps68
  by_cases hn0 : left - x.op.size < 0
  · have HR : Hid (szInsr x left = -1) := by show _ = _; unfold szInsr; rw [szThen_neg hn0]
    go_wp2
    go_ret
    exact ⟨ret_int HR.out.symm, by have := HW0.out; rw [Hw0.out] at this; exact this⟩
  · have p0 := hn0
    have HR : Hid (szInsr x left = (left - x.op.size)) := by show _ = _; unfold szInsr; rw [szThen_go p0]
    go_wp2
    go_ret
    exact ⟨ret_int HR.out.symm, by have := HW0.out; rw [Hw0.out] at this; exact this⟩

set_option maxRecDepth 100000 in
set_option maxHeartbeats 1000000 in
theorem sz_insr : SzRow Cod.insr 54 (szS szInsr) := by
  intro F v xs left w h hF h0 h1
  have HS := Lib.hid h
  obtain ⟨A, cap, rfl, hlc, hcm, _⟩ := h
  unfold maxLen at hcm
  by_cases ht : left - xs.length < 0
  · go_enter Tryd.func54, Tryd.ntmps54
    go_wp2
    go_ret
    exact ⟨ret_int (szS_neg _ _ _ ht).symm, Below.refl _ _⟩
  · have HF := Lib.hid (szS_go szInsr xs left ht)
    go_enter Tryd.func54, Tryd.ntmps54
    go_wp2
    go_loopw [1, 5] (fun l i wr => ∃ (k : Nat) (n : Int), k ≤ xs.length ∧ i = .int .i64 k ∧ l = .int .i64 n ∧ 0 ≤ n ∧ n ≤ 2000000 ∧ Hid (szList szInsr (xs.drop k) n = szS szInsr xs left) ∧ Below w.heap.size w wr) (fun _ i _ => xs.length - (intOf i).toNat)
    case atStart => exact ⟨0, _, Nat.zero_le _, rfl, rfl, by omega, by omega, HF.out, Below.refl _ _⟩
    case round =>
      obtain ⟨k, n, hk, rfl, rfl, hn0, hn1, HH, hb⟩ := hrel
      by_cases hlt : k < xs.length
      · have HSr := Lib.hid (HS.out.keep (below_keeps hb hF))
        obtain ⟨b, off, cap', hv, hFb, _, _, hc0, hc1, hc2, hV⟩ := HSr.out.insr_at hlt
        obtain ⟨rfl, rfl⟩ : A = some ⟨b, off, none⟩ ∧ cap = cap' := by simpa using hv
        have hle := szInsr_le xs[k] n hn0
        have hsz := hb.size
        have HC := Lib.hid (szInsr_one F xs[k] n wr hV (fun b hb' => Nat.lt_of_lt_of_le (hF b hb') hsz) hn0 hn1)
        clear hv hV
        by_cases hneg : szInsr xs[k] n < 0
        · go_wp2_with (go_at_call 68; refine HC.out.mono ?_; rintro e w' ⟨rfl, hb1⟩)
          go_ret
          exact ⟨ret_int (szList_stop hlt HH.out hneg), hb.trans (hb1.mono hsz)⟩
        · go_wp2_with (go_at_call 68; refine HC.out.mono ?_; rintro e w' ⟨rfl, hb1⟩)
          go_roundw
          case rel => exact ⟨k + 1, _, by omega, by go_num, rfl, by omega, by omega, szList_step hlt HH.out (by omega), hb.trans (hb1.mono hsz)⟩
          case measure => simp [intOf]; omega
      · go_wp2
        go_ret
        exact ⟨ret_int (szList_end (by omega) HH.out), hb⟩

def szFunr (x : FunR) (l : Int) : Int := szThen (szS szB x.args l) fun l0 => szThen (szS szB x.rets l0) fun l1 => szThen (szS szB x.locals l1) fun l2 => szThen (szI x.takes l2) fun l3 => szThen (szS szInsr x.code l3) fun l4 => l4
theorem szFunr_le (x : FunR) (l : Int) (h : 0 ≤ l) : szFunr x l ≤ l := by
  unfold szFunr
  refine szThen_le h (by have := szS_le szB_le x.args l (by omega); omega) fun l0 p0 q0 => ?_
  refine szThen_le h (by have := szS_le szB_le x.rets l0 (by omega); omega) fun l1 p1 q1 => ?_
  refine szThen_le h (by have := szS_le szB_le x.locals l1 (by omega); omega) fun l2 p2 q2 => ?_
  refine szThen_le h (by have := szI_le x.takes l2 (by omega); omega) fun l3 p3 q3 => ?_
  refine szThen_le h (by have := szS_le szInsr_le x.code l3 (by omega); omega) fun l4 p4 q4 => ?_
  omega
def SmolFunr (x : FunR) : Prop := x.args.length ≤ 2000000 ∧ x.rets.length ≤ 2000000 ∧ x.locals.length ≤ 2000000 ∧ x.takes.length ≤ 2000000 ∧ x.code.length ≤ 2000000 ∧ (∀ y ∈ x.code, SmolInsr y)
theorem smol_funr {x : FunR} {l : Int} (h0 : 0 ≤ l) (h1 : l ≤ 2000000) (h : 0 ≤ szFunr x l) : SmolFunr x := by
  unfold szFunr at h
  obtain ⟨g0, h0'⟩ := szThen_pos h
  have le0 := szS_le szB_le x.args l (by omega)
  obtain ⟨n0, a0⟩ := szS_len (szB_le) g0
  obtain ⟨l0, e0⟩ : ∃ l0, l0 = szS szB x.args l := ⟨_, rfl⟩
  rw [← e0] at g0 h0' le0
  obtain ⟨g1, h1'⟩ := szThen_pos h0'
  have le1 := szS_le szB_le x.rets l0 (by omega)
  obtain ⟨n1, a1⟩ := szS_len (szB_le) g1
  obtain ⟨l1, e1⟩ : ∃ l1, l1 = szS szB x.rets l0 := ⟨_, rfl⟩
  rw [← e1] at g1 h1' le1
  obtain ⟨g2, h2'⟩ := szThen_pos h1'
  have le2 := szS_le szB_le x.locals l1 (by omega)
  obtain ⟨n2, a2⟩ := szS_len (szB_le) g2
  obtain ⟨l2, e2⟩ : ∃ l2, l2 = szS szB x.locals l1 := ⟨_, rfl⟩
  rw [← e2] at g2 h2' le2
  obtain ⟨g3, h3'⟩ := szThen_pos h2'
  have le3 := szI_le x.takes l2 (by omega)
  have n3 := szI_len g3
  obtain ⟨l3, e3⟩ : ∃ l3, l3 = szI x.takes l2 := ⟨_, rfl⟩
  rw [← e3] at g3 h3' le3
  obtain ⟨g4, h4'⟩ := szThen_pos h3'
  have le4 := szS_le szInsr_le x.code l3 (by omega)
  obtain ⟨n4, a4⟩ := szS_len (szInsr_le) g4
  obtain ⟨l4, e4⟩ : ∃ l4, l4 = szS szInsr x.code l3 := ⟨_, rfl⟩
  rw [← e4] at g4 h4' le4
  exact ⟨by omega, by omega, by omega, by omega, by omega, fun y hy => by obtain ⟨l', z0, z1, z2⟩ := a4 y hy; exact smol_insr z0 (by omega) z2⟩

set_option maxRecDepth 100000 in
set_option maxHeartbeats 1000000 in
theorem szFunr_one (F : Nat → Prop) (A1 A2 A3 A4 A5 : Option Addr) (n1 c1 n2 c2 n3 c3 n4 c4 n5 c5 : Nat) (x : FunR) (left : Int) (w : World) (h : FunRd F w (.slice A1 n1 c1) (.slice A2 n2 c2) (.slice A3 n3 c3) (.slice A4 n4 c4) (.slice A5 n5 c5) x) (hF : ∀ b, F b → b < w.heap.size) (h0 : 0 ≤ left) (h1 : left ≤ 2000000) :
    Calls Tryd.prog 40 #[.agg #[.int .i64 x.seen, .slice A1 n1 c1, .slice A2 n2 c2, .slice A3 n3 c3, .slice A4 n4 c4, .slice A5 n5 c5], .int .i64 left] w fun e w' => e = .returned (.int .i64 (szFunr x left)) ∧ Below w.heap.size w w' := by
  obtain ⟨w0, hw0⟩ : ∃ w0, w0 = w.alloc (.cells #[.int .i64 x.seen, .slice A1 n1 c1, .slice A2 n2 c2, .slice A3 n3 c3, .slice A4 n4 c4, .slice A5 n5 c5] 82) := ⟨_, rfl⟩
  have HB0 := Lib.hid (show Blk w0 w.heap.size 82 #[.int .i64 x.seen, .slice A1 n1 c1, .slice A2 n2 c2, .slice A3 n3 c3, .slice A4 n4 c4, .slice A5 n5 c5] by rw [hw0]; exact Blk.new _ _ _)
  have HW0 := Lib.hid (show Below w.heap.size w w0 by rw [hw0]; exact (Below.refl _ _).alloc (Nat.le_refl _) _)
  have hs0 : w0.heap.size = w.heap.size + 1 := by rw [hw0]; simp
  have HV0 := Lib.hid (h.keep (w' := w0) fun b hb => HW0.out.block b (hF b hb))
  have HF0 := Lib.hid (show ∀ b, F b → b < w0.heap.size from fun b hb => by have := hF b hb; omega)
  have Hw0 := Lib.hid hw0
  have Hs0 := Lib.hid hs0
  clear h hw0 hs0 hF
  go_enter Tryd.func40, Tryd.ntmps40
  go_wp2_with fail
  rw [← Hw0.out]
  refine (sz_str F _ x.args left _ HV0.out.args HF0.out (by omega) (by omega)).mono ?_
  rintro e w1 ⟨rfl, hb1⟩
  have HE1 := Lib.hid (hb1)
  clear hb1
  have hle0 := szS_le szB_le x.args left (by omega)
  obtain ⟨s0, hs0⟩ : ∃ s, s = szS szB x.args left := ⟨_, rfl⟩
  rw [← hs0] at hle0 ⊢
  have HQ0 := Lib.hid hs0
  clear hs0
  by_cases hn0 : s0 < 0
  · have HR : Hid (szFunr x left = -1) := by show _ = _; unfold szFunr; rw [← HQ0.out, szThen_neg hn0]
    go_wp2
    go_ret
    exact ⟨ret_int HR.out.symm, HW0.out.trans (HE1.out.mono (by have := Hs0.out; omega))⟩
  · have HP0 := Lib.hid hn0
    obtain ⟨z0_0, z0_1, z0_2, z0_3, z0_4, z0_5⟩ := (HB0.out.below HE1.out (by have := Hs0.out; omega)).g6
    have HV1 := Lib.hid (HV0.out.keep (below_keeps HE1.out HF0.out))
    have HF1 := Lib.hid (show ∀ b, F b → b < w1.heap.size from fun b hb => Nat.lt_of_lt_of_le (HF0.out b hb) HE1.out.size)
    go_wp2_with fail
    refine (sz_str F _ x.rets s0 _ (HV1.out.rets) HF1.out (by omega) (by omega)).mono ?_
    rintro e w2 ⟨rfl, hb2⟩
    have HE2 := Lib.hid (HE1.out.trans (hb2.mono HE1.out.size))
    clear hb2
    have hle1 := szS_le szB_le x.rets s0 (by omega)
    obtain ⟨s1, hs1⟩ : ∃ s, s = szS szB x.rets s0 := ⟨_, rfl⟩
    rw [← hs1] at hle1 ⊢
    have HQ1 := Lib.hid hs1
    clear hs1
    by_cases hn1 : s1 < 0
    · have HR : Hid (szFunr x left = -1) := by show _ = _; unfold szFunr; rw [← HQ0.out, szThen_go (by have := HP0.out; omega), ← HQ1.out, szThen_neg hn1]
      go_wp2
      go_ret
      exact ⟨ret_int HR.out.symm, HW0.out.trans (HE2.out.mono (by have := Hs0.out; omega))⟩
    · have HP1 := Lib.hid hn1
      obtain ⟨z1_0, z1_1, z1_2, z1_3, z1_4, z1_5⟩ := (HB0.out.below HE2.out (by have := Hs0.out; omega)).g6
      have HV2 := Lib.hid (HV0.out.keep (below_keeps HE2.out HF0.out))
      have HF2 := Lib.hid (show ∀ b, F b → b < w2.heap.size from fun b hb => Nat.lt_of_lt_of_le (HF0.out b hb) HE2.out.size)
      go_wp2_with fail
      refine (sz_str F _ x.locals s1 _ (HV2.out.locals) HF2.out (by omega) (by omega)).mono ?_
      rintro e w3 ⟨rfl, hb3⟩
      have HE3 := Lib.hid (HE2.out.trans (hb3.mono HE2.out.size))
      clear hb3
      have hle2 := szS_le szB_le x.locals s1 (by omega)
      obtain ⟨s2, hs2⟩ : ∃ s, s = szS szB x.locals s1 := ⟨_, rfl⟩
      rw [← hs2] at hle2 ⊢
      have HQ2 := Lib.hid hs2
      clear hs2
      by_cases hn2 : s2 < 0
      · have HR : Hid (szFunr x left = -1) := by show _ = _; unfold szFunr; rw [← HQ0.out, szThen_go (by have := HP0.out; omega), ← HQ1.out, szThen_go (by have := HP1.out; omega), ← HQ2.out, szThen_neg hn2]
        go_wp2
        go_ret
        exact ⟨ret_int HR.out.symm, HW0.out.trans (HE3.out.mono (by have := Hs0.out; omega))⟩
      · have HP2 := Lib.hid hn2
        obtain ⟨z2_0, z2_1, z2_2, z2_3, z2_4, z2_5⟩ := (HB0.out.below HE3.out (by have := Hs0.out; omega)).g6
        have HV3 := Lib.hid (HV0.out.keep (below_keeps HE3.out HF0.out))
        have HF3 := Lib.hid (show ∀ b, F b → b < w3.heap.size from fun b hb => Nat.lt_of_lt_of_le (HF0.out b hb) HE3.out.size)
        go_wp2_with fail
        refine (sz_i64 F _ x.takes s2 _ (HV3.out.takes) HF3.out (by omega) (by omega)).mono ?_
        rintro e w4 ⟨rfl, hb4⟩
        have HE4 := Lib.hid (HE3.out.trans (hb4.mono HE3.out.size))
        clear hb4
        have hle3 := szI_le x.takes s2 (by omega)
        obtain ⟨s3, hs3⟩ : ∃ s, s = szI x.takes s2 := ⟨_, rfl⟩
        rw [← hs3] at hle3 ⊢
        have HQ3 := Lib.hid hs3
        clear hs3
        by_cases hn3 : s3 < 0
        · have HR : Hid (szFunr x left = -1) := by show _ = _; unfold szFunr; rw [← HQ0.out, szThen_go (by have := HP0.out; omega), ← HQ1.out, szThen_go (by have := HP1.out; omega), ← HQ2.out, szThen_go (by have := HP2.out; omega), ← HQ3.out, szThen_neg hn3]
          go_wp2
          go_ret
          exact ⟨ret_int HR.out.symm, HW0.out.trans (HE4.out.mono (by have := Hs0.out; omega))⟩
        · have HP3 := Lib.hid hn3
          obtain ⟨z3_0, z3_1, z3_2, z3_3, z3_4, z3_5⟩ := (HB0.out.below HE4.out (by have := Hs0.out; omega)).g6
          have HV4 := Lib.hid (HV0.out.keep (below_keeps HE4.out HF0.out))
          have HF4 := Lib.hid (show ∀ b, F b → b < w4.heap.size from fun b hb => Nat.lt_of_lt_of_le (HF0.out b hb) HE4.out.size)
          go_wp2_with fail
          refine (sz_insr F _ x.code s3 _ (HV4.out.code) HF4.out (by omega) (by omega)).mono ?_
          rintro e w5 ⟨rfl, hb5⟩
          have HE5 := Lib.hid (HE4.out.trans (hb5.mono HE4.out.size))
          clear hb5
          have hle4 := szS_le szInsr_le x.code s3 (by omega)
          obtain ⟨s4, hs4⟩ : ∃ s, s = szS szInsr x.code s3 := ⟨_, rfl⟩
          rw [← hs4] at hle4 ⊢
          have HQ4 := Lib.hid hs4
          clear hs4
          by_cases hn4 : s4 < 0
          · have HR : Hid (szFunr x left = -1) := by show _ = _; unfold szFunr; rw [← HQ0.out, szThen_go (by have := HP0.out; omega), ← HQ1.out, szThen_go (by have := HP1.out; omega), ← HQ2.out, szThen_go (by have := HP2.out; omega), ← HQ3.out, szThen_go (by have := HP3.out; omega), ← HQ4.out, szThen_neg hn4]
            go_wp2
            go_ret
            exact ⟨ret_int HR.out.symm, HW0.out.trans (HE5.out.mono (by have := Hs0.out; omega))⟩
          · have HP4 := Lib.hid hn4
            have HR : Hid (szFunr x left = s4) := by show _ = _; unfold szFunr; rw [← HQ0.out, szThen_go (by have := HP0.out; omega), ← HQ1.out, szThen_go (by have := HP1.out; omega), ← HQ2.out, szThen_go (by have := HP2.out; omega), ← HQ3.out, szThen_go (by have := HP3.out; omega), ← HQ4.out, szThen_go (by have := HP4.out; omega)]
            go_wp2
            go_ret
            exact ⟨ret_int HR.out.symm, HW0.out.trans (HE5.out.mono (by have := Hs0.out; omega))⟩

set_option maxRecDepth 100000 in
set_option maxHeartbeats 1000000 in
theorem sz_funr : SzRow Cod.funr 21 (szS szFunr) := by
  intro F v xs left w h hF h0 h1
  have HS := Lib.hid h
  obtain ⟨A, cap, rfl, hlc, hcm, _⟩ := h
  unfold maxLen at hcm
  by_cases ht : left - xs.length < 0
  · go_enter Tryd.func21, Tryd.ntmps21
    go_wp2
    go_ret
    exact ⟨ret_int (szS_neg _ _ _ ht).symm, Below.refl _ _⟩
  · have HF := Lib.hid (szS_go szFunr xs left ht)
    go_enter Tryd.func21, Tryd.ntmps21
    go_wp2
    go_loopw [1, 5] (fun l i wr => ∃ (k : Nat) (n : Int), k ≤ xs.length ∧ i = .int .i64 k ∧ l = .int .i64 n ∧ 0 ≤ n ∧ n ≤ 2000000 ∧ Hid (szList szFunr (xs.drop k) n = szS szFunr xs left) ∧ Below w.heap.size w wr) (fun _ i _ => xs.length - (intOf i).toNat)
    case atStart => exact ⟨0, _, Nat.zero_le _, rfl, rfl, by omega, by omega, HF.out, Below.refl _ _⟩
    case round =>
      obtain ⟨k, n, hk, rfl, rfl, hn0, hn1, HH, hb⟩ := hrel
      by_cases hlt : k < xs.length
      · have HSr := Lib.hid (HS.out.keep (below_keeps hb hF))
        obtain ⟨b, off, cap', A1, c1, A2, c2, A3, c3, A4, c4, A5, c5, hv, hFb, _, _, hc0, hc1, hc2, hc3, hc4, hc5, hV⟩ := HSr.out.funr_at hlt
        obtain ⟨rfl, rfl⟩ : A = some ⟨b, off, none⟩ ∧ cap = cap' := by simpa using hv
        have hle := szFunr_le xs[k] n hn0
        have hsz := hb.size
        have HC := Lib.hid (szFunr_one F _ _ _ _ _ _ _ _ _ _ _ _ _ _ _ xs[k] n wr hV (fun b hb' => Nat.lt_of_lt_of_le (hF b hb') hsz) hn0 hn1)
        clear hv hV
        by_cases hneg : szFunr xs[k] n < 0
        · go_wp2_with (go_at_call 40; refine HC.out.mono ?_; rintro e w' ⟨rfl, hb1⟩)
          go_ret
          exact ⟨ret_int (szList_stop hlt HH.out hneg), hb.trans (hb1.mono hsz)⟩
        · go_wp2_with (go_at_call 40; refine HC.out.mono ?_; rintro e w' ⟨rfl, hb1⟩)
          go_roundw
          case rel => exact ⟨k + 1, _, by omega, by go_num, rfl, by omega, by omega, szList_step hlt HH.out (by omega), hb.trans (hb1.mono hsz)⟩
          case measure => simp [intOf]; omega
      · go_wp2
        go_ret
        exact ⟨ret_int (szList_end (by omega) HH.out), hb⟩

def szModr (x : ModR) (l : Int) : Int := szThen (szS szRec x.records l) fun l0 => szThen (szS szFunr x.funcs l0) fun l1 => szThen (szI x.friends l1) fun l2 => l2
theorem szModr_le (x : ModR) (l : Int) (h : 0 ≤ l) : szModr x l ≤ l := by
  unfold szModr
  refine szThen_le h (by have := szS_le szRec_le x.records l (by omega); omega) fun l0 p0 q0 => ?_
  refine szThen_le h (by have := szS_le szFunr_le x.funcs l0 (by omega); omega) fun l1 p1 q1 => ?_
  refine szThen_le h (by have := szI_le x.friends l1 (by omega); omega) fun l2 p2 q2 => ?_
  omega
def SmolModr (x : ModR) : Prop := x.records.length ≤ 2000000 ∧ x.funcs.length ≤ 2000000 ∧ x.friends.length ≤ 2000000 ∧ (∀ y ∈ x.records, SmolRec y) ∧ (∀ y ∈ x.funcs, SmolFunr y)
theorem smol_modr {x : ModR} {l : Int} (h0 : 0 ≤ l) (h1 : l ≤ 2000000) (h : 0 ≤ szModr x l) : SmolModr x := by
  unfold szModr at h
  obtain ⟨g0, h0'⟩ := szThen_pos h
  have le0 := szS_le szRec_le x.records l (by omega)
  obtain ⟨n0, a0⟩ := szS_len (szRec_le) g0
  obtain ⟨l0, e0⟩ : ∃ l0, l0 = szS szRec x.records l := ⟨_, rfl⟩
  rw [← e0] at g0 h0' le0
  obtain ⟨g1, h1'⟩ := szThen_pos h0'
  have le1 := szS_le szFunr_le x.funcs l0 (by omega)
  obtain ⟨n1, a1⟩ := szS_len (szFunr_le) g1
  obtain ⟨l1, e1⟩ : ∃ l1, l1 = szS szFunr x.funcs l0 := ⟨_, rfl⟩
  rw [← e1] at g1 h1' le1
  obtain ⟨g2, h2'⟩ := szThen_pos h1'
  have le2 := szI_le x.friends l1 (by omega)
  have n2 := szI_len g2
  obtain ⟨l2, e2⟩ : ∃ l2, l2 = szI x.friends l1 := ⟨_, rfl⟩
  rw [← e2] at g2 h2' le2
  exact ⟨by omega, by omega, by omega, fun y hy => by obtain ⟨l', z0, z1, z2⟩ := a0 y hy; exact smol_rec z0 (by omega) z2, fun y hy => by obtain ⟨l', z0, z1, z2⟩ := a1 y hy; exact smol_funr z0 (by omega) z2⟩

set_option maxRecDepth 100000 in
set_option maxHeartbeats 1000000 in
theorem szModr_one (F : Nat → Prop) (A0 A1 A2 : Option Addr) (n0 c0 n1 c1 n2 c2 : Nat) (x : ModR) (left : Int) (w : World) (h : ModRd F w (.slice A0 n0 c0) (.slice A1 n1 c1) (.slice A2 n2 c2) x) (hF : ∀ b, F b → b < w.heap.size) (h0 : 0 ≤ left) (h1 : left ≤ 2000000) :
    Calls Tryd.prog 9 #[.agg #[.slice A0 n0 c0, .slice A1 n1 c1, .slice A2 n2 c2], .int .i64 left] w fun e w' => e = .returned (.int .i64 (szModr x left)) ∧ Below w.heap.size w w' := by
  obtain ⟨w0, hw0⟩ : ∃ w0, w0 = w.alloc (.cells #[.slice A0 n0 c0, .slice A1 n1 c1, .slice A2 n2 c2] 34) := ⟨_, rfl⟩
  have HB0 := Lib.hid (show Blk w0 w.heap.size 34 #[.slice A0 n0 c0, .slice A1 n1 c1, .slice A2 n2 c2] by rw [hw0]; exact Blk.new _ _ _)
  have HW0 := Lib.hid (show Below w.heap.size w w0 by rw [hw0]; exact (Below.refl _ _).alloc (Nat.le_refl _) _)
  have hs0 : w0.heap.size = w.heap.size + 1 := by rw [hw0]; simp
  have HV0 := Lib.hid (h.keep (w' := w0) fun b hb => HW0.out.block b (hF b hb))
  have HF0 := Lib.hid (show ∀ b, F b → b < w0.heap.size from fun b hb => by have := hF b hb; omega)
  have Hw0 := Lib.hid hw0
  have Hs0 := Lib.hid hs0
  clear h hw0 hs0 hF
  go_enter Tryd.func9, Tryd.ntmps9
  go_wp2_with fail
  rw [← Hw0.out]
  refine (sz_rec F _ x.records left _ HV0.out.records HF0.out (by omega) (by omega)).mono ?_
  rintro e w1 ⟨rfl, hb1⟩
  have HE1 := Lib.hid (hb1)
  clear hb1
  have hle0 := szS_le szRec_le x.records left (by omega)
  obtain ⟨s0, hs0⟩ : ∃ s, s = szS szRec x.records left := ⟨_, rfl⟩
  rw [← hs0] at hle0 ⊢
  have HQ0 := Lib.hid hs0
  clear hs0
  by_cases hn0 : s0 < 0
  · have HR : Hid (szModr x left = -1) := by show _ = _; unfold szModr; rw [← HQ0.out, szThen_neg hn0]
    go_wp2
    go_ret
    exact ⟨ret_int HR.out.symm, HW0.out.trans (HE1.out.mono (by have := Hs0.out; omega))⟩
  · have HP0 := Lib.hid hn0
    obtain ⟨z0_0, z0_1, z0_2⟩ := (HB0.out.below HE1.out (by have := Hs0.out; omega)).g3
    have HV1 := Lib.hid (HV0.out.keep (below_keeps HE1.out HF0.out))
    have HF1 := Lib.hid (show ∀ b, F b → b < w1.heap.size from fun b hb => Nat.lt_of_lt_of_le (HF0.out b hb) HE1.out.size)
    go_wp2_with fail
    refine (sz_funr F _ x.funcs s0 _ (HV1.out.funcs) HF1.out (by omega) (by omega)).mono ?_
    rintro e w2 ⟨rfl, hb2⟩
    have HE2 := Lib.hid (HE1.out.trans (hb2.mono HE1.out.size))
    clear hb2
    have hle1 := szS_le szFunr_le x.funcs s0 (by omega)
    obtain ⟨s1, hs1⟩ : ∃ s, s = szS szFunr x.funcs s0 := ⟨_, rfl⟩
    rw [← hs1] at hle1 ⊢
    have HQ1 := Lib.hid hs1
    clear hs1
    by_cases hn1 : s1 < 0
    · have HR : Hid (szModr x left = -1) := by show _ = _; unfold szModr; rw [← HQ0.out, szThen_go (by have := HP0.out; omega), ← HQ1.out, szThen_neg hn1]
      go_wp2
      go_ret
      exact ⟨ret_int HR.out.symm, HW0.out.trans (HE2.out.mono (by have := Hs0.out; omega))⟩
    · have HP1 := Lib.hid hn1
      obtain ⟨z1_0, z1_1, z1_2⟩ := (HB0.out.below HE2.out (by have := Hs0.out; omega)).g3
      have HV2 := Lib.hid (HV0.out.keep (below_keeps HE2.out HF0.out))
      have HF2 := Lib.hid (show ∀ b, F b → b < w2.heap.size from fun b hb => Nat.lt_of_lt_of_le (HF0.out b hb) HE2.out.size)
      go_wp2_with fail
      refine (sz_i64 F _ x.friends s1 _ (HV2.out.friends) HF2.out (by omega) (by omega)).mono ?_
      rintro e w3 ⟨rfl, hb3⟩
      have HE3 := Lib.hid (HE2.out.trans (hb3.mono HE2.out.size))
      clear hb3
      have hle2 := szI_le x.friends s1 (by omega)
      obtain ⟨s2, hs2⟩ : ∃ s, s = szI x.friends s1 := ⟨_, rfl⟩
      rw [← hs2] at hle2 ⊢
      have HQ2 := Lib.hid hs2
      clear hs2
      by_cases hn2 : s2 < 0
      · have HR : Hid (szModr x left = -1) := by show _ = _; unfold szModr; rw [← HQ0.out, szThen_go (by have := HP0.out; omega), ← HQ1.out, szThen_go (by have := HP1.out; omega), ← HQ2.out, szThen_neg hn2]
        go_wp2
        go_ret
        exact ⟨ret_int HR.out.symm, HW0.out.trans (HE3.out.mono (by have := Hs0.out; omega))⟩
      · have HP2 := Lib.hid hn2
        have HR : Hid (szModr x left = s2) := by show _ = _; unfold szModr; rw [← HQ0.out, szThen_go (by have := HP0.out; omega), ← HQ1.out, szThen_go (by have := HP1.out; omega), ← HQ2.out, szThen_go (by have := HP2.out; omega)]
        go_wp2
        go_ret
        exact ⟨ret_int HR.out.symm, HW0.out.trans (HE3.out.mono (by have := Hs0.out; omega))⟩

set_option maxRecDepth 100000 in
set_option maxHeartbeats 1000000 in
theorem sz_modr : SzRow Cod.modr 4 (szS szModr) := by
  intro F v xs left w h hF h0 h1
  have HS := Lib.hid h
  obtain ⟨A, cap, rfl, hlc, hcm, _⟩ := h
  unfold maxLen at hcm
  by_cases ht : left - xs.length < 0
  · go_enter Tryd.func4, Tryd.ntmps4
    go_wp2
    go_ret
    exact ⟨ret_int (szS_neg _ _ _ ht).symm, Below.refl _ _⟩
  · have HF := Lib.hid (szS_go szModr xs left ht)
    go_enter Tryd.func4, Tryd.ntmps4
    go_wp2
    go_loopw [1, 5] (fun l i wr => ∃ (k : Nat) (n : Int), k ≤ xs.length ∧ i = .int .i64 k ∧ l = .int .i64 n ∧ 0 ≤ n ∧ n ≤ 2000000 ∧ Hid (szList szModr (xs.drop k) n = szS szModr xs left) ∧ Below w.heap.size w wr) (fun _ i _ => xs.length - (intOf i).toNat)
    case atStart => exact ⟨0, _, Nat.zero_le _, rfl, rfl, by omega, by omega, HF.out, Below.refl _ _⟩
    case round =>
      obtain ⟨k, n, hk, rfl, rfl, hn0, hn1, HH, hb⟩ := hrel
      by_cases hlt : k < xs.length
      · have HSr := Lib.hid (HS.out.keep (below_keeps hb hF))
        obtain ⟨b, off, cap', A0, c0, A1, c1, A2, c2, hv, hFb, _, _, hc0, hc1, hc2, hV⟩ := HSr.out.modr_at hlt
        obtain ⟨rfl, rfl⟩ : A = some ⟨b, off, none⟩ ∧ cap = cap' := by simpa using hv
        have hle := szModr_le xs[k] n hn0
        have hsz := hb.size
        have HC := Lib.hid (szModr_one F _ _ _ _ _ _ _ _ _ xs[k] n wr hV (fun b hb' => Nat.lt_of_lt_of_le (hF b hb') hsz) hn0 hn1)
        clear hv hV
        by_cases hneg : szModr xs[k] n < 0
        · go_wp2_with (go_at_call 9; refine HC.out.mono ?_; rintro e w' ⟨rfl, hb1⟩)
          go_ret
          exact ⟨ret_int (szList_stop hlt HH.out hneg), hb.trans (hb1.mono hsz)⟩
        · go_wp2_with (go_at_call 9; refine HC.out.mono ?_; rintro e w' ⟨rfl, hb1⟩)
          go_roundw
          case rel => exact ⟨k + 1, _, by omega, by go_num, rfl, by omega, by omega, szList_step hlt HH.out (by omega), hb.trans (hb1.mono hsz)⟩
          case measure => simp [intOf]; omega
      · go_wp2
        go_ret
        exact ⟨ret_int (szList_end (by omega) HH.out), hb⟩
end Go.Proofs.YthkdkefkgmmoiaaDoor

namespace Go.Proofs.YthkdkefkgmmoiaaDoor
open Go.RowKit


def ToRow {α : Type} (c : OCod α) (t : TypeId) (f : FuncId) (P : α → Prop) : Prop := ∀ (F : Nat → Prop) (v : Value) (xs : List α) (w : World), c.cod.Sl F w v xs → (∀ b, F b → b < w.heap.size) → xs.length ≤ 2000000 → (∀ x ∈ xs, P x) →
    Calls Tryd.prog f #[v] w fun e w' => ∃ A' c', e = .returned (.slice A' xs.length c') ∧ MadeO c t w w' (.slice A' xs.length c') xs
theorem to_str : ToRow OCod.str 9 59 (fun _ => True) := fun F v xs w h hF hn _ => toStringS_own F v xs w h hF hn
theorem to_rec : ToRow (OCod.rec_ 9) 51 29 SmolRec := fun F v xs w h hF hn hm => toRecordS_own F v xs w h hF hn hm

set_option maxHeartbeats 400000 in
theorem toIntS_own (F : Nat → Prop) (v : Value) (xs : List Int) (w : World) (h : Cod.i64.Sl F w v xs) (hF : ∀ b, F b → b < w.heap.size) (hn : xs.length ≤ 2000000) :
    Calls Tryd.prog 31 #[v] w fun e w' => ∃ A' c', e = .returned (.slice A' xs.length c') ∧ MadeO OCod.i64 3 w w' (.slice A' xs.length c') xs := by
  have HS := Lib.hid h
  obtain ⟨A, cap, rfl, hlc, hcm, _⟩ := h
  unfold maxLen at hcm
  have hmk := make_len (P := Tryd.prog) 32 3 _ 1 8 Tryd.underlying32 info_int (by omega) xs.length hn
  go_enter Tryd.func31, Tryd.ntmps31
  go_wp2
  go_loopw [4] (fun i wr => ∃ (k : Nat) (cs : Array Value), k ≤ xs.length ∧ i = .int .i64 k ∧ Blk wr w.heap.size 3 cs ∧ cs.size = xs.length ∧ OPart OCod.i64 w.heap.size wr cs k xs ∧ Below w.heap.size w wr) (fun i _ => xs.length - (intOf i).toNat)
  case atStart => exact ⟨0, _, Nat.zero_le _, rfl, Blk.new _ _ _, by simp [madeCells], OPart.zero (by simp), (Below.refl _ _).alloc (Nat.le_refl _) _⟩
  case round =>
    obtain ⟨k, cs, hk, rfl, HB, hsz, HP, hb⟩ := hrel
    have HBl := HB.lt
    by_cases hlt : k < xs.length
    · have HSr := Lib.hid (HS.out.keep (below_keeps hb hF))
      obtain ⟨b, off, cap', hv, hFb, _, _, hc0, hs0⟩ := HSr.out.i64_at hlt
      obtain ⟨rfl, rfl⟩ : A = some ⟨b, off, none⟩ ∧ cap = cap' := by simpa using hv
      obtain ⟨d0, hd0⟩ := HB.holds hsz hlt
      have hf0 := HB.frozen k
      have HB' := Lib.hid HB
      have HP' := Lib.hid HP
      have Hsz := Lib.hid hsz
      have Hi := Lib.hid hs0
      clear hv HB HP hsz hmk hs0
      go_wp2
      go_roundw
      case rel =>
        refine ⟨k + 1, _, by omega, by go_num, HB'.out.set_ k _, by rw [Array.size_setIfInBounds, Hsz.out], ?_, hb.setCell (by simp) _⟩
        refine HP'.out.next (news := [.int .i64 xs[k]]) hlt (fun i h1 _ => Below.heap_setCell _ _ _ _ (by simp; omega)) (by simp [World.setCell]) (fun i hi => by rw [Array.getElem?_setIfInBounds, if_neg (by simp [OCod.i64, Cod.i64] at hi; omega)]) (fun j u hu => ?_) ⟨rfl, Hi.out⟩
        match j, hu with
        | 0, hu => simp at hu; subst hu; simp [OCod.i64, Cod.i64, Hsz.out, hlt]
        | j + 1, hu => simp at hu
      case measure => simp [intOf]; omega
    · obtain rfl : k = xs.length := by omega
      have HM : MadeO OCod.i64 3 w wr (.slice (some ⟨w.heap.size, 0, none⟩) xs.length xs.length) xs := ⟨HP.own HB (Nat.le_refl _) (Nat.le_refl _) (by unfold maxLen; omega), hb⟩
      clear hmk HB HP
      go_wp2
      go_ret
      exact ⟨_, _, rfl, HM⟩
theorem to_i64 : ToRow OCod.i64 3 31 (fun _ => True) := fun F v xs w h hF hn _ => toIntS_own F v xs w h hF hn

theorem info_insr : (Tryd.prog.info? 102).map (fun i => (i.zero, i.size, i.bytes)) = some (some (.agg #[.string ByteArray.empty, .int .i64 0, .int .i64 0]), 3, 32) := by kernel_rfl
def ToInsrD (x : InsR) (w : World) (e : Ending) (w' : World) : Prop := e = .returned (.agg #[.string x.op, .int .i64 x.a, .int .i64 x.b]) ∧ InsRo w.heap.size w'.heap.size w'  x ∧ Below w.heap.size w w'

set_option maxRecDepth 100000 in
set_option maxHeartbeats 2000000 in
theorem toInsr_one (F : Nat → Prop) (x : InsR) (w : World) (h : InsRd F w  x) (hF : ∀ b, F b → b < w.heap.size) (hsm : SmolInsr x) :
    Calls Tryd.prog 73 #[.agg #[.string x.op, .int .i64 x.a, .int .i64 x.b]] w (ToInsrD x w) := by
  obtain ⟨wF, hwF⟩ : ∃ wF, wF = ((w.alloc (.cells #[.string x.op, .int .i64 x.a, .int .i64 x.b] 111)).alloc (.cells #[.string x.op, .int .i64 x.a, .int .i64 x.b] 102)).alloc (.cells #[.string x.op, .int .i64 x.a, .int .i64 x.b] 102) := ⟨_, rfl⟩
  have HBF : Hid (Blk wF (w.heap.size + 1) 102 #[.string x.op, .int .i64 x.a, .int .i64 x.b]) := by
    have := (Blk.new (w.alloc (.cells #[.string x.op, .int .i64 x.a, .int .i64 x.b] 111)) 102 #[.string x.op, .int .i64 x.a, .int .i64 x.b]).alloc (.cells #[.string x.op, .int .i64 x.a, .int .i64 x.b] 102)
    show Blk wF _ _ _
    rw [hwF]
    simpa using this
  have HWF : Hid (Below w.heap.size w wF) := by show Below _ _ wF; rw [hwF]; exact (((Below.refl _ _).alloc (Nat.le_refl _) _).alloc (by simp) _).alloc (by simp; omega) _
  have HwF := Lib.hid hwF
  clear hwF
  go_enter Tryd.func73, Tryd.ntmps73
  go_wp2
  rw [← HwF.out]
  obtain ⟨z0, z1, z2⟩ := HBF.out.g3
  exact bodyPost_ret (v := .agg #[.string x.op, .int .i64 x.a, .int .i64 x.b]) (by simp [results, Tryd.results73, go_sem, z0, z1, z2]) rfl ⟨rfl, ⟨h.op, h.a, h.b⟩, HWF.out⟩

set_option maxRecDepth 100000 in
set_option maxHeartbeats 2000000 in
theorem to_insr : ToRow OCod.insr 102 60 SmolInsr := by
  intro F v xs w h hF hn hm
  have HS : Hid (Cod.insr.Sl F w v xs) := Lib.hid h
  have Hm := Lib.hid hm
  clear hm
  obtain ⟨A, cap, rfl, hlc, hcm, _⟩ := h
  unfold maxLen at hcm
  have hmk := make_len (P := Tryd.prog) 60 102 _ 3 32 Tryd.underlying60 info_insr (by omega) xs.length hn
  go_enter Tryd.func60, Tryd.ntmps60
  go_wp2
  go_loopw [4] (fun i wr => ∃ (k : Nat) (cs : Array Value), k ≤ xs.length ∧ i = .int .i64 k ∧ Blk wr w.heap.size 102 cs ∧ cs.size = xs.length * 3 ∧ OPart OCod.insr w.heap.size wr cs k xs ∧ Below w.heap.size w wr) (fun i _ => xs.length - (intOf i).toNat)
  case atStart => exact ⟨0, _, Nat.zero_le _, rfl, Blk.new _ _ _, by simp [madeCells], OPart.zero (by simp), (Below.refl _ _).alloc (Nat.le_refl _) _⟩
  case round =>
    obtain ⟨k, cs, hk, rfl, HB, hsz, HP, hb⟩ := hrel
    have HBl := HB.lt
    by_cases hlt : k < xs.length
    · have HSr := Lib.hid (HS.out.keep (below_keeps hb hF))
      obtain ⟨b, off, cap', hv, hFb, _, _, hc0, hc1, hc2, hV⟩ := HSr.out.insr_at hlt
      obtain ⟨rfl, rfl⟩ : A = some ⟨b, off, none⟩ ∧ cap = cap' := by simpa using hv
      have HB' := Lib.hid HB
      have HP' := Lib.hid HP
      have Hsz := Lib.hid hsz
      have hws := hb.size
      have HC := Lib.hid (toInsr_one F xs[k] wr hV (fun b hb' => Nat.lt_of_lt_of_le (hF b hb') hws) (Hm.out xs[k] (List.getElem_mem hlt)))
      clear hv HB HP hsz hmk hV
      go_wp2_with fail
      refine HC.out.mono ?_
      rintro e w1 ⟨rfl, hO, hbl⟩
      have HB1 := HB'.out.below hbl HBl
      obtain ⟨d0, hd0⟩ := HB1.holds Hsz.out (i := k * 3) (by omega)
      have hf0 := HB1.frozen (k * 3)
      obtain ⟨d1, hd1⟩ := HB1.holds Hsz.out (i := k * 3 + 1) (by omega)
      have hf1 := HB1.frozen (k * 3 + 1)
      obtain ⟨d2, hd2⟩ := HB1.holds Hsz.out (i := k * 3 + 2) (by omega)
      have hf2 := HB1.frozen (k * 3 + 2)
      have HBB := Lib.hid HB1
      have hw1 := hbl.size
      have HO := Lib.hid hO
      have HBe := Lib.hid hbl
      clear HB1 hO hbl HC
      go_wp2
      go_roundw
      case rel =>
        obtain ⟨wE, hwE⟩ : ∃ wE, wE = (((w1).setCell ⟨w.heap.size, k * 3, none⟩ (.string xs[k].op)).setCell ⟨w.heap.size, k * 3 + 1, none⟩ (.int .i64 xs[k].a)).setCell ⟨w.heap.size, k * 3 + 2, none⟩ (.int .i64 xs[k].b) := ⟨_, rfl⟩
        rw [← hwE]
        have hk1 : ∀ b, w.heap.size < b → wE.heap[b]? = w1.heap[b]? := fun b hb' => by
          rw [hwE, Below.heap_setCell _ _ _ _ (by simp; omega), Below.heap_setCell _ _ _ _ (by simp; omega), Below.heap_setCell _ _ _ _ (by simp; omega)]
        have hse : wE.heap.size = w1.heap.size := by rw [hwE]; simp [World.setCell]
        refine ⟨k + 1, _, by omega, by go_num, by rw [hwE]; exact ((HBB.out.set_ _ _).set_ _ _).set_ _ _, by simp only [Array.size_setIfInBounds]; exact Hsz.out, ?_, ?_⟩
        · refine HP'.out.next (news := [.string xs[k].op, .int .i64 xs[k].a, .int .i64 xs[k].b]) hlt (fun i h1 h2 => (hk1 i h1).trans (HBe.out.block i h2)) (by rw [hse]; exact hw1)
            (fun i hi => by
              have hi' : i < k * 3 := hi
              simp only [Array.getElem?_setIfInBounds]
              rw [if_neg (by omega), if_neg (by omega), if_neg (by omega)]) (fun j u hu => ?_)
            ⟨rfl, (HO.out.keep fun b g1 g2 => hk1 b (by omega)).mono (Nat.le_refl _) (by omega)⟩
          show _[k * 3 + j]? = _
          have hsz2 := Hsz.out
          match j, hu with
          | 0, hu => simp at hu; subst hu; simp [Array.getElem?_setIfInBounds]; omega
          | 1, hu => simp at hu; subst hu; simp [Array.getElem?_setIfInBounds]; omega
          | 2, hu => simp at hu; subst hu; simp [Array.getElem?_setIfInBounds]; omega
          | j + 3, hu => simp at hu
        · rw [hwE]; exact ((((hb.trans (HBe.out.mono hws)).setCell (by simp) _).setCell (by simp) _).setCell (by simp) _)
      case measure => simp [intOf]; omega
    · obtain rfl : k = xs.length := by omega
      have HM : MadeO OCod.insr 102 w wr (.slice (some ⟨w.heap.size, 0, none⟩) xs.length xs.length) xs := ⟨HP.own HB (Nat.le_refl _) (Nat.le_refl _) (by unfold maxLen; omega), hb⟩
      clear hmk HB HP
      go_wp2
      go_ret
      exact ⟨_, _, rfl, HM⟩
theorem info_funr : (Tryd.prog.info? 62).map (fun i => (i.zero, i.size, i.bytes)) = some (some (.agg #[.int .i64 0, .slice none 0 0, .slice none 0 0, .slice none 0 0, .slice none 0 0, .slice none 0 0]), 6, 128) := by kernel_rfl
def ToFunrD (x : FunR) (w : World) (e : Ending) (w' : World) : Prop := ∃ A1' c1' A2' c2' A3' c3' A4' c4' A5' c5', e = .returned (.agg #[.int .i64 x.seen, .slice A1' x.args.length c1', .slice A2' x.rets.length c2', .slice A3' x.locals.length c3', .slice A4' x.takes.length c4', .slice A5' x.code.length c5']) ∧ FunRo w.heap.size w'.heap.size w' (.slice A1' x.args.length c1') (.slice A2' x.rets.length c2') (.slice A3' x.locals.length c3') (.slice A4' x.takes.length c4') (.slice A5' x.code.length c5') x ∧ Below w.heap.size w w'

set_option maxRecDepth 100000 in
set_option maxHeartbeats 2000000 in
theorem toFunr_one (F : Nat → Prop) (A1 A2 A3 A4 A5 : Option Addr) (n1 c1 n2 c2 n3 c3 n4 c4 n5 c5 : Nat) (x : FunR) (w : World) (h : FunRd F w (.slice A1 n1 c1) (.slice A2 n2 c2) (.slice A3 n3 c3) (.slice A4 n4 c4) (.slice A5 n5 c5) x) (hF : ∀ b, F b → b < w.heap.size) (hsm : SmolFunr x) :
    Calls Tryd.prog 46 #[.agg #[.int .i64 x.seen, .slice A1 n1 c1, .slice A2 n2 c2, .slice A3 n3 c3, .slice A4 n4 c4, .slice A5 n5 c5]] w (ToFunrD x w) := by
  obtain ⟨w0, hw0⟩ : ∃ w0, w0 = ((w.alloc (.cells #[.int .i64 x.seen, .slice A1 n1 c1, .slice A2 n2 c2, .slice A3 n3 c3, .slice A4 n4 c4, .slice A5 n5 c5] 82)).alloc (.cells #[.int .i64 0, .slice none 0 0, .slice none 0 0, .slice none 0 0, .slice none 0 0, .slice none 0 0] 62)).alloc (.cells #[.int .i64 x.seen, .slice none 0 0, .slice none 0 0, .slice none 0 0, .slice none 0 0, .slice none 0 0] 62) := ⟨_, rfl⟩
  have hs0 : w0.heap.size = w.heap.size + 3 := by rw [hw0]; simp
  have HP0 := Lib.hid (show Blk w0 w.heap.size 82 #[.int .i64 x.seen, .slice A1 n1 c1, .slice A2 n2 c2, .slice A3 n3 c3, .slice A4 n4 c4, .slice A5 n5 c5] by rw [hw0]; exact ((Blk.new w _ _).alloc _).alloc _)
  have HR0 := Lib.hid (show Blk w0 (w.heap.size + 1) 62 #[.int .i64 0, .slice none 0 0, .slice none 0 0, .slice none 0 0, .slice none 0 0, .slice none 0 0] by rw [hw0]; have := (Blk.new (w.alloc (.cells #[.int .i64 x.seen, .slice A1 n1 c1, .slice A2 n2 c2, .slice A3 n3 c3, .slice A4 n4 c4, .slice A5 n5 c5] 82)) 62 #[.int .i64 0, .slice none 0 0, .slice none 0 0, .slice none 0 0, .slice none 0 0, .slice none 0 0]).alloc (.cells #[.int .i64 x.seen, .slice none 0 0, .slice none 0 0, .slice none 0 0, .slice none 0 0, .slice none 0 0] 62); simpa using this)
  have HO0 := Lib.hid (show Blk w0 (w.heap.size + 1 + 1) 62 #[.int .i64 x.seen, .slice none 0 0, .slice none 0 0, .slice none 0 0, .slice none 0 0, .slice none 0 0] by rw [hw0]; have := Blk.new ((w.alloc (.cells #[.int .i64 x.seen, .slice A1 n1 c1, .slice A2 n2 c2, .slice A3 n3 c3, .slice A4 n4 c4, .slice A5 n5 c5] 82)).alloc (.cells #[.int .i64 0, .slice none 0 0, .slice none 0 0, .slice none 0 0, .slice none 0 0, .slice none 0 0] 62)) 62 #[.int .i64 x.seen, .slice none 0 0, .slice none 0 0, .slice none 0 0, .slice none 0 0, .slice none 0 0]; simpa using this)
  have HW0 := Lib.hid (show Below w.heap.size w w0 by rw [hw0]; exact (((Below.refl _ _).alloc (Nat.le_refl _) _).alloc (by simp) _).alloc (by simp; omega) _)
  have HV := Lib.hid h
  have HF := Lib.hid hF
  have Hw0 := Lib.hid hw0
  have Hs0 := Lib.hid hs0
  have HSm := Lib.hid hsm
  clear h hF hw0 hs0 hsm
  go_enter Tryd.func46, Tryd.ntmps46
  have hB0 := HW0.out
  have HC0 := Lib.hid (to_str F _ x.args w0 (HV.out.args.keep (below_keeps hB0 HF.out)) (fun b hb => Nat.lt_of_lt_of_le (HF.out b hb) hB0.size) (HSm.out.1) (fun _ _ => trivial))
  clear hB0
  go_wp2_with fail
  rw [← Hw0.out]
  refine HC0.out.mono ?_
  rintro e w1 ⟨A1', c1', rfl, hM1⟩
  have hsz0 := HW0.out.size
  have hz0 := Hs0.out
  have hs1 := hM1.2.size
  obtain ⟨p1_0, p1_1, p1_2, p1_3, p1_4, p1_5⟩ := (HP0.out.below hM1.2 (by omega)).g6
  obtain ⟨o1_0, o1_1, o1_2, o1_3, o1_4, o1_5⟩ := (HO0.out.below hM1.2 (by omega)).g6
  obtain ⟨f1_0, f1_1, f1_2, f1_3, f1_4, f1_5⟩ := (HO0.out.below hM1.2 (by omega)).h6
  obtain ⟨u1, hu1⟩ : ∃ u, u = w1.setCell ⟨w.heap.size + 1 + 1, 1, none⟩ (.slice A1' x.args.length c1') := ⟨_, rfl⟩
  have hus1 : u1.heap.size = w1.heap.size := by rw [hu1]; simp [World.setCell]
  have hk1 : ∀ b, b ≠ w.heap.size + 1 + 1 → u1.heap[b]? = w1.heap[b]? := fun b hb => by rw [hu1, Below.heap_setCell _ _ _ _ (by simp; omega)]
  have HP1 := Lib.hid (show Blk u1 w.heap.size 82 #[.int .i64 x.seen, .slice A1 n1 c1, .slice A2 n2 c2, .slice A3 n3 c3, .slice A4 n4 c4, .slice A5 n5 c5] from (hk1 _ (by omega)).trans (HP0.out.below hM1.2 (by omega)))
  have HR1 := Lib.hid (show Blk u1 (w.heap.size + 1) 62 #[.int .i64 0, .slice none 0 0, .slice none 0 0, .slice none 0 0, .slice none 0 0, .slice none 0 0] from (hk1 _ (by omega)).trans (HR0.out.below hM1.2 (by omega)))
  have HO1 := Lib.hid (show Blk u1 (w.heap.size + 1 + 1) 62 #[.int .i64 x.seen, .slice A1' x.args.length c1', .slice none 0 0, .slice none 0 0, .slice none 0 0, .slice none 0 0] from by rw [hu1]; exact (HO0.out.below hM1.2 (by omega)).set_ 1 _)
  have HW1 := Lib.hid (show Below w.heap.size w u1 from by rw [hu1]; exact (HW0.out.trans (hM1.2.mono hsz0)).setCell (by simp; omega) _)
  have Hs1 := Lib.hid (show w.heap.size + 3 ≤ u1.heap.size by omega)
  have HX1_1 := Lib.hid (hM1.1.keep (w' := u1) fun b g1 g2 => hk1 b (by omega))
  have Hu1 := Lib.hid hu1
  clear hM1 hu1 hk1 HC0
  have hB1 := HW1.out
  have HC1 := Lib.hid (to_str F _ x.rets u1 (HV.out.rets.keep (below_keeps hB1 HF.out)) (fun b hb => Nat.lt_of_lt_of_le (HF.out b hb) hB1.size) (HSm.out.2.1) (fun _ _ => trivial))
  clear hB1
  go_wp2_with fail
  rw [← Hu1.out]
  refine HC1.out.mono ?_
  rintro e w2 ⟨A2', c2', rfl, hM2⟩
  clear p1_0 p1_1 p1_2 p1_3 p1_4 p1_5 o1_0 o1_1 o1_2 o1_3 o1_4 o1_5 f1_0 f1_1 f1_2 f1_3 f1_4 f1_5
  have hsz1 := HW1.out.size
  have hz1 := Hs1.out
  have hs2 := hM2.2.size
  obtain ⟨p2_0, p2_1, p2_2, p2_3, p2_4, p2_5⟩ := (HP1.out.below hM2.2 (by omega)).g6
  obtain ⟨o2_0, o2_1, o2_2, o2_3, o2_4, o2_5⟩ := (HO1.out.below hM2.2 (by omega)).g6
  obtain ⟨f2_0, f2_1, f2_2, f2_3, f2_4, f2_5⟩ := (HO1.out.below hM2.2 (by omega)).h6
  obtain ⟨u2, hu2⟩ : ∃ u, u = w2.setCell ⟨w.heap.size + 1 + 1, 2, none⟩ (.slice A2' x.rets.length c2') := ⟨_, rfl⟩
  have hus2 : u2.heap.size = w2.heap.size := by rw [hu2]; simp [World.setCell]
  have hk2 : ∀ b, b ≠ w.heap.size + 1 + 1 → u2.heap[b]? = w2.heap[b]? := fun b hb => by rw [hu2, Below.heap_setCell _ _ _ _ (by simp; omega)]
  have HP2 := Lib.hid (show Blk u2 w.heap.size 82 #[.int .i64 x.seen, .slice A1 n1 c1, .slice A2 n2 c2, .slice A3 n3 c3, .slice A4 n4 c4, .slice A5 n5 c5] from (hk2 _ (by omega)).trans (HP1.out.below hM2.2 (by omega)))
  have HR2 := Lib.hid (show Blk u2 (w.heap.size + 1) 62 #[.int .i64 0, .slice none 0 0, .slice none 0 0, .slice none 0 0, .slice none 0 0, .slice none 0 0] from (hk2 _ (by omega)).trans (HR1.out.below hM2.2 (by omega)))
  have HO2 := Lib.hid (show Blk u2 (w.heap.size + 1 + 1) 62 #[.int .i64 x.seen, .slice A1' x.args.length c1', .slice A2' x.rets.length c2', .slice none 0 0, .slice none 0 0, .slice none 0 0] from by rw [hu2]; exact (HO1.out.below hM2.2 (by omega)).set_ 2 _)
  have HW2 := Lib.hid (show Below w.heap.size w u2 from by rw [hu2]; exact (HW1.out.trans (hM2.2.mono hsz1)).setCell (by simp; omega) _)
  have Hs2 := Lib.hid (show w.heap.size + 3 ≤ u2.heap.size by omega)
  have HX2_2 := Lib.hid (hM2.1.keep (w' := u2) fun b g1 g2 => hk2 b (by omega))
  have HX1_2 := Lib.hid (HX1_1.out.keep (w' := u2) fun b g1 g2 => (hk2 b (by omega)).trans (hM2.2.block b (by omega)))
  have Hu2 := Lib.hid hu2
  clear hM2 hu2 hk2 HC1
  have hB2 := HW2.out
  have HC2 := Lib.hid (to_str F _ x.locals u2 (HV.out.locals.keep (below_keeps hB2 HF.out)) (fun b hb => Nat.lt_of_lt_of_le (HF.out b hb) hB2.size) (HSm.out.2.2.1) (fun _ _ => trivial))
  clear hB2
  go_wp2_with fail
  rw [← Hu2.out]
  refine HC2.out.mono ?_
  rintro e w3 ⟨A3', c3', rfl, hM3⟩
  clear p2_0 p2_1 p2_2 p2_3 p2_4 p2_5 o2_0 o2_1 o2_2 o2_3 o2_4 o2_5 f2_0 f2_1 f2_2 f2_3 f2_4 f2_5
  have hsz2 := HW2.out.size
  have hz2 := Hs2.out
  have hs3 := hM3.2.size
  obtain ⟨p3_0, p3_1, p3_2, p3_3, p3_4, p3_5⟩ := (HP2.out.below hM3.2 (by omega)).g6
  obtain ⟨o3_0, o3_1, o3_2, o3_3, o3_4, o3_5⟩ := (HO2.out.below hM3.2 (by omega)).g6
  obtain ⟨f3_0, f3_1, f3_2, f3_3, f3_4, f3_5⟩ := (HO2.out.below hM3.2 (by omega)).h6
  obtain ⟨u3, hu3⟩ : ∃ u, u = w3.setCell ⟨w.heap.size + 1 + 1, 3, none⟩ (.slice A3' x.locals.length c3') := ⟨_, rfl⟩
  have hus3 : u3.heap.size = w3.heap.size := by rw [hu3]; simp [World.setCell]
  have hk3 : ∀ b, b ≠ w.heap.size + 1 + 1 → u3.heap[b]? = w3.heap[b]? := fun b hb => by rw [hu3, Below.heap_setCell _ _ _ _ (by simp; omega)]
  have HP3 := Lib.hid (show Blk u3 w.heap.size 82 #[.int .i64 x.seen, .slice A1 n1 c1, .slice A2 n2 c2, .slice A3 n3 c3, .slice A4 n4 c4, .slice A5 n5 c5] from (hk3 _ (by omega)).trans (HP2.out.below hM3.2 (by omega)))
  have HR3 := Lib.hid (show Blk u3 (w.heap.size + 1) 62 #[.int .i64 0, .slice none 0 0, .slice none 0 0, .slice none 0 0, .slice none 0 0, .slice none 0 0] from (hk3 _ (by omega)).trans (HR2.out.below hM3.2 (by omega)))
  have HO3 := Lib.hid (show Blk u3 (w.heap.size + 1 + 1) 62 #[.int .i64 x.seen, .slice A1' x.args.length c1', .slice A2' x.rets.length c2', .slice A3' x.locals.length c3', .slice none 0 0, .slice none 0 0] from by rw [hu3]; exact (HO2.out.below hM3.2 (by omega)).set_ 3 _)
  have HW3 := Lib.hid (show Below w.heap.size w u3 from by rw [hu3]; exact (HW2.out.trans (hM3.2.mono hsz2)).setCell (by simp; omega) _)
  have Hs3 := Lib.hid (show w.heap.size + 3 ≤ u3.heap.size by omega)
  have HX3_3 := Lib.hid (hM3.1.keep (w' := u3) fun b g1 g2 => hk3 b (by omega))
  have HX1_3 := Lib.hid (HX1_2.out.keep (w' := u3) fun b g1 g2 => (hk3 b (by omega)).trans (hM3.2.block b (by omega)))
  have HX2_3 := Lib.hid (HX2_2.out.keep (w' := u3) fun b g1 g2 => (hk3 b (by omega)).trans (hM3.2.block b (by omega)))
  have Hu3 := Lib.hid hu3
  clear hM3 hu3 hk3 HC2
  have hB3 := HW3.out
  have HC3 := Lib.hid (to_i64 F _ x.takes u3 (HV.out.takes.keep (below_keeps hB3 HF.out)) (fun b hb => Nat.lt_of_lt_of_le (HF.out b hb) hB3.size) (HSm.out.2.2.2.1) (fun _ _ => trivial))
  clear hB3
  go_wp2_with fail
  rw [← Hu3.out]
  refine HC3.out.mono ?_
  rintro e w4 ⟨A4', c4', rfl, hM4⟩
  clear p3_0 p3_1 p3_2 p3_3 p3_4 p3_5 o3_0 o3_1 o3_2 o3_3 o3_4 o3_5 f3_0 f3_1 f3_2 f3_3 f3_4 f3_5
  have hsz3 := HW3.out.size
  have hz3 := Hs3.out
  have hs4 := hM4.2.size
  obtain ⟨p4_0, p4_1, p4_2, p4_3, p4_4, p4_5⟩ := (HP3.out.below hM4.2 (by omega)).g6
  obtain ⟨o4_0, o4_1, o4_2, o4_3, o4_4, o4_5⟩ := (HO3.out.below hM4.2 (by omega)).g6
  obtain ⟨f4_0, f4_1, f4_2, f4_3, f4_4, f4_5⟩ := (HO3.out.below hM4.2 (by omega)).h6
  obtain ⟨u4, hu4⟩ : ∃ u, u = w4.setCell ⟨w.heap.size + 1 + 1, 4, none⟩ (.slice A4' x.takes.length c4') := ⟨_, rfl⟩
  have hus4 : u4.heap.size = w4.heap.size := by rw [hu4]; simp [World.setCell]
  have hk4 : ∀ b, b ≠ w.heap.size + 1 + 1 → u4.heap[b]? = w4.heap[b]? := fun b hb => by rw [hu4, Below.heap_setCell _ _ _ _ (by simp; omega)]
  have HP4 := Lib.hid (show Blk u4 w.heap.size 82 #[.int .i64 x.seen, .slice A1 n1 c1, .slice A2 n2 c2, .slice A3 n3 c3, .slice A4 n4 c4, .slice A5 n5 c5] from (hk4 _ (by omega)).trans (HP3.out.below hM4.2 (by omega)))
  have HR4 := Lib.hid (show Blk u4 (w.heap.size + 1) 62 #[.int .i64 0, .slice none 0 0, .slice none 0 0, .slice none 0 0, .slice none 0 0, .slice none 0 0] from (hk4 _ (by omega)).trans (HR3.out.below hM4.2 (by omega)))
  have HO4 := Lib.hid (show Blk u4 (w.heap.size + 1 + 1) 62 #[.int .i64 x.seen, .slice A1' x.args.length c1', .slice A2' x.rets.length c2', .slice A3' x.locals.length c3', .slice A4' x.takes.length c4', .slice none 0 0] from by rw [hu4]; exact (HO3.out.below hM4.2 (by omega)).set_ 4 _)
  have HW4 := Lib.hid (show Below w.heap.size w u4 from by rw [hu4]; exact (HW3.out.trans (hM4.2.mono hsz3)).setCell (by simp; omega) _)
  have Hs4 := Lib.hid (show w.heap.size + 3 ≤ u4.heap.size by omega)
  have HX4_4 := Lib.hid (hM4.1.keep (w' := u4) fun b g1 g2 => hk4 b (by omega))
  have HX1_4 := Lib.hid (HX1_3.out.keep (w' := u4) fun b g1 g2 => (hk4 b (by omega)).trans (hM4.2.block b (by omega)))
  have HX2_4 := Lib.hid (HX2_3.out.keep (w' := u4) fun b g1 g2 => (hk4 b (by omega)).trans (hM4.2.block b (by omega)))
  have HX3_4 := Lib.hid (HX3_3.out.keep (w' := u4) fun b g1 g2 => (hk4 b (by omega)).trans (hM4.2.block b (by omega)))
  have Hu4 := Lib.hid hu4
  clear hM4 hu4 hk4 HC3
  have hB4 := HW4.out
  have HC4 := Lib.hid (to_insr F _ x.code u4 (HV.out.code.keep (below_keeps hB4 HF.out)) (fun b hb => Nat.lt_of_lt_of_le (HF.out b hb) hB4.size) (HSm.out.2.2.2.2.1) (HSm.out.2.2.2.2.2))
  clear hB4
  go_wp2_with fail
  rw [← Hu4.out]
  refine HC4.out.mono ?_
  rintro e w5 ⟨A5', c5', rfl, hM5⟩
  clear p4_0 p4_1 p4_2 p4_3 p4_4 p4_5 o4_0 o4_1 o4_2 o4_3 o4_4 o4_5 f4_0 f4_1 f4_2 f4_3 f4_4 f4_5
  have hsz4 := HW4.out.size
  have hz4 := Hs4.out
  have hs5 := hM5.2.size
  obtain ⟨wE, hwE⟩ : ∃ wE, wE = ((((((w5.setCell ⟨w.heap.size + 1 + 1, 5, none⟩ (.slice A5' x.code.length c5')).setCell ⟨w.heap.size + 1, 0, none⟩ (.int .i64 x.seen)).setCell ⟨w.heap.size + 1, 1, none⟩ (.slice A1' x.args.length c1')).setCell ⟨w.heap.size + 1, 2, none⟩ (.slice A2' x.rets.length c2')).setCell ⟨w.heap.size + 1, 3, none⟩ (.slice A3' x.locals.length c3')).setCell ⟨w.heap.size + 1, 4, none⟩ (.slice A4' x.takes.length c4')).setCell ⟨w.heap.size + 1, 5, none⟩ (.slice A5' x.code.length c5') := ⟨_, rfl⟩
  have hP := HP4.out.below hM5.2 (by omega)
  have hR := HR4.out.below hM5.2 (by omega)
  have hO := HO4.out.below hM5.2 (by omega)
  obtain ⟨x0, x1, x2, x3, x4, x5⟩ := hR.g6
  obtain ⟨y0, y1, y2, y3, y4, y5⟩ := hR.h6
  obtain ⟨z0, z1, z2, z3, z4, z5⟩ := hO.g6
  obtain ⟨t0, t1, t2, t3, t4, t5⟩ := hO.h6
  have HRE := Lib.hid (show Blk wE (w.heap.size + 1) 62 #[.int .i64 x.seen, .slice A1' x.args.length c1', .slice A2' x.rets.length c2', .slice A3' x.locals.length c3', .slice A4' x.takes.length c4', .slice A5' x.code.length c5'] by rw [hwE]; exact (((((((hR.far (p := ⟨w.heap.size + 1 + 1, 5, none⟩) (by simp) (.slice A5' x.code.length c5')).set_ 0 (.int .i64 x.seen)).set_ 1 (.slice A1' x.args.length c1')).set_ 2 (.slice A2' x.rets.length c2')).set_ 3 (.slice A3' x.locals.length c3')).set_ 4 (.slice A4' x.takes.length c4')).set_ 5 (.slice A5' x.code.length c5')))
  have hkE : ∀ b, b ≠ w.heap.size + 1 → b ≠ w.heap.size + 1 + 1 → wE.heap[b]? = w5.heap[b]? := fun b h1 h2 => by rw [hwE, Below.heap_setCell _ _ _ _ h1, Below.heap_setCell _ _ _ _ h1, Below.heap_setCell _ _ _ _ h1, Below.heap_setCell _ _ _ _ h1, Below.heap_setCell _ _ _ _ h1, Below.heap_setCell _ _ _ _ h1, Below.heap_setCell _ _ _ _ h2]
  have hsE : wE.heap.size = w5.heap.size := by rw [hwE]; simp [World.setCell]
  have HWE := Lib.hid (show Below w.heap.size w wE from by rw [hwE]; exact ((((((((HW4.out.trans (hM5.2.mono hsz4)).setCell (by simp; omega) _).setCell (by simp) _).setCell (by simp) _).setCell (by simp) _).setCell (by simp) _).setCell (by simp) _).setCell (by simp) _))
  have HX5_5 := Lib.hid (hM5.1.keep (w' := wE) fun b g1 g2 => hkE b (by omega) (by omega))
  have HX1_5 := Lib.hid (HX1_4.out.keep (w' := wE) fun b g1 g2 => (hkE b (by omega) (by omega)).trans (hM5.2.block b (by omega)))
  have HX2_5 := Lib.hid (HX2_4.out.keep (w' := wE) fun b g1 g2 => (hkE b (by omega) (by omega)).trans (hM5.2.block b (by omega)))
  have HX3_5 := Lib.hid (HX3_4.out.keep (w' := wE) fun b g1 g2 => (hkE b (by omega) (by omega)).trans (hM5.2.block b (by omega)))
  have HX4_5 := Lib.hid (HX4_4.out.keep (w' := wE) fun b g1 g2 => (hkE b (by omega) (by omega)).trans (hM5.2.block b (by omega)))
  have HQ := Lib.hid (show ToFunrD x w (.returned (.agg #[.int .i64 x.seen, .slice A1' x.args.length c1', .slice A2' x.rets.length c2', .slice A3' x.locals.length c3', .slice A4' x.takes.length c4', .slice A5' x.code.length c5'])) wE from ⟨A1', c1', A2', c2', A3', c3', A4', c4', A5', c5', rfl, ⟨HV.out.seen, u1.heap.size, u2.heap.size, u3.heap.size, u4.heap.size, by omega, by omega, by omega, by omega, by omega, HX1_5.out.mono (by omega) (by omega), HX2_5.out.mono (by omega) (by omega), HX3_5.out.mono (by omega) (by omega), HX4_5.out.mono (by omega) (by omega), HX5_5.out.mono (by omega) (by omega)⟩, HWE.out⟩)
  have HwE := Lib.hid hwE
  clear hM5 hwE hkE hP hR hO HC4
  go_wp2
  rw [← HwE.out]
  obtain ⟨r0, r1, r2, r3, r4, r5⟩ := HRE.out.g6
  exact bodyPost_ret (v := .agg #[.int .i64 x.seen, .slice A1' x.args.length c1', .slice A2' x.rets.length c2', .slice A3' x.locals.length c3', .slice A4' x.takes.length c4', .slice A5' x.code.length c5']) (by simp [results, Tryd.results46, go_sem, r0, r1, r2, r3, r4, r5]) rfl HQ.out

set_option maxRecDepth 100000 in
set_option maxHeartbeats 2000000 in
theorem to_funr : ToRow OCod.funr 62 30 SmolFunr := by
  intro F v xs w h hF hn hm
  have HS : Hid (Cod.funr.Sl F w v xs) := Lib.hid h
  have Hm := Lib.hid hm
  clear hm
  obtain ⟨A, cap, rfl, hlc, hcm, _⟩ := h
  unfold maxLen at hcm
  have hmk := make_len (P := Tryd.prog) 41 62 _ 6 128 Tryd.underlying41 info_funr (by omega) xs.length hn
  go_enter Tryd.func30, Tryd.ntmps30
  go_wp2
  go_loopw [4] (fun i wr => ∃ (k : Nat) (cs : Array Value), k ≤ xs.length ∧ i = .int .i64 k ∧ Blk wr w.heap.size 62 cs ∧ cs.size = xs.length * 6 ∧ OPart OCod.funr w.heap.size wr cs k xs ∧ Below w.heap.size w wr) (fun i _ => xs.length - (intOf i).toNat)
  case atStart => exact ⟨0, _, Nat.zero_le _, rfl, Blk.new _ _ _, by simp [madeCells], OPart.zero (by simp), (Below.refl _ _).alloc (Nat.le_refl _) _⟩
  case round =>
    obtain ⟨k, cs, hk, rfl, HB, hsz, HP, hb⟩ := hrel
    have HBl := HB.lt
    by_cases hlt : k < xs.length
    · have HSr := Lib.hid (HS.out.keep (below_keeps hb hF))
      obtain ⟨b, off, cap', A1, c1, A2, c2, A3, c3, A4, c4, A5, c5, hv, hFb, _, _, hc0, hc1, hc2, hc3, hc4, hc5, hV⟩ := HSr.out.funr_at hlt
      obtain ⟨rfl, rfl⟩ : A = some ⟨b, off, none⟩ ∧ cap = cap' := by simpa using hv
      have HB' := Lib.hid HB
      have HP' := Lib.hid HP
      have Hsz := Lib.hid hsz
      have hws := hb.size
      have HC := Lib.hid (toFunr_one F _ _ _ _ _ _ _ _ _ _ _ _ _ _ _ xs[k] wr hV (fun b hb' => Nat.lt_of_lt_of_le (hF b hb') hws) (Hm.out xs[k] (List.getElem_mem hlt)))
      clear hv HB HP hsz hmk hV
      go_wp2_with fail
      refine HC.out.mono ?_
      rintro e w1 ⟨A1', c1', A2', c2', A3', c3', A4', c4', A5', c5', rfl, hO, hbl⟩
      have HB1 := HB'.out.below hbl HBl
      obtain ⟨d0, hd0⟩ := HB1.holds Hsz.out (i := k * 6) (by omega)
      have hf0 := HB1.frozen (k * 6)
      obtain ⟨d1, hd1⟩ := HB1.holds Hsz.out (i := k * 6 + 1) (by omega)
      have hf1 := HB1.frozen (k * 6 + 1)
      obtain ⟨d2, hd2⟩ := HB1.holds Hsz.out (i := k * 6 + 2) (by omega)
      have hf2 := HB1.frozen (k * 6 + 2)
      obtain ⟨d3, hd3⟩ := HB1.holds Hsz.out (i := k * 6 + 3) (by omega)
      have hf3 := HB1.frozen (k * 6 + 3)
      obtain ⟨d4, hd4⟩ := HB1.holds Hsz.out (i := k * 6 + 4) (by omega)
      have hf4 := HB1.frozen (k * 6 + 4)
      obtain ⟨d5, hd5⟩ := HB1.holds Hsz.out (i := k * 6 + 5) (by omega)
      have hf5 := HB1.frozen (k * 6 + 5)
      have HBB := Lib.hid HB1
      have hw1 := hbl.size
      have HO := Lib.hid hO
      have HBe := Lib.hid hbl
      clear HB1 hO hbl HC
      go_wp2
      go_roundw
      case rel =>
        obtain ⟨wE, hwE⟩ : ∃ wE, wE = ((((((w1).setCell ⟨w.heap.size, k * 6, none⟩ (.int .i64 xs[k].seen)).setCell ⟨w.heap.size, k * 6 + 1, none⟩ (.slice A1' xs[k].args.length c1')).setCell ⟨w.heap.size, k * 6 + 2, none⟩ (.slice A2' xs[k].rets.length c2')).setCell ⟨w.heap.size, k * 6 + 3, none⟩ (.slice A3' xs[k].locals.length c3')).setCell ⟨w.heap.size, k * 6 + 4, none⟩ (.slice A4' xs[k].takes.length c4')).setCell ⟨w.heap.size, k * 6 + 5, none⟩ (.slice A5' xs[k].code.length c5') := ⟨_, rfl⟩
        rw [← hwE]
        have hk1 : ∀ b, w.heap.size < b → wE.heap[b]? = w1.heap[b]? := fun b hb' => by
          rw [hwE, Below.heap_setCell _ _ _ _ (by simp; omega), Below.heap_setCell _ _ _ _ (by simp; omega), Below.heap_setCell _ _ _ _ (by simp; omega), Below.heap_setCell _ _ _ _ (by simp; omega), Below.heap_setCell _ _ _ _ (by simp; omega), Below.heap_setCell _ _ _ _ (by simp; omega)]
        have hse : wE.heap.size = w1.heap.size := by rw [hwE]; simp [World.setCell]
        refine ⟨k + 1, _, by omega, by go_num, by rw [hwE]; exact (((((HBB.out.set_ _ _).set_ _ _).set_ _ _).set_ _ _).set_ _ _).set_ _ _, by simp only [Array.size_setIfInBounds]; exact Hsz.out, ?_, ?_⟩
        · refine HP'.out.next (news := [.int .i64 xs[k].seen, .slice A1' xs[k].args.length c1', .slice A2' xs[k].rets.length c2', .slice A3' xs[k].locals.length c3', .slice A4' xs[k].takes.length c4', .slice A5' xs[k].code.length c5']) hlt (fun i h1 h2 => (hk1 i h1).trans (HBe.out.block i h2)) (by rw [hse]; exact hw1)
            (fun i hi => by
              have hi' : i < k * 6 := hi
              simp only [Array.getElem?_setIfInBounds]
              rw [if_neg (by omega), if_neg (by omega), if_neg (by omega), if_neg (by omega), if_neg (by omega), if_neg (by omega)]) (fun j u hu => ?_)
            ⟨_, _, _, _, _, rfl, (HO.out.keep fun b g1 g2 => hk1 b (by omega)).mono (Nat.le_refl _) (by omega)⟩
          show _[k * 6 + j]? = _
          have hsz2 := Hsz.out
          match j, hu with
          | 0, hu => simp at hu; subst hu; simp [Array.getElem?_setIfInBounds]; omega
          | 1, hu => simp at hu; subst hu; simp [Array.getElem?_setIfInBounds]; omega
          | 2, hu => simp at hu; subst hu; simp [Array.getElem?_setIfInBounds]; omega
          | 3, hu => simp at hu; subst hu; simp [Array.getElem?_setIfInBounds]; omega
          | 4, hu => simp at hu; subst hu; simp [Array.getElem?_setIfInBounds]; omega
          | 5, hu => simp at hu; subst hu; simp [Array.getElem?_setIfInBounds]; omega
          | j + 6, hu => simp at hu
        · rw [hwE]; exact (((((((hb.trans (HBe.out.mono hws)).setCell (by simp) _).setCell (by simp) _).setCell (by simp) _).setCell (by simp) _).setCell (by simp) _).setCell (by simp) _)
      case measure => simp [intOf]; omega
    · obtain rfl : k = xs.length := by omega
      have HM : MadeO OCod.funr 62 w wr (.slice (some ⟨w.heap.size, 0, none⟩) xs.length xs.length) xs := ⟨HP.own HB (Nat.le_refl _) (Nat.le_refl _) (by unfold maxLen; omega), hb⟩
      clear hmk HB HP
      go_wp2
      go_ret
      exact ⟨_, _, rfl, HM⟩
theorem info_modr : (Tryd.prog.info? 43).map (fun i => (i.zero, i.size, i.bytes)) = some (some (.agg #[.slice none 0 0, .slice none 0 0, .slice none 0 0]), 3, 72) := by kernel_rfl
def ToModrD (x : ModR) (w : World) (e : Ending) (w' : World) : Prop := ∃ A0' c0' A1' c1' A2' c2', e = .returned (.agg #[.slice A0' x.records.length c0', .slice A1' x.funcs.length c1', .slice A2' x.friends.length c2']) ∧ ModRo w.heap.size w'.heap.size w' (.slice A0' x.records.length c0') (.slice A1' x.funcs.length c1') (.slice A2' x.friends.length c2') x ∧ Below w.heap.size w w'

set_option maxRecDepth 100000 in
set_option maxHeartbeats 2000000 in
theorem toModr_one (F : Nat → Prop) (A0 A1 A2 : Option Addr) (n0 c0 n1 c1 n2 c2 : Nat) (x : ModR) (w : World) (h : ModRd F w (.slice A0 n0 c0) (.slice A1 n1 c1) (.slice A2 n2 c2) x) (hF : ∀ b, F b → b < w.heap.size) (hsm : SmolModr x) :
    Calls Tryd.prog 15 #[.agg #[.slice A0 n0 c0, .slice A1 n1 c1, .slice A2 n2 c2]] w (ToModrD x w) := by
  obtain ⟨w0, hw0⟩ : ∃ w0, w0 = ((w.alloc (.cells #[.slice A0 n0 c0, .slice A1 n1 c1, .slice A2 n2 c2] 34)).alloc (.cells #[.slice none 0 0, .slice none 0 0, .slice none 0 0] 43)).alloc (.cells #[.slice none 0 0, .slice none 0 0, .slice none 0 0] 43) := ⟨_, rfl⟩
  have hs0 : w0.heap.size = w.heap.size + 3 := by rw [hw0]; simp
  have HP0 := Lib.hid (show Blk w0 w.heap.size 34 #[.slice A0 n0 c0, .slice A1 n1 c1, .slice A2 n2 c2] by rw [hw0]; exact ((Blk.new w _ _).alloc _).alloc _)
  have HR0 := Lib.hid (show Blk w0 (w.heap.size + 1) 43 #[.slice none 0 0, .slice none 0 0, .slice none 0 0] by rw [hw0]; have := (Blk.new (w.alloc (.cells #[.slice A0 n0 c0, .slice A1 n1 c1, .slice A2 n2 c2] 34)) 43 #[.slice none 0 0, .slice none 0 0, .slice none 0 0]).alloc (.cells #[.slice none 0 0, .slice none 0 0, .slice none 0 0] 43); simpa using this)
  have HO0 := Lib.hid (show Blk w0 (w.heap.size + 1 + 1) 43 #[.slice none 0 0, .slice none 0 0, .slice none 0 0] by rw [hw0]; have := Blk.new ((w.alloc (.cells #[.slice A0 n0 c0, .slice A1 n1 c1, .slice A2 n2 c2] 34)).alloc (.cells #[.slice none 0 0, .slice none 0 0, .slice none 0 0] 43)) 43 #[.slice none 0 0, .slice none 0 0, .slice none 0 0]; simpa using this)
  have HW0 := Lib.hid (show Below w.heap.size w w0 by rw [hw0]; exact (((Below.refl _ _).alloc (Nat.le_refl _) _).alloc (by simp) _).alloc (by simp; omega) _)
  have HV := Lib.hid h
  have HF := Lib.hid hF
  have Hw0 := Lib.hid hw0
  have Hs0 := Lib.hid hs0
  have HSm := Lib.hid hsm
  clear h hF hw0 hs0 hsm
  go_enter Tryd.func15, Tryd.ntmps15
  have hB0 := HW0.out
  have HC0 := Lib.hid (to_rec F _ x.records w0 (HV.out.records.keep (below_keeps hB0 HF.out)) (fun b hb => Nat.lt_of_lt_of_le (HF.out b hb) hB0.size) (HSm.out.1) (HSm.out.2.2.2.1))
  clear hB0
  go_wp2_with fail
  rw [← Hw0.out]
  refine HC0.out.mono ?_
  rintro e w1 ⟨A0', c0', rfl, hM1⟩
  have hsz0 := HW0.out.size
  have hz0 := Hs0.out
  have hs1 := hM1.2.size
  obtain ⟨p1_0, p1_1, p1_2⟩ := (HP0.out.below hM1.2 (by omega)).g3
  obtain ⟨o1_0, o1_1, o1_2⟩ := (HO0.out.below hM1.2 (by omega)).g3
  obtain ⟨f1_0, f1_1, f1_2⟩ := (HO0.out.below hM1.2 (by omega)).h3
  obtain ⟨u1, hu1⟩ : ∃ u, u = w1.setCell ⟨w.heap.size + 1 + 1, 0, none⟩ (.slice A0' x.records.length c0') := ⟨_, rfl⟩
  have hus1 : u1.heap.size = w1.heap.size := by rw [hu1]; simp [World.setCell]
  have hk1 : ∀ b, b ≠ w.heap.size + 1 + 1 → u1.heap[b]? = w1.heap[b]? := fun b hb => by rw [hu1, Below.heap_setCell _ _ _ _ (by simp; omega)]
  have HP1 := Lib.hid (show Blk u1 w.heap.size 34 #[.slice A0 n0 c0, .slice A1 n1 c1, .slice A2 n2 c2] from (hk1 _ (by omega)).trans (HP0.out.below hM1.2 (by omega)))
  have HR1 := Lib.hid (show Blk u1 (w.heap.size + 1) 43 #[.slice none 0 0, .slice none 0 0, .slice none 0 0] from (hk1 _ (by omega)).trans (HR0.out.below hM1.2 (by omega)))
  have HO1 := Lib.hid (show Blk u1 (w.heap.size + 1 + 1) 43 #[.slice A0' x.records.length c0', .slice none 0 0, .slice none 0 0] from by rw [hu1]; exact (HO0.out.below hM1.2 (by omega)).set_ 0 _)
  have HW1 := Lib.hid (show Below w.heap.size w u1 from by rw [hu1]; exact (HW0.out.trans (hM1.2.mono hsz0)).setCell (by simp; omega) _)
  have Hs1 := Lib.hid (show w.heap.size + 3 ≤ u1.heap.size by omega)
  have HX0_1 := Lib.hid (hM1.1.keep (w' := u1) fun b g1 g2 => hk1 b (by omega))
  have Hu1 := Lib.hid hu1
  clear hM1 hu1 hk1 HC0
  have hB1 := HW1.out
  have HC1 := Lib.hid (to_funr F _ x.funcs u1 (HV.out.funcs.keep (below_keeps hB1 HF.out)) (fun b hb => Nat.lt_of_lt_of_le (HF.out b hb) hB1.size) (HSm.out.2.1) (HSm.out.2.2.2.2))
  clear hB1
  go_wp2_with fail
  rw [← Hu1.out]
  refine HC1.out.mono ?_
  rintro e w2 ⟨A1', c1', rfl, hM2⟩
  clear p1_0 p1_1 p1_2 o1_0 o1_1 o1_2 f1_0 f1_1 f1_2
  have hsz1 := HW1.out.size
  have hz1 := Hs1.out
  have hs2 := hM2.2.size
  obtain ⟨p2_0, p2_1, p2_2⟩ := (HP1.out.below hM2.2 (by omega)).g3
  obtain ⟨o2_0, o2_1, o2_2⟩ := (HO1.out.below hM2.2 (by omega)).g3
  obtain ⟨f2_0, f2_1, f2_2⟩ := (HO1.out.below hM2.2 (by omega)).h3
  obtain ⟨u2, hu2⟩ : ∃ u, u = w2.setCell ⟨w.heap.size + 1 + 1, 1, none⟩ (.slice A1' x.funcs.length c1') := ⟨_, rfl⟩
  have hus2 : u2.heap.size = w2.heap.size := by rw [hu2]; simp [World.setCell]
  have hk2 : ∀ b, b ≠ w.heap.size + 1 + 1 → u2.heap[b]? = w2.heap[b]? := fun b hb => by rw [hu2, Below.heap_setCell _ _ _ _ (by simp; omega)]
  have HP2 := Lib.hid (show Blk u2 w.heap.size 34 #[.slice A0 n0 c0, .slice A1 n1 c1, .slice A2 n2 c2] from (hk2 _ (by omega)).trans (HP1.out.below hM2.2 (by omega)))
  have HR2 := Lib.hid (show Blk u2 (w.heap.size + 1) 43 #[.slice none 0 0, .slice none 0 0, .slice none 0 0] from (hk2 _ (by omega)).trans (HR1.out.below hM2.2 (by omega)))
  have HO2 := Lib.hid (show Blk u2 (w.heap.size + 1 + 1) 43 #[.slice A0' x.records.length c0', .slice A1' x.funcs.length c1', .slice none 0 0] from by rw [hu2]; exact (HO1.out.below hM2.2 (by omega)).set_ 1 _)
  have HW2 := Lib.hid (show Below w.heap.size w u2 from by rw [hu2]; exact (HW1.out.trans (hM2.2.mono hsz1)).setCell (by simp; omega) _)
  have Hs2 := Lib.hid (show w.heap.size + 3 ≤ u2.heap.size by omega)
  have HX1_2 := Lib.hid (hM2.1.keep (w' := u2) fun b g1 g2 => hk2 b (by omega))
  have HX0_2 := Lib.hid (HX0_1.out.keep (w' := u2) fun b g1 g2 => (hk2 b (by omega)).trans (hM2.2.block b (by omega)))
  have Hu2 := Lib.hid hu2
  clear hM2 hu2 hk2 HC1
  have hB2 := HW2.out
  have HC2 := Lib.hid (to_i64 F _ x.friends u2 (HV.out.friends.keep (below_keeps hB2 HF.out)) (fun b hb => Nat.lt_of_lt_of_le (HF.out b hb) hB2.size) (HSm.out.2.2.1) (fun _ _ => trivial))
  clear hB2
  go_wp2_with fail
  rw [← Hu2.out]
  refine HC2.out.mono ?_
  rintro e w3 ⟨A2', c2', rfl, hM3⟩
  clear p2_0 p2_1 p2_2 o2_0 o2_1 o2_2 f2_0 f2_1 f2_2
  have hsz2 := HW2.out.size
  have hz2 := Hs2.out
  have hs3 := hM3.2.size
  obtain ⟨wE, hwE⟩ : ∃ wE, wE = (((w3.setCell ⟨w.heap.size + 1 + 1, 2, none⟩ (.slice A2' x.friends.length c2')).setCell ⟨w.heap.size + 1, 0, none⟩ (.slice A0' x.records.length c0')).setCell ⟨w.heap.size + 1, 1, none⟩ (.slice A1' x.funcs.length c1')).setCell ⟨w.heap.size + 1, 2, none⟩ (.slice A2' x.friends.length c2') := ⟨_, rfl⟩
  have hP := HP2.out.below hM3.2 (by omega)
  have hR := HR2.out.below hM3.2 (by omega)
  have hO := HO2.out.below hM3.2 (by omega)
  obtain ⟨x0, x1, x2⟩ := hR.g3
  obtain ⟨y0, y1, y2⟩ := hR.h3
  obtain ⟨z0, z1, z2⟩ := hO.g3
  obtain ⟨t0, t1, t2⟩ := hO.h3
  have HRE := Lib.hid (show Blk wE (w.heap.size + 1) 43 #[.slice A0' x.records.length c0', .slice A1' x.funcs.length c1', .slice A2' x.friends.length c2'] by rw [hwE]; exact ((((hR.far (p := ⟨w.heap.size + 1 + 1, 2, none⟩) (by simp) (.slice A2' x.friends.length c2')).set_ 0 (.slice A0' x.records.length c0')).set_ 1 (.slice A1' x.funcs.length c1')).set_ 2 (.slice A2' x.friends.length c2')))
  have hkE : ∀ b, b ≠ w.heap.size + 1 → b ≠ w.heap.size + 1 + 1 → wE.heap[b]? = w3.heap[b]? := fun b h1 h2 => by rw [hwE, Below.heap_setCell _ _ _ _ h1, Below.heap_setCell _ _ _ _ h1, Below.heap_setCell _ _ _ _ h1, Below.heap_setCell _ _ _ _ h2]
  have hsE : wE.heap.size = w3.heap.size := by rw [hwE]; simp [World.setCell]
  have HWE := Lib.hid (show Below w.heap.size w wE from by rw [hwE]; exact (((((HW2.out.trans (hM3.2.mono hsz2)).setCell (by simp; omega) _).setCell (by simp) _).setCell (by simp) _).setCell (by simp) _))
  have HX2_3 := Lib.hid (hM3.1.keep (w' := wE) fun b g1 g2 => hkE b (by omega) (by omega))
  have HX0_3 := Lib.hid (HX0_2.out.keep (w' := wE) fun b g1 g2 => (hkE b (by omega) (by omega)).trans (hM3.2.block b (by omega)))
  have HX1_3 := Lib.hid (HX1_2.out.keep (w' := wE) fun b g1 g2 => (hkE b (by omega) (by omega)).trans (hM3.2.block b (by omega)))
  have HQ := Lib.hid (show ToModrD x w (.returned (.agg #[.slice A0' x.records.length c0', .slice A1' x.funcs.length c1', .slice A2' x.friends.length c2'])) wE from ⟨A0', c0', A1', c1', A2', c2', rfl, ⟨u1.heap.size, u2.heap.size, by omega, by omega, by omega, HX0_3.out.mono (by omega) (by omega), HX1_3.out.mono (by omega) (by omega), HX2_3.out.mono (by omega) (by omega)⟩, HWE.out⟩)
  have HwE := Lib.hid hwE
  clear hM3 hwE hkE hP hR hO HC2
  go_wp2
  rw [← HwE.out]
  obtain ⟨r0, r1, r2⟩ := HRE.out.g3
  exact bodyPost_ret (v := .agg #[.slice A0' x.records.length c0', .slice A1' x.funcs.length c1', .slice A2' x.friends.length c2']) (by simp [results, Tryd.results15, go_sem, r0, r1, r2]) rfl HQ.out

set_option maxRecDepth 100000 in
set_option maxHeartbeats 2000000 in
theorem to_modr : ToRow OCod.modr 43 6 SmolModr := by
  intro F v xs w h hF hn hm
  have HS : Hid (Cod.modr.Sl F w v xs) := Lib.hid h
  have Hm := Lib.hid hm
  clear hm
  obtain ⟨A, cap, rfl, hlc, hcm, _⟩ := h
  unfold maxLen at hcm
  have hmk := make_len (P := Tryd.prog) 25 43 _ 3 72 Tryd.underlying25 info_modr (by omega) xs.length hn
  go_enter Tryd.func6, Tryd.ntmps6
  go_wp2
  go_loopw [4] (fun i wr => ∃ (k : Nat) (cs : Array Value), k ≤ xs.length ∧ i = .int .i64 k ∧ Blk wr w.heap.size 43 cs ∧ cs.size = xs.length * 3 ∧ OPart OCod.modr w.heap.size wr cs k xs ∧ Below w.heap.size w wr) (fun i _ => xs.length - (intOf i).toNat)
  case atStart => exact ⟨0, _, Nat.zero_le _, rfl, Blk.new _ _ _, by simp [madeCells], OPart.zero (by simp), (Below.refl _ _).alloc (Nat.le_refl _) _⟩
  case round =>
    obtain ⟨k, cs, hk, rfl, HB, hsz, HP, hb⟩ := hrel
    have HBl := HB.lt
    by_cases hlt : k < xs.length
    · have HSr := Lib.hid (HS.out.keep (below_keeps hb hF))
      obtain ⟨b, off, cap', A0, c0, A1, c1, A2, c2, hv, hFb, _, _, hc0, hc1, hc2, hV⟩ := HSr.out.modr_at hlt
      obtain ⟨rfl, rfl⟩ : A = some ⟨b, off, none⟩ ∧ cap = cap' := by simpa using hv
      have HB' := Lib.hid HB
      have HP' := Lib.hid HP
      have Hsz := Lib.hid hsz
      have hws := hb.size
      have HC := Lib.hid (toModr_one F _ _ _ _ _ _ _ _ _ xs[k] wr hV (fun b hb' => Nat.lt_of_lt_of_le (hF b hb') hws) (Hm.out xs[k] (List.getElem_mem hlt)))
      clear hv HB HP hsz hmk hV
      go_wp2_with fail
      refine HC.out.mono ?_
      rintro e w1 ⟨A0', c0', A1', c1', A2', c2', rfl, hO, hbl⟩
      have HB1 := HB'.out.below hbl HBl
      obtain ⟨d0, hd0⟩ := HB1.holds Hsz.out (i := k * 3) (by omega)
      have hf0 := HB1.frozen (k * 3)
      obtain ⟨d1, hd1⟩ := HB1.holds Hsz.out (i := k * 3 + 1) (by omega)
      have hf1 := HB1.frozen (k * 3 + 1)
      obtain ⟨d2, hd2⟩ := HB1.holds Hsz.out (i := k * 3 + 2) (by omega)
      have hf2 := HB1.frozen (k * 3 + 2)
      have HBB := Lib.hid HB1
      have hw1 := hbl.size
      have HO := Lib.hid hO
      have HBe := Lib.hid hbl
      clear HB1 hO hbl HC
      go_wp2
      go_roundw
      case rel =>
        obtain ⟨wE, hwE⟩ : ∃ wE, wE = (((w1).setCell ⟨w.heap.size, k * 3, none⟩ (.slice A0' xs[k].records.length c0')).setCell ⟨w.heap.size, k * 3 + 1, none⟩ (.slice A1' xs[k].funcs.length c1')).setCell ⟨w.heap.size, k * 3 + 2, none⟩ (.slice A2' xs[k].friends.length c2') := ⟨_, rfl⟩
        rw [← hwE]
        have hk1 : ∀ b, w.heap.size < b → wE.heap[b]? = w1.heap[b]? := fun b hb' => by
          rw [hwE, Below.heap_setCell _ _ _ _ (by simp; omega), Below.heap_setCell _ _ _ _ (by simp; omega), Below.heap_setCell _ _ _ _ (by simp; omega)]
        have hse : wE.heap.size = w1.heap.size := by rw [hwE]; simp [World.setCell]
        refine ⟨k + 1, _, by omega, by go_num, by rw [hwE]; exact ((HBB.out.set_ _ _).set_ _ _).set_ _ _, by simp only [Array.size_setIfInBounds]; exact Hsz.out, ?_, ?_⟩
        · refine HP'.out.next (news := [.slice A0' xs[k].records.length c0', .slice A1' xs[k].funcs.length c1', .slice A2' xs[k].friends.length c2']) hlt (fun i h1 h2 => (hk1 i h1).trans (HBe.out.block i h2)) (by rw [hse]; exact hw1)
            (fun i hi => by
              have hi' : i < k * 3 := hi
              simp only [Array.getElem?_setIfInBounds]
              rw [if_neg (by omega), if_neg (by omega), if_neg (by omega)]) (fun j u hu => ?_)
            ⟨_, _, _, rfl, (HO.out.keep fun b g1 g2 => hk1 b (by omega)).mono (Nat.le_refl _) (by omega)⟩
          show _[k * 3 + j]? = _
          have hsz2 := Hsz.out
          match j, hu with
          | 0, hu => simp at hu; subst hu; simp [Array.getElem?_setIfInBounds]; omega
          | 1, hu => simp at hu; subst hu; simp [Array.getElem?_setIfInBounds]; omega
          | 2, hu => simp at hu; subst hu; simp [Array.getElem?_setIfInBounds]; omega
          | j + 3, hu => simp at hu
        · rw [hwE]; exact ((((hb.trans (HBe.out.mono hws)).setCell (by simp) _).setCell (by simp) _).setCell (by simp) _)
      case measure => simp [intOf]; omega
    · obtain rfl : k = xs.length := by omega
      have HM : MadeO OCod.modr 43 w wr (.slice (some ⟨w.heap.size, 0, none⟩) xs.length xs.length) xs := ⟨HP.own HB (Nat.le_refl _) (Nat.le_refl _) (by unfold maxLen; omega), hb⟩
      clear hmk HB HP
      go_wp2
      go_ret
      exact ⟨_, _, rfl, HM⟩
end Go.Proofs.YthkdkefkgmmoiaaDoor
