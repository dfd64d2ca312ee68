/- The functions that reckon sizes, at instructions, functions and modules. -/
import Derived.Test.YtgfpncpphpkahaaDoorGd
import Derived.Test.YtgfpncpphpkahaaDoorSzk
namespace Go.Proofs.YtgfpncpphpkahaaDoor
open Go.RowKit


/-- What a row's size is, copies, compares, marks and holds: as facts about one Go function. -/
def SzRow {α : Type} (c : Cod α) (f : FuncId) (g : List α → Int → Int) : Prop := ∀ (F : Nat → Prop) (v : Value) (xs : List α) (left : Int) (w : World), c.Sl F w v xs → (∀ b, F b → b < w.heap.size) → 0 ≤ left → left ≤ 2000000 →
    Calls Tryd.prog f #[v, .int .i64 left] w fun e w' => e = .returned (.int .i64 (g xs left)) ∧ Below w.heap.size w w'
theorem sz_str : SzRow Cod.str 98 (szS szB) := fun F v xs left w h _ h0 h1 => (szStringS_any F v xs left w h h0 h1).mono fun _ _ hh => ⟨hh.1, hh.2 ▸ Below.refl _ _⟩
theorem sz_i64 : SzRow Cod.i64 47 szI := fun F v xs left w h _ h0 h1 => (szIntS_any F v xs left w h h0 h1).mono fun _ _ hh => ⟨hh.1, hh.2 ▸ Below.refl _ _⟩
theorem sz_rec : SzRow Cod.rec_ 45 (szS szRec) := fun F v xs left w h hF h0 h1 => szRecordS_any F v xs left w h hF h0 h1
def szThen (a : Int) (f : Int → Int) : Int := if a < 0 then -1 else f a
theorem szThen_neg {a : Int} {f : Int → Int} (h : a < 0) : szThen a f = -1 := by unfold szThen; rw [if_pos h]
theorem szThen_go {a : Int} {f : Int → Int} (h : ¬ a < 0) : szThen a f = f a := by unfold szThen; rw [if_neg h]
theorem szThen_le {a l : Int} {f : Int → Int} (h0 : 0 ≤ l) (h1 : a ≤ l) (h2 : ∀ b, 0 ≤ b → b ≤ l → f b ≤ l) : szThen a f ≤ l := by
  unfold szThen
  split
  · omega
  · exact h2 a (by omega) h1
theorem szThen_pos {a : Int} {f : Int → Int} (h : 0 ≤ szThen a f) : 0 ≤ a ∧ 0 ≤ f a := by
  unfold szThen at h
  split at h
  · omega
  · exact ⟨by omega, h⟩

theorem szI_len {xs : List Int} {l : Int} (h : 0 ≤ szI xs l) : (xs.length : Int) ≤ l := by
  unfold szI at h
  split at h <;> omega
def SmolRec (r : Rec) : Prop := r.fields.length ≤ 2000000
theorem smol_rec {r : Rec} {l : Int} (_ : 0 ≤ l) (h1 : l ≤ 2000000) (h : 0 ≤ szRec r l) : SmolRec r := by
  unfold szRec at h
  split at h
  · omega
  · obtain ⟨h5, _⟩ := szS_len szB_le h
    unfold SmolRec
    omega

def szInsr (x : InsR) (l : Int) : Int := szThen (l - x.op.size) fun l0 => l0
theorem szInsr_le (x : InsR) (l : Int) (h : 0 ≤ l) : szInsr x l ≤ l := by
  unfold szInsr
  refine szThen_le h (by omega) fun l0 p0 q0 => ?_
  omega
def SmolInsr (x : InsR) : Prop := True
theorem smol_insr {x : InsR} {l : Int} (h0 : 0 ≤ l) (h1 : l ≤ 2000000) (h : 0 ≤ szInsr x l) : SmolInsr x := by
  trivial

set_option maxRecDepth 100000 in
set_option maxHeartbeats 1000000 in
theorem szInsr_one (F : Nat → Prop) (x : InsR) (left : Int) (w : World) (h : InsRd F w  x) (hF : ∀ b, F b → b < w.heap.size) (h0 : 0 ≤ left) (h1 : left ≤ 2000000) :
    Calls Tryd.prog 115 #[.agg #[.string x.op, .int .i64 x.a, .int .i64 x.b], .int .i64 left] w fun e w' => e = .returned (.int .i64 (szInsr x left)) ∧ Below w.heap.size w w' := by
  obtain ⟨w0, hw0⟩ : ∃ w0, w0 = w.alloc (.cells #[.string x.op, .int .i64 x.a, .int .i64 x.b] 169) := ⟨_, rfl⟩
  have HB0 := Lib.hid (show Blk w0 w.heap.size 169 #[.string x.op, .int .i64 x.a, .int .i64 x.b] by rw [hw0]; exact Blk.new _ _ _)
  have HW0 := Lib.hid (show Below w.heap.size w w0 by rw [hw0]; exact (Below.refl _ _).alloc (Nat.le_refl _) _)
  have hs0 : w0.heap.size = w.heap.size + 1 := by rw [hw0]; simp
  have HV0 := Lib.hid (h.keep (w' := w0) fun b hb => HW0.out.block b (hF b hb))
  have HF0 := Lib.hid (show ∀ b, F b → b < w0.heap.size from fun b hb => by have := hF b hb; omega)
  have Hw0 := Lib.hid hw0
  have Hs0 := Lib.hid hs0
  have hm0 := h.op
  unfold maxLen at hm0
  clear h hw0 hs0 hF
  go_enter Tryd.func115, Tryd.ntmps115
  by_cases hn0 : left - x.op.size < 0
  · have HR : Hid (szInsr x left = -1) := by show _ = _; unfold szInsr; rw [szThen_neg hn0]
    go_wp2
    go_ret
    exact ⟨ret_int HR.out.symm, by have := HW0.out; rw [Hw0.out] at this; exact this⟩
  · have p0 := hn0
    have HR : Hid (szInsr x left = (left - x.op.size)) := by show _ = _; unfold szInsr; rw [szThen_go p0]
    go_wp2
    go_ret
    exact ⟨ret_int HR.out.symm, by have := HW0.out; rw [Hw0.out] at this; exact this⟩

set_option maxRecDepth 100000 in
set_option maxHeartbeats 1000000 in
theorem sz_insr : SzRow Cod.insr 99 (szS szInsr) := by
  intro F v xs left w h hF h0 h1
  have HS := Lib.hid h
  obtain ⟨A, cap, rfl, hlc, hcm, _⟩ := h
  unfold maxLen at hcm
  by_cases ht : left - xs.length < 0
  · go_enter Tryd.func99, Tryd.ntmps99
    go_wp2
    go_ret
    exact ⟨ret_int (szS_neg _ _ _ ht).symm, Below.refl _ _⟩
  · have HF := Lib.hid (szS_go szInsr xs left ht)
    go_enter Tryd.func99, Tryd.ntmps99
    go_wp2
    go_loopw [1, 5] (fun l i wr => ∃ (k : Nat) (n : Int), k ≤ xs.length ∧ i = .int .i64 k ∧ l = .int .i64 n ∧ 0 ≤ n ∧ n ≤ 2000000 ∧ Hid (szList szInsr (xs.drop k) n = szS szInsr xs left) ∧ Below w.heap.size w wr) (fun _ i _ => xs.length - (intOf i).toNat)
    case atStart => exact ⟨0, _, Nat.zero_le _, rfl, rfl, by omega, by omega, HF.out, Below.refl _ _⟩
    case round =>
      obtain ⟨k, n, hk, rfl, rfl, hn0, hn1, HH, hb⟩ := hrel
      by_cases hlt : k < xs.length
      · have HSr := Lib.hid (HS.out.keep (below_keeps hb hF))
        obtain ⟨b, off, cap', hv, hFb, _, _, hc0, hc1, hc2, hV⟩ := HSr.out.insr_at hlt
        obtain ⟨rfl, rfl⟩ : A = some ⟨b, off, none⟩ ∧ cap = cap' := by simpa using hv
        have hle := szInsr_le xs[k] n hn0
        have hsz := hb.size
        have HC := Lib.hid (szInsr_one F xs[k] n wr hV (fun b hb' => Nat.lt_of_lt_of_le (hF b hb') hsz) hn0 hn1)
        clear hv hV
        by_cases hneg : szInsr xs[k] n < 0
        · go_wp2_with (go_at_call 115; refine HC.out.mono ?_; rintro e w' ⟨rfl, hb1⟩)
          go_ret
          exact ⟨ret_int (szList_stop hlt HH.out hneg), hb.trans (hb1.mono hsz)⟩
        · go_wp2_with (go_at_call 115; refine HC.out.mono ?_; rintro e w' ⟨rfl, hb1⟩)
          go_roundw
          case rel => exact ⟨k + 1, _, by omega, by go_num, rfl, by omega, by omega, szList_step hlt HH.out (by omega), hb.trans (hb1.mono hsz)⟩
          case measure => simp [intOf]; omega
      · go_wp2
        go_ret
        exact ⟨ret_int (szList_end (by omega) HH.out), hb⟩

def szFunr (x : FunR) (l : Int) : Int := szThen (szS szB x.args l) fun l0 => szThen (szS szB x.rets l0) fun l1 => szThen (szS szB x.locals l1) fun l2 => szThen (szI x.takes l2) fun l3 => szThen (szS szInsr x.code l3) fun l4 => l4
theorem szFunr_le (x : FunR) (l : Int) (h : 0 ≤ l) : szFunr x l ≤ l := by
  unfold szFunr
  refine szThen_le h (by have := szS_le szB_le x.args l (by omega); omega) fun l0 p0 q0 => ?_
  refine szThen_le h (by have := szS_le szB_le x.rets l0 (by omega); omega) fun l1 p1 q1 => ?_
  refine szThen_le h (by have := szS_le szB_le x.locals l1 (by omega); omega) fun l2 p2 q2 => ?_
  refine szThen_le h (by have := szI_le x.takes l2 (by omega); omega) fun l3 p3 q3 => ?_
  refine szThen_le h (by have := szS_le szInsr_le x.code l3 (by omega); omega) fun l4 p4 q4 => ?_
  omega
def SmolFunr (x : FunR) : Prop := x.args.length ≤ 2000000 ∧ x.rets.length ≤ 2000000 ∧ x.locals.length ≤ 2000000 ∧ x.takes.length ≤ 2000000 ∧ x.code.length ≤ 2000000 ∧ (∀ y ∈ x.code, SmolInsr y)
theorem smol_funr {x : FunR} {l : Int} (h0 : 0 ≤ l) (h1 : l ≤ 2000000) (h : 0 ≤ szFunr x l) : SmolFunr x := by
  unfold szFunr at h
  obtain ⟨g0, h0'⟩ := szThen_pos h
  have le0 := szS_le szB_le x.args l (by omega)
  obtain ⟨n0, a0⟩ := szS_len (szB_le) g0
  obtain ⟨l0, e0⟩ : ∃ l0, l0 = szS szB x.args l := ⟨_, rfl⟩
  rw [← e0] at g0 h0' le0
  obtain ⟨g1, h1'⟩ := szThen_pos h0'
  have le1 := szS_le szB_le x.rets l0 (by omega)
  obtain ⟨n1, a1⟩ := szS_len (szB_le) g1
  obtain ⟨l1, e1⟩ : ∃ l1, l1 = szS szB x.rets l0 := ⟨_, rfl⟩
  rw [← e1] at g1 h1' le1
  obtain ⟨g2, h2'⟩ := szThen_pos h1'
  have le2 := szS_le szB_le x.locals l1 (by omega)
  obtain ⟨n2, a2⟩ := szS_len (szB_le) g2
  obtain ⟨l2, e2⟩ : ∃ l2, l2 = szS szB x.locals l1 := ⟨_, rfl⟩
  rw [← e2] at g2 h2' le2
  obtain ⟨g3, h3'⟩ := szThen_pos h2'
  have le3 := szI_le x.takes l2 (by omega)
  have n3 := szI_len g3
  obtain ⟨l3, e3⟩ : ∃ l3, l3 = szI x.takes l2 := ⟨_, rfl⟩
  rw [← e3] at g3 h3' le3
  obtain ⟨g4, h4'⟩ := szThen_pos h3'
  have le4 := szS_le szInsr_le x.code l3 (by omega)
  obtain ⟨n4, a4⟩ := szS_len (szInsr_le) g4
  obtain ⟨l4, e4⟩ : ∃ l4, l4 = szS szInsr x.code l3 := ⟨_, rfl⟩
  rw [← e4] at g4 h4' le4
  exact ⟨by omega, by omega, by omega, by omega, by omega, fun y hy => by obtain ⟨l', z0, z1, z2⟩ := a4 y hy; exact smol_insr z0 (by omega) z2⟩

set_option maxRecDepth 100000 in
set_option maxHeartbeats 1000000 in
theorem szFunr_one (F : Nat → Prop) (A1 A2 A3 A4 A5 : Option Addr) (n1 c1 n2 c2 n3 c3 n4 c4 n5 c5 : Nat) (x : FunR) (left : Int) (w : World) (h : FunRd F w (.slice A1 n1 c1) (.slice A2 n2 c2) (.slice A3 n3 c3) (.slice A4 n4 c4) (.slice A5 n5 c5) x) (hF : ∀ b, F b → b < w.heap.size) (h0 : 0 ≤ left) (h1 : left ≤ 2000000) :
    Calls Tryd.prog 84 #[.agg #[.int .i64 x.seen, .slice A1 n1 c1, .slice A2 n2 c2, .slice A3 n3 c3, .slice A4 n4 c4, .slice A5 n5 c5], .int .i64 left] w fun e w' => e = .returned (.int .i64 (szFunr x left)) ∧ Below w.heap.size w w' := by
  obtain ⟨w0, hw0⟩ : ∃ w0, w0 = w.alloc (.cells #[.int .i64 x.seen, .slice A1 n1 c1, .slice A2 n2 c2, .slice A3 n3 c3, .slice A4 n4 c4, .slice A5 n5 c5] 138) := ⟨_, rfl⟩
  have HB0 := Lib.hid (show Blk w0 w.heap.size 138 #[.int .i64 x.seen, .slice A1 n1 c1, .slice A2 n2 c2, .slice A3 n3 c3, .slice A4 n4 c4, .slice A5 n5 c5] by rw [hw0]; exact Blk.new _ _ _)
  have HW0 := Lib.hid (show Below w.heap.size w w0 by rw [hw0]; exact (Below.refl _ _).alloc (Nat.le_refl _) _)
  have hs0 : w0.heap.size = w.heap.size + 1 := by rw [hw0]; simp
  have HV0 := Lib.hid (h.keep (w' := w0) fun b hb => HW0.out.block b (hF b hb))
  have HF0 := Lib.hid (show ∀ b, F b → b < w0.heap.size from fun b hb => by have := hF b hb; omega)
  have Hw0 := Lib.hid hw0
  have Hs0 := Lib.hid hs0
  clear h hw0 hs0 hF
  go_enter Tryd.func84, Tryd.ntmps84
  go_wp2_with fail
  rw [← Hw0.out]
  refine (sz_str F _ x.args left _ HV0.out.args HF0.out (by omega) (by omega)).mono ?_
  rintro e w1 ⟨rfl, hb1⟩
  have HE1 := Lib.hid (hb1)
  clear hb1
  have hle0 := szS_le szB_le x.args left (by omega)
  obtain ⟨s0, hs0⟩ : ∃ s, s = szS szB x.args left := ⟨_, rfl⟩
  rw [← hs0] at hle0 ⊢
  have HQ0 := Lib.hid hs0
  clear hs0
  by_cases hn0 : s0 < 0
  · have HR : Hid (szFunr x left = -1) := by show _ = _; unfold szFunr; rw [← HQ0.out, szThen_neg hn0]
    go_wp2
    go_ret
    exact ⟨ret_int HR.out.symm, HW0.out.trans (HE1.out.mono (by have := Hs0.out; omega))⟩
  · have HP0 := Lib.hid hn0
    obtain ⟨z0_0, z0_1, z0_2, z0_3, z0_4, z0_5⟩ := (HB0.out.below HE1.out (by have := Hs0.out; omega)).g6
    have HV1 := Lib.hid (HV0.out.keep (below_keeps HE1.out HF0.out))
    have HF1 := Lib.hid (show ∀ b, F b → b < w1.heap.size from fun b hb => Nat.lt_of_lt_of_le (HF0.out b hb) HE1.out.size)
    go_wp2_with fail
    refine (sz_str F _ x.rets s0 _ (HV1.out.rets) HF1.out (by omega) (by omega)).mono ?_
    rintro e w2 ⟨rfl, hb2⟩
    have HE2 := Lib.hid (HE1.out.trans (hb2.mono HE1.out.size))
    clear hb2
    have hle1 := szS_le szB_le x.rets s0 (by omega)
    obtain ⟨s1, hs1⟩ : ∃ s, s = szS szB x.rets s0 := ⟨_, rfl⟩
    rw [← hs1] at hle1 ⊢
    have HQ1 := Lib.hid hs1
    clear hs1
    by_cases hn1 : s1 < 0
    · have HR : Hid (szFunr x left = -1) := by show _ = _; unfold szFunr; rw [← HQ0.out, szThen_go (by have := HP0.out; omega), ← HQ1.out, szThen_neg hn1]
      go_wp2
      go_ret
      exact ⟨ret_int HR.out.symm, HW0.out.trans (HE2.out.mono (by have := Hs0.out; omega))⟩
    · have HP1 := Lib.hid hn1
      obtain ⟨z1_0, z1_1, z1_2, z1_3, z1_4, z1_5⟩ := (HB0.out.below HE2.out (by have := Hs0.out; omega)).g6
      have HV2 := Lib.hid (HV0.out.keep (below_keeps HE2.out HF0.out))
      have HF2 := Lib.hid (show ∀ b, F b → b < w2.heap.size from fun b hb => Nat.lt_of_lt_of_le (HF0.out b hb) HE2.out.size)
      go_wp2_with fail
      refine (sz_str F _ x.locals s1 _ (HV2.out.locals) HF2.out (by omega) (by omega)).mono ?_
      rintro e w3 ⟨rfl, hb3⟩
      have HE3 := Lib.hid (HE2.out.trans (hb3.mono HE2.out.size))
      clear hb3
      have hle2 := szS_le szB_le x.locals s1 (by omega)
      obtain ⟨s2, hs2⟩ : ∃ s, s = szS szB x.locals s1 := ⟨_, rfl⟩
      rw [← hs2] at hle2 ⊢
      have HQ2 := Lib.hid hs2
      clear hs2
      by_cases hn2 : s2 < 0
      · have HR : Hid (szFunr x left = -1) := by show _ = _; unfold szFunr; rw [← HQ0.out, szThen_go (by have := HP0.out; omega), ← HQ1.out, szThen_go (by have := HP1.out; omega), ← HQ2.out, szThen_neg hn2]
        go_wp2
        go_ret
        exact ⟨ret_int HR.out.symm, HW0.out.trans (HE3.out.mono (by have := Hs0.out; omega))⟩
      · have HP2 := Lib.hid hn2
        obtain ⟨z2_0, z2_1, z2_2, z2_3, z2_4, z2_5⟩ := (HB0.out.below HE3.out (by have := Hs0.out; omega)).g6
        have HV3 := Lib.hid (HV0.out.keep (below_keeps HE3.out HF0.out))
        have HF3 := Lib.hid (show ∀ b, F b → b < w3.heap.size from fun b hb => Nat.lt_of_lt_of_le (HF0.out b hb) HE3.out.size)
        go_wp2_with fail
        refine (sz_i64 F _ x.takes s2 _ (HV3.out.takes) HF3.out (by omega) (by omega)).mono ?_
        rintro e w4 ⟨rfl, hb4⟩
        have HE4 := Lib.hid (HE3.out.trans (hb4.mono HE3.out.size))
        clear hb4
        have hle3 := szI_le x.takes s2 (by omega)
        obtain ⟨s3, hs3⟩ : ∃ s, s = szI x.takes s2 := ⟨_, rfl⟩
        rw [← hs3] at hle3 ⊢
        have HQ3 := Lib.hid hs3
        clear hs3
        by_cases hn3 : s3 < 0
        · have HR : Hid (szFunr x left = -1) := by show _ = _; unfold szFunr; rw [← HQ0.out, szThen_go (by have := HP0.out; omega), ← HQ1.out, szThen_go (by have := HP1.out; omega), ← HQ2.out, szThen_go (by have := HP2.out; omega), ← HQ3.out, szThen_neg hn3]
          go_wp2
          go_ret
          exact ⟨ret_int HR.out.symm, HW0.out.trans (HE4.out.mono (by have := Hs0.out; omega))⟩
        · have HP3 := Lib.hid hn3
          obtain ⟨z3_0, z3_1, z3_2, z3_3, z3_4, z3_5⟩ := (HB0.out.below HE4.out (by have := Hs0.out; omega)).g6
          have HV4 := Lib.hid (HV0.out.keep (below_keeps HE4.out HF0.out))
          have HF4 := Lib.hid (show ∀ b, F b → b < w4.heap.size from fun b hb => Nat.lt_of_lt_of_le (HF0.out b hb) HE4.out.size)
          go_wp2_with fail
          refine (sz_insr F _ x.code s3 _ (HV4.out.code) HF4.out (by omega) (by omega)).mono ?_
          rintro e w5 ⟨rfl, hb5⟩
          have HE5 := Lib.hid (HE4.out.trans (hb5.mono HE4.out.size))
          clear hb5
          have hle4 := szS_le szInsr_le x.code s3 (by omega)
          obtain ⟨s4, hs4⟩ : ∃ s, s = szS szInsr x.code s3 := ⟨_, rfl⟩
          rw [← hs4] at hle4 ⊢
          have HQ4 := Lib.hid hs4
          clear hs4
          by_cases hn4 : s4 < 0
          · have HR : Hid (szFunr x left = -1) := by show _ = _; unfold szFunr; rw [← HQ0.out, szThen_go (by have := HP0.out; omega), ← HQ1.out, szThen_go (by have := HP1.out; omega), ← HQ2.out, szThen_go (by have := HP2.out; omega), ← HQ3.out, szThen_go (by have := HP3.out; omega), ← HQ4.out, szThen_neg hn4]
            go_wp2
            go_ret
            exact ⟨ret_int HR.out.symm, HW0.out.trans (HE5.out.mono (by have := Hs0.out; omega))⟩
          · have HP4 := Lib.hid hn4
            have HR : Hid (szFunr x left = s4) := by show _ = _; unfold szFunr; rw [← HQ0.out, szThen_go (by have := HP0.out; omega), ← HQ1.out, szThen_go (by have := HP1.out; omega), ← HQ2.out, szThen_go (by have := HP2.out; omega), ← HQ3.out, szThen_go (by have := HP3.out; omega), ← HQ4.out, szThen_go (by have := HP4.out; omega)]
            go_wp2
            go_ret
            exact ⟨ret_int HR.out.symm, HW0.out.trans (HE5.out.mono (by have := Hs0.out; omega))⟩

set_option maxRecDepth 100000 in
set_option maxHeartbeats 1000000 in
theorem sz_funr : SzRow Cod.funr 46 (szS szFunr) := by
  intro F v xs left w h hF h0 h1
  have HS := Lib.hid h
  obtain ⟨A, cap, rfl, hlc, hcm, _⟩ := h
  unfold maxLen at hcm
  by_cases ht : left - xs.length < 0
  · go_enter Tryd.func46, Tryd.ntmps46
    go_wp2
    go_ret
    exact ⟨ret_int (szS_neg _ _ _ ht).symm, Below.refl _ _⟩
  · have HF := Lib.hid (szS_go szFunr xs left ht)
    go_enter Tryd.func46, Tryd.ntmps46
    go_wp2
    go_loopw [1, 5] (fun l i wr => ∃ (k : Nat) (n : Int), k ≤ xs.length ∧ i = .int .i64 k ∧ l = .int .i64 n ∧ 0 ≤ n ∧ n ≤ 2000000 ∧ Hid (szList szFunr (xs.drop k) n = szS szFunr xs left) ∧ Below w.heap.size w wr) (fun _ i _ => xs.length - (intOf i).toNat)
    case atStart => exact ⟨0, _, Nat.zero_le _, rfl, rfl, by omega, by omega, HF.out, Below.refl _ _⟩
    case round =>
      obtain ⟨k, n, hk, rfl, rfl, hn0, hn1, HH, hb⟩ := hrel
      by_cases hlt : k < xs.length
      · have HSr := Lib.hid (HS.out.keep (below_keeps hb hF))
        obtain ⟨b, off, cap', A1, c1, A2, c2, A3, c3, A4, c4, A5, c5, hv, hFb, _, _, hc0, hc1, hc2, hc3, hc4, hc5, hV⟩ := HSr.out.funr_at hlt
        obtain ⟨rfl, rfl⟩ : A = some ⟨b, off, none⟩ ∧ cap = cap' := by simpa using hv
        have hle := szFunr_le xs[k] n hn0
        have hsz := hb.size
        have HC := Lib.hid (szFunr_one F _ _ _ _ _ _ _ _ _ _ _ _ _ _ _ xs[k] n wr hV (fun b hb' => Nat.lt_of_lt_of_le (hF b hb') hsz) hn0 hn1)
        clear hv hV
        by_cases hneg : szFunr xs[k] n < 0
        · go_wp2_with (go_at_call 84; refine HC.out.mono ?_; rintro e w' ⟨rfl, hb1⟩)
          go_ret
          exact ⟨ret_int (szList_stop hlt HH.out hneg), hb.trans (hb1.mono hsz)⟩
        · go_wp2_with (go_at_call 84; refine HC.out.mono ?_; rintro e w' ⟨rfl, hb1⟩)
          go_roundw
          case rel => exact ⟨k + 1, _, by omega, by go_num, rfl, by omega, by omega, szList_step hlt HH.out (by omega), hb.trans (hb1.mono hsz)⟩
          case measure => simp [intOf]; omega
      · go_wp2
        go_ret
        exact ⟨ret_int (szList_end (by omega) HH.out), hb⟩

def szModr (x : ModR) (l : Int) : Int := szThen (szS szRec x.records l) fun l0 => szThen (szS szFunr x.funcs l0) fun l1 => szThen (szI x.friends l1) fun l2 => l2
theorem szModr_le (x : ModR) (l : Int) (h : 0 ≤ l) : szModr x l ≤ l := by
  unfold szModr
  refine szThen_le h (by have := szS_le szRec_le x.records l (by omega); omega) fun l0 p0 q0 => ?_
  refine szThen_le h (by have := szS_le szFunr_le x.funcs l0 (by omega); omega) fun l1 p1 q1 => ?_
  refine szThen_le h (by have := szI_le x.friends l1 (by omega); omega) fun l2 p2 q2 => ?_
  omega
def SmolModr (x : ModR) : Prop := x.records.length ≤ 2000000 ∧ x.funcs.length ≤ 2000000 ∧ x.friends.length ≤ 2000000 ∧ (∀ y ∈ x.records, SmolRec y) ∧ (∀ y ∈ x.funcs, SmolFunr y)
theorem smol_modr {x : ModR} {l : Int} (h0 : 0 ≤ l) (h1 : l ≤ 2000000) (h : 0 ≤ szModr x l) : SmolModr x := by
  unfold szModr at h
  obtain ⟨g0, h0'⟩ := szThen_pos h
  have le0 := szS_le szRec_le x.records l (by omega)
  obtain ⟨n0, a0⟩ := szS_len (szRec_le) g0
  obtain ⟨l0, e0⟩ : ∃ l0, l0 = szS szRec x.records l := ⟨_, rfl⟩
  rw [← e0] at g0 h0' le0
  obtain ⟨g1, h1'⟩ := szThen_pos h0'
  have le1 := szS_le szFunr_le x.funcs l0 (by omega)
  obtain ⟨n1, a1⟩ := szS_len (szFunr_le) g1
  obtain ⟨l1, e1⟩ : ∃ l1, l1 = szS szFunr x.funcs l0 := ⟨_, rfl⟩
  rw [← e1] at g1 h1' le1
  obtain ⟨g2, h2'⟩ := szThen_pos h1'
  have le2 := szI_le x.friends l1 (by omega)
  have n2 := szI_len g2
  obtain ⟨l2, e2⟩ : ∃ l2, l2 = szI x.friends l1 := ⟨_, rfl⟩
  rw [← e2] at g2 h2' le2
  exact ⟨by omega, by omega, by omega, fun y hy => by obtain ⟨l', z0, z1, z2⟩ := a0 y hy; exact smol_rec z0 (by omega) z2, fun y hy => by obtain ⟨l', z0, z1, z2⟩ := a1 y hy; exact smol_funr z0 (by omega) z2⟩

set_option maxRecDepth 100000 in
set_option maxHeartbeats 1000000 in
theorem szModr_one (F : Nat → Prop) (A0 A1 A2 : Option Addr) (n0 c0 n1 c1 n2 c2 : Nat) (x : ModR) (left : Int) (w : World) (h : ModRd F w (.slice A0 n0 c0) (.slice A1 n1 c1) (.slice A2 n2 c2) x) (hF : ∀ b, F b → b < w.heap.size) (h0 : 0 ≤ left) (h1 : left ≤ 2000000) :
    Calls Tryd.prog 21 #[.agg #[.slice A0 n0 c0, .slice A1 n1 c1, .slice A2 n2 c2], .int .i64 left] w fun e w' => e = .returned (.int .i64 (szModr x left)) ∧ Below w.heap.size w w' := by
  obtain ⟨w0, hw0⟩ : ∃ w0, w0 = w.alloc (.cells #[.slice A0 n0 c0, .slice A1 n1 c1, .slice A2 n2 c2] 49) := ⟨_, rfl⟩
  have HB0 := Lib.hid (show Blk w0 w.heap.size 49 #[.slice A0 n0 c0, .slice A1 n1 c1, .slice A2 n2 c2] by rw [hw0]; exact Blk.new _ _ _)
  have HW0 := Lib.hid (show Below w.heap.size w w0 by rw [hw0]; exact (Below.refl _ _).alloc (Nat.le_refl _) _)
  have hs0 : w0.heap.size = w.heap.size + 1 := by rw [hw0]; simp
  have HV0 := Lib.hid (h.keep (w' := w0) fun b hb => HW0.out.block b (hF b hb))
  have HF0 := Lib.hid (show ∀ b, F b → b < w0.heap.size from fun b hb => by have := hF b hb; omega)
  have Hw0 := Lib.hid hw0
  have Hs0 := Lib.hid hs0
  clear h hw0 hs0 hF
  go_enter Tryd.func21, Tryd.ntmps21
  go_wp2_with fail
  rw [← Hw0.out]
  refine (sz_rec F _ x.records left _ HV0.out.records HF0.out (by omega) (by omega)).mono ?_
  rintro e w1 ⟨rfl, hb1⟩
  have HE1 := Lib.hid (hb1)
  clear hb1
  have hle0 := szS_le szRec_le x.records left (by omega)
  obtain ⟨s0, hs0⟩ : ∃ s, s = szS szRec x.records left := ⟨_, rfl⟩
  rw [← hs0] at hle0 ⊢
  have HQ0 := Lib.hid hs0
  clear hs0
  by_cases hn0 : s0 < 0
  · have HR : Hid (szModr x left = -1) := by show _ = _; unfold szModr; rw [← HQ0.out, szThen_neg hn0]
    go_wp2
    go_ret
    exact ⟨ret_int HR.out.symm, HW0.out.trans (HE1.out.mono (by have := Hs0.out; omega))⟩
  · have HP0 := Lib.hid hn0
    obtain ⟨z0_0, z0_1, z0_2⟩ := (HB0.out.below HE1.out (by have := Hs0.out; omega)).g3
    have HV1 := Lib.hid (HV0.out.keep (below_keeps HE1.out HF0.out))
    have HF1 := Lib.hid (show ∀ b, F b → b < w1.heap.size from fun b hb => Nat.lt_of_lt_of_le (HF0.out b hb) HE1.out.size)
    go_wp2_with fail
    refine (sz_funr F _ x.funcs s0 _ (HV1.out.funcs) HF1.out (by omega) (by omega)).mono ?_
    rintro e w2 ⟨rfl, hb2⟩
    have HE2 := Lib.hid (HE1.out.trans (hb2.mono HE1.out.size))
    clear hb2
    have hle1 := szS_le szFunr_le x.funcs s0 (by omega)
    obtain ⟨s1, hs1⟩ : ∃ s, s = szS szFunr x.funcs s0 := ⟨_, rfl⟩
    rw [← hs1] at hle1 ⊢
    have HQ1 := Lib.hid hs1
    clear hs1
    by_cases hn1 : s1 < 0
    · have HR : Hid (szModr x left = -1) := by show _ = _; unfold szModr; rw [← HQ0.out, szThen_go (by have := HP0.out; omega), ← HQ1.out, szThen_neg hn1]
      go_wp2
      go_ret
      exact ⟨ret_int HR.out.symm, HW0.out.trans (HE2.out.mono (by have := Hs0.out; omega))⟩
    · have HP1 := Lib.hid hn1
      obtain ⟨z1_0, z1_1, z1_2⟩ := (HB0.out.below HE2.out (by have := Hs0.out; omega)).g3
      have HV2 := Lib.hid (HV0.out.keep (below_keeps HE2.out HF0.out))
      have HF2 := Lib.hid (show ∀ b, F b → b < w2.heap.size from fun b hb => Nat.lt_of_lt_of_le (HF0.out b hb) HE2.out.size)
      go_wp2_with fail
      refine (sz_i64 F _ x.friends s1 _ (HV2.out.friends) HF2.out (by omega) (by omega)).mono ?_
      rintro e w3 ⟨rfl, hb3⟩
      have HE3 := Lib.hid (HE2.out.trans (hb3.mono HE2.out.size))
      clear hb3
      have hle2 := szI_le x.friends s1 (by omega)
      obtain ⟨s2, hs2⟩ : ∃ s, s = szI x.friends s1 := ⟨_, rfl⟩
      rw [← hs2] at hle2 ⊢
      have HQ2 := Lib.hid hs2
      clear hs2
      by_cases hn2 : s2 < 0
      · have HR : Hid (szModr x left = -1) := by show _ = _; unfold szModr; rw [← HQ0.out, szThen_go (by have := HP0.out; omega), ← HQ1.out, szThen_go (by have := HP1.out; omega), ← HQ2.out, szThen_neg hn2]
        go_wp2
        go_ret
        exact ⟨ret_int HR.out.symm, HW0.out.trans (HE3.out.mono (by have := Hs0.out; omega))⟩
      · have HP2 := Lib.hid hn2
        have HR : Hid (szModr x left = s2) := by show _ = _; unfold szModr; rw [← HQ0.out, szThen_go (by have := HP0.out; omega), ← HQ1.out, szThen_go (by have := HP1.out; omega), ← HQ2.out, szThen_go (by have := HP2.out; omega)]
        go_wp2
        go_ret
        exact ⟨ret_int HR.out.symm, HW0.out.trans (HE3.out.mono (by have := Hs0.out; omega))⟩

set_option maxRecDepth 100000 in
set_option maxHeartbeats 1000000 in
theorem sz_modr : SzRow Cod.modr 6 (szS szModr) := by
  intro F v xs left w h hF h0 h1
  have HS := Lib.hid h
  obtain ⟨A, cap, rfl, hlc, hcm, _⟩ := h
  unfold maxLen at hcm
  by_cases ht : left - xs.length < 0
  · go_enter Tryd.func6, Tryd.ntmps6
    go_wp2
    go_ret
    exact ⟨ret_int (szS_neg _ _ _ ht).symm, Below.refl _ _⟩
  · have HF := Lib.hid (szS_go szModr xs left ht)
    go_enter Tryd.func6, Tryd.ntmps6
    go_wp2
    go_loopw [1, 5] (fun l i wr => ∃ (k : Nat) (n : Int), k ≤ xs.length ∧ i = .int .i64 k ∧ l = .int .i64 n ∧ 0 ≤ n ∧ n ≤ 2000000 ∧ Hid (szList szModr (xs.drop k) n = szS szModr xs left) ∧ Below w.heap.size w wr) (fun _ i _ => xs.length - (intOf i).toNat)
    case atStart => exact ⟨0, _, Nat.zero_le _, rfl, rfl, by omega, by omega, HF.out, Below.refl _ _⟩
    case round =>
      obtain ⟨k, n, hk, rfl, rfl, hn0, hn1, HH, hb⟩ := hrel
      by_cases hlt : k < xs.length
      · have HSr := Lib.hid (HS.out.keep (below_keeps hb hF))
        obtain ⟨b, off, cap', A0, c0, A1, c1, A2, c2, hv, hFb, _, _, hc0, hc1, hc2, hV⟩ := HSr.out.modr_at hlt
        obtain ⟨rfl, rfl⟩ : A = some ⟨b, off, none⟩ ∧ cap = cap' := by simpa using hv
        have hle := szModr_le xs[k] n hn0
        have hsz := hb.size
        have HC := Lib.hid (szModr_one F _ _ _ _ _ _ _ _ _ xs[k] n wr hV (fun b hb' => Nat.lt_of_lt_of_le (hF b hb') hsz) hn0 hn1)
        clear hv hV
        by_cases hneg : szModr xs[k] n < 0
        · go_wp2_with (go_at_call 21; refine HC.out.mono ?_; rintro e w' ⟨rfl, hb1⟩)
          go_ret
          exact ⟨ret_int (szList_stop hlt HH.out hneg), hb.trans (hb1.mono hsz)⟩
        · go_wp2_with (go_at_call 21; refine HC.out.mono ?_; rintro e w' ⟨rfl, hb1⟩)
          go_roundw
          case rel => exact ⟨k + 1, _, by omega, by go_num, rfl, by omega, by omega, szList_step hlt HH.out (by omega), hb.trans (hb1.mono hsz)⟩
          case measure => simp [intOf]; omega
      · go_wp2
        go_ret
        exact ⟨ret_int (szList_end (by omega) HH.out), hb⟩
end Go.Proofs.YtgfpncpphpkahaaDoor
