/- The functions that reckon sizes, at strings and records. What the size of kinds bounds. -/
import Derived.Test.YthkdkefkgmmoiaaDoorRows
import Derived.Test.YthkdkefkgmmoiaaDoorKit
import Derived.Test.YthkdkefkgmmoiaaDoorSp
namespace Go.Proofs.YthkdkefkgmmoiaaDoor
open Go.RowKit

def szList {α : Type} (f : α → Int → Int) : List α → Int → Int
  | [], l => l
  | x :: r, l => if f x l < 0 then -1 else szList f r (f x l)
def szS {α : Type} (f : α → Int → Int) (xs : List α) (l : Int) : Int := if l - xs.length < 0 then -1 else szList f xs (l - xs.length)
def szB (s : ByteArray) (l : Int) : Int := l - s.size
def szRec (r : Rec) (l : Int) : Int := if szS szB r.fields l < 0 then -1 else szS szB r.fields l

theorem szList_le {α : Type} {f : α → Int → Int} (hf : ∀ x l, 0 ≤ l → f x l ≤ l) : ∀ (xs : List α) (l : Int), 0 ≤ l → szList f xs l ≤ l
  | [], l, _ => Int.le_refl _
  | x :: r, l, h => by
    unfold szList
    split
    · omega
    · exact Int.le_trans (szList_le hf r _ (by omega)) (hf x l h)
theorem szS_le {α : Type} {f : α → Int → Int} (hf : ∀ x l, 0 ≤ l → f x l ≤ l) (xs : List α) (l : Int) (h : 0 ≤ l) : szS f xs l ≤ l := by
  unfold szS
  split
  · omega
  · have := szList_le hf xs (l - xs.length) (by omega); omega
theorem szB_le (s : ByteArray) (l : Int) (_ : 0 ≤ l) : szB s l ≤ l := by unfold szB; omega
theorem szRec_le (r : Rec) (l : Int) (h : 0 ≤ l) : szRec r l ≤ l := by
  unfold szRec
  split
  · omega
  · exact szS_le szB_le _ _ h

theorem szS_neg {α : Type} (f : α → Int → Int) (xs : List α) (l : Int) (h : l - xs.length < 0) : szS f xs l = -1 := by unfold szS; rw [if_pos h]
theorem szS_go {α : Type} (f : α → Int → Int) (xs : List α) (l : Int) (h : ¬ l - xs.length < 0) : szList f (xs.drop 0) (l - xs.length) = szS f xs l := by unfold szS; rw [if_neg h]; rfl
theorem szList_stop {α : Type} {f : α → Int → Int} {xs : List α} {k : Nat} {l R : Int} (hk : k < xs.length) (h : szList f (xs.drop k) l = R) (hn : f xs[k] l < 0) : -1 = R := by
  rw [drop_cons hk, szList, if_pos hn] at h; exact h
theorem szList_step {α : Type} {f : α → Int → Int} {xs : List α} {k : Nat} {l R : Int} (hk : k < xs.length) (h : szList f (xs.drop k) l = R) (hn : ¬ f xs[k] l < 0) : szList f (xs.drop (k + 1)) (f xs[k] l) = R := by
  rw [drop_cons hk, szList, if_neg hn] at h; exact h
theorem szList_end {α : Type} {f : α → Int → Int} {xs : List α} {k : Nat} {l R : Int} (hk : k = xs.length) (h : szList f (xs.drop k) l = R) : l = R := by
  rw [hk, List.drop_length] at h; exact h

set_option maxHeartbeats 400000 in
theorem szStringS_any (F : Nat → Prop) (v : Value) (xs : List ByteArray) (left : Int) (w : World) (h : Cod.str.Sl F w v xs) (h0 : 0 ≤ left) (h1 : left ≤ 2000000) :
    Calls Tryd.prog 53 #[v, .int .i64 left] w fun e w' => e = .returned (.int .i64 (szS szB xs left)) ∧ w = w' := by
  have HS := Lib.hid h
  obtain ⟨A, cap, rfl, hlc, hcm, _⟩ := h
  unfold maxLen at hcm
  by_cases ht : left - xs.length < 0
  · go_enter Tryd.func53, Tryd.ntmps53
    go_wp2
    go_ret
    exact ⟨ret_int (szS_neg _ _ _ ht).symm, rfl⟩
  · have HF := Lib.hid (szS_go szB xs left ht)
    go_enter Tryd.func53, Tryd.ntmps53
    go_wp2
    go_loop [1, 5] (fun l i => ∃ (k : Nat) (n : Int), k ≤ xs.length ∧ i = .int .i64 k ∧ l = .int .i64 n ∧ 0 ≤ n ∧ n ≤ 2000000 ∧ Hid (szList szB (xs.drop k) n = szS szB xs left)) (fun _ i => xs.length - (intOf i).toNat)
    case atStart => exact ⟨0, _, Nat.zero_le _, rfl, rfl, by omega, by omega, HF.out⟩
    case round =>
      obtain ⟨k, n, hk, rfl, rfl, hn0, hn1, HH⟩ := hrel
      by_cases hlt : k < xs.length
      · obtain ⟨b, off, cap', hv, _, _, _, hc0, hsz⟩ := HS.out.str_at hlt
        obtain ⟨rfl, rfl⟩ : A = some ⟨b, off, none⟩ ∧ cap = cap' := by simpa using hv
        unfold maxLen at hsz
        clear hv
        by_cases hneg : n - (xs[k]).size < 0
        · go_wp2
          go_ret
          exact ⟨ret_int (szList_stop hlt HH.out hneg), rfl⟩
        · go_wp2
          go_round
          case rel => exact ⟨k + 1, _, by omega, by go_num, rfl, by omega, by omega, szList_step hlt HH.out hneg⟩
          case measure => simp [intOf]; omega
      · go_wp2
        go_ret
        exact ⟨ret_int (szList_end (by omega) HH.out), rfl⟩

set_option maxHeartbeats 400000 in
theorem szRecord_any (F : Nat → Prop) (v : Value) (r : Rec) (left : Int) (w : World) (h : Cod.str.Sl F w v r.fields) (hF : ∀ b, F b → b < w.heap.size) (h0 : 0 ≤ left) (h1 : left ≤ 2000000) :
    Calls Tryd.prog 39 #[.agg #[.int .i64 r.able, v], .int .i64 left] w fun e w' => e = .returned (.int .i64 (szRec r left)) ∧ Below w.heap.size w w' := by
  have HS := Lib.hid h
  obtain ⟨A, cap, rfl, hlc, hcm, _⟩ := h
  unfold maxLen at hcm
  have hle := szS_le szB_le r.fields left h0
  by_cases hn : szS szB r.fields left < 0
  · have HR : Hid (szRec r left = -1) := by unfold szRec; rw [if_pos hn]; rfl
    go_enter Tryd.func39, Tryd.ntmps39
    go_wp2_with (go_at_call 53; refine (szStringS_any F _ r.fields left _ (HS.out.keep fun b hb => Below.heap_alloc w _ b (hF b hb)) h0 h1).mono ?_; rintro e w' ⟨rfl, rfl⟩)
    go_ret
    exact ⟨ret_int HR.out.symm, (Below.refl _ _).alloc (Nat.le_refl _) _⟩
  · have HR : Hid (szRec r left = szS szB r.fields left) := by unfold szRec; rw [if_neg hn]; rfl
    go_enter Tryd.func39, Tryd.ntmps39
    go_wp2_with (go_at_call 53; refine (szStringS_any F _ r.fields left _ (HS.out.keep fun b hb => Below.heap_alloc w _ b (hF b hb)) h0 h1).mono ?_; rintro e w' ⟨rfl, rfl⟩)
    go_ret
    exact ⟨ret_int HR.out.symm, (Below.refl _ _).alloc (Nat.le_refl _) _⟩

set_option maxHeartbeats 400000 in
theorem szRecordS_any (F : Nat → Prop) (v : Value) (xs : List Rec) (left : Int) (w : World) (h : Cod.rec_.Sl F w v xs) (hF : ∀ b, F b → b < w.heap.size) (h0 : 0 ≤ left) (h1 : left ≤ 2000000) :
    Calls Tryd.prog 20 #[v, .int .i64 left] w fun e w' => e = .returned (.int .i64 (szS szRec xs left)) ∧ Below w.heap.size w w' := by
  have HS := Lib.hid h
  obtain ⟨A, cap, rfl, hlc, hcm, _⟩ := h
  unfold maxLen at hcm
  by_cases ht : left - xs.length < 0
  · go_enter Tryd.func20, Tryd.ntmps20
    go_wp2
    go_ret
    exact ⟨ret_int (szS_neg _ _ _ ht).symm, Below.refl _ _⟩
  · have HF := Lib.hid (szS_go szRec xs left ht)
    go_enter Tryd.func20, Tryd.ntmps20
    go_wp2
    go_loopw [1, 5] (fun l i wr => ∃ (k : Nat) (n : Int), k ≤ xs.length ∧ i = .int .i64 k ∧ l = .int .i64 n ∧ 0 ≤ n ∧ n ≤ 2000000 ∧ Hid (szList szRec (xs.drop k) n = szS szRec xs left) ∧ Below w.heap.size w wr) (fun _ i _ => xs.length - (intOf i).toNat)
    case atStart => exact ⟨0, _, Nat.zero_le _, rfl, rfl, by omega, by omega, HF.out, Below.refl _ _⟩
    case round =>
      obtain ⟨k, n, hk, rfl, rfl, hn0, hn1, HH, hb⟩ := hrel
      by_cases hlt : k < xs.length
      · have HSr := Lib.hid (HS.out.keep (below_keeps hb hF))
        obtain ⟨b, off, cap', u, hv, hFb, _, _, hc0, hc1, _, hu⟩ := HSr.out.rec_at hlt
        obtain ⟨rfl, rfl⟩ : A = some ⟨b, off, none⟩ ∧ cap = cap' := by simpa using hv
        have hle := szRec_le xs[k] n hn0
        have hu' := Lib.hid hu
        have hsz := hb.size
        clear hv hu
        by_cases hneg : szRec xs[k] n < 0
        · go_wp2_with (go_at_call 39; refine (szRecord_any F _ xs[k] n _ hu'.out (fun b hb' => Nat.lt_of_lt_of_le (hF b hb') hsz) hn0 hn1).mono ?_; rintro e w' ⟨rfl, hb1⟩)
          go_ret
          exact ⟨ret_int (szList_stop hlt HH.out hneg), hb.trans (hb1.mono hsz)⟩
        · go_wp2_with (go_at_call 39; refine (szRecord_any F _ xs[k] n _ hu'.out (fun b hb' => Nat.lt_of_lt_of_le (hF b hb') hsz) hn0 hn1).mono ?_; rintro e w' ⟨rfl, hb1⟩)
          go_roundw
          case rel => exact ⟨k + 1, _, by omega, by go_num, rfl, by omega, by omega, szList_step hlt HH.out (by omega), hb.trans (hb1.mono hsz)⟩
          case measure => simp [intOf]; omega
      · go_wp2
        go_ret
        exact ⟨ret_int (szList_end (by omega) HH.out), hb⟩

end Go.Proofs.YthkdkefkgmmoiaaDoor

namespace Go.Proofs.YthkdkefkgmmoiaaDoor
open Go.RowKit

/-- What the sizes bound. -/
theorem szList_len {α : Type} {f : α → Int → Int} (hf : ∀ x l, 0 ≤ l → f x l ≤ l) : ∀ (xs : List α) (l : Int), 0 ≤ l → 0 ≤ szList f xs l → ∀ x ∈ xs, ∃ l', 0 ≤ l' ∧ l' ≤ l ∧ 0 ≤ f x l'
  | y :: r, l, h0, h, x, hx => by
    unfold szList at h
    split at h
    · omega
    · rename_i hn
      rcases List.mem_cons.1 hx with rfl | hx
      · exact ⟨l, h0, Int.le_refl _, by omega⟩
      · obtain ⟨l', h1, h2, h3⟩ := szList_len hf r (f y l) (by omega) h x hx
        exact ⟨l', h1, Int.le_trans h2 (hf y l h0), h3⟩
theorem szS_len {α : Type} {f : α → Int → Int} (hf : ∀ x l, 0 ≤ l → f x l ≤ l) {xs : List α} {l : Int} (h : 0 ≤ szS f xs l) : (xs.length : Int) ≤ l ∧ ∀ x ∈ xs, ∃ l', 0 ≤ l' ∧ l' ≤ l ∧ 0 ≤ f x l' := by
  unfold szS at h
  split at h
  · omega
  · rename_i hn
    refine ⟨by omega, fun x hx => ?_⟩
    obtain ⟨l', h1, h2, h3⟩ := szList_len hf xs _ (by omega) h x hx
    exact ⟨l', h1, by omega, h3⟩
theorem sz_kinds {ks : Ks} (h : 0 ≤ szS (szS szRec) ks 1048576) : ks.length ≤ 2000000 ∧ ∀ rs ∈ ks, rs.length ≤ 2000000 ∧ ∀ r ∈ rs, r.fields.length ≤ 2000000 := by
  obtain ⟨h1, h2⟩ := szS_len (szS_le szRec_le) h
  refine ⟨by omega, fun rs hrs => ?_⟩
  obtain ⟨l, l0, l1, hl⟩ := h2 rs hrs
  obtain ⟨h3, h4⟩ := szS_len szRec_le hl
  refine ⟨by omega, fun r hr => ?_⟩
  obtain ⟨m, m0, m1, hm⟩ := h4 r hr
  have hr : 0 ≤ szS szB r.fields m := by unfold szRec at hm; split at hm <;> omega
  obtain ⟨h5, _⟩ := szS_len szB_le hr
  omega

end Go.Proofs.YthkdkefkgmmoiaaDoor
