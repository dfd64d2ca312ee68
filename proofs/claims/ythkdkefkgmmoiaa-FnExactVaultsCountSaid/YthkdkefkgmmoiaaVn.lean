/- Values: how many there are in one, and how many records of a kind, of the model and of the program. -/
import Derived.Test.YthkdkefkgmmoiaaVlk
namespace Go.Proofs.Ythkdkefkgmmoiaa
open Go.RowKit

def sumL (f : Val → Int) : List Val → Int
  | [] => 0
  | x :: r => f x + sumL f r
theorem sumL_pos {f : Val → Int} (hf : ∀ x, 0 ≤ f x) : ∀ xs, 0 ≤ sumL f xs
  | [] => Int.le_refl _
  | x :: r => by have := hf x; have := sumL_pos hf r; unfold sumL; omega
theorem sumL_step {f : Val → Int} {xs : List Val} {k : Nat} {n R : Int} (hk : k < xs.length) (h : n + sumL f (xs.drop k) = R) : n + f xs[k] + sumL f (xs.drop (k + 1)) = R := by
  rw [drop_cons hk, sumL] at h; omega
theorem sumL_end {f : Val → Int} {xs : List Val} {k : Nat} {n R : Int} (hk : k = xs.length) (h : n + sumL f (xs.drop k) = R) : n = R := by
  rw [hk, List.drop_length, sumL] at h; omega
theorem sumL_le {f g : Val → Int} (h : ∀ x, f x ≤ g x) : ∀ xs, sumL f xs ≤ sumL g xs
  | [] => Int.le_refl _
  | x :: r => by have := h x; have := sumL_le h r; unfold sumL; omega

/-- How many values, its parts counted by f, behind an own number s. -/
def sizeOf' (s : Val → Int) (f : Val → Int) (v : Val) : Int := s v + sumL f v.parts
def sizeV : Nat → Val → Int
  | 0 => fun _ => 0
  | d + 1 => sizeOf' (fun _ => 1) (sizeV d)
/-- 1 for a record of a kind. -/
def isK (kind : ByteArray) (v : Val) : Int := if (v.ty.toList == kind.toList) = true then 1 else 0
def cntV (kind : ByteArray) : Nat → Val → Int
  | 0 => fun _ => 0
  | d + 1 => sizeOf' (isK kind) (cntV kind d)
theorem isK_01 (kind : ByteArray) (v : Val) : 0 ≤ isK kind v ∧ isK kind v ≤ 1 := by unfold isK; split <;> simp
theorem sizeOf'_pos {s f : Val → Int} (hs : ∀ x, 0 ≤ s x) (hf : ∀ x, 0 ≤ f x) (v : Val) : 0 ≤ sizeOf' s f v := by
  unfold sizeOf'; have := hs v; have := sumL_pos hf v.parts; omega
theorem sizeV_pos : ∀ d x, 0 ≤ sizeV d x
  | 0, _ => Int.le_refl _
  | d + 1, x => sizeOf'_pos (fun _ => by decide) (sizeV_pos d) x
theorem cntV_pos (kind : ByteArray) : ∀ d x, 0 ≤ cntV kind d x
  | 0, _ => Int.le_refl _
  | d + 1, x => sizeOf'_pos (fun v => (isK_01 kind v).1) (cntV_pos kind d) x
theorem cntV_le (kind : ByteArray) : ∀ d x, cntV kind d x ≤ sizeV d x
  | 0, _ => Int.le_refl _
  | d + 1, x => by
    have h1 := (isK_01 kind x).2
    have h2 := sumL_le (cntV_le kind d) x.parts
    show isK kind x + sumL (cntV kind d) x.parts ≤ 1 + sumL (sizeV d) x.parts
    omega

theorem szList_sum {f : Val → Int → Int} {s : Val → Int} (h : ∀ x l, 0 ≤ l → 0 ≤ f x l → s x ≤ 1 + (l - f x l)) : ∀ (xs : List Val) (l : Int), 0 ≤ l → 0 ≤ szList f xs l → sumL s xs ≤ xs.length + (l - szList f xs l)
  | [], l, _, _ => by unfold sumL szList; simp
  | x :: r, l, h0, hh => by
    unfold szList at hh ⊢
    split at hh
    · omega
    · rename_i hn
      rw [if_neg hn]
      have h1 := h x l h0 (by omega)
      have h2 := szList_sum h r (f x l) (by omega) hh
      unfold sumL
      simp only [List.length_cons]
      omega
theorem szS_sum {f : Val → Int → Int} {s : Val → Int} (h : ∀ x l, 0 ≤ l → 0 ≤ f x l → s x ≤ 1 + (l - f x l)) (xs : List Val) (l : Int) (_ : 0 ≤ l) (hh : 0 ≤ szS f xs l) : sumL s xs ≤ l - szS f xs l := by
  unfold szS at hh ⊢
  split at hh
  · omega
  · rename_i hn
    rw [if_neg hn]
    have := szList_sum h xs (l - xs.length) (by omega) hh
    omega
theorem szOf_sum {f : Val → Int → Int} {s : Val → Int} (h : ∀ x l, 0 ≤ l → 0 ≤ f x l → s x ≤ 1 + (l - f x l)) (v : Val) (l : Int) (hh : 0 ≤ szOf f v l) : sizeOf' (fun _ => 1) s v ≤ 1 + (l - szOf f v l) := by
  unfold szOf at hh ⊢
  split at hh
  · omega
  · rename_i hn
    rw [if_neg hn]
    split at hh
    · omega
    · rename_i hn2
      rw [if_neg hn2]
      have h1 := szS_sum h v.parts (l - v.ty.size) (by omega) (by omega)
      have h2 := szI_le v.path (szS f v.parts (l - v.ty.size)) (by omega)
      show 1 + sumL s v.parts ≤ _
      omega
theorem szVal_sum : ∀ (d : Nat) (x : Val) (l : Int), 0 ≤ l → 0 ≤ szVal d x l → sizeV d x ≤ 1 + (l - szVal d x l)
  | 0, _, _, _, h => by unfold szVal at h; omega
  | d + 1, x, l, _, h => szOf_sum (szVal_sum d) x l h
/-- A value that is not too long is of few values. -/
theorem size_few {d : Nat} {v : Val} {l : Int} (h1 : l ≤ 1048576) (h : 0 ≤ szOf (szVal d) v l) : sizeV (d + 1) v ≤ 2000000 := by
  have := szOf_sum (szVal_sum d) v l h
  show sizeOf' (fun _ => 1) (sizeV d) v ≤ _
  omega
theorem cnt_few {kind : ByteArray} {d : Nat} {v : Val} {l : Int} (h1 : l ≤ 1048576) (h : 0 ≤ szOf (szVal d) v l) : cntV kind (d + 1) v ≤ 2000000 := Int.le_trans (cntV_le kind (d + 1) v) (size_few h1 h)

def L2CountC (kind : ByteArray) (c : Cod Val) (f : Val → Int) : Prop := ∀ (F : Nat → Prop) (A B : Option Addr) (n m cA cB : Nat) (v : Val) (w : World), VRd c F w (.slice A n cA) (.slice B m cB) v → (∀ b, F b → b < w.heap.size) → sizeOf' (isK kind) f v ≤ 2000000 →
    Calls Try.prog 51 #[.agg #[.string v.ty, .int .i64 v.n, .slice A n cA, .slice B m cB], .string kind] w fun e w' => e = .returned (.int .i64 (sizeOf' (isK kind) f v)) ∧ Below w.heap.size w w'

set_option maxRecDepth 100000 in
set_option maxHeartbeats 2000000 in
theorem l2Count_of (kind : ByteArray) {c e : Cod Val} {f g : Val → Int} (hc : IsVal c e) (hf' : ∀ x, 0 ≤ f x) (IH : HasEl c → L2CountC kind e g ∧ f = sizeOf' (isK kind) g) : L2CountC kind c f := by
  intro F A B n m cA cB v w h hF hm
  have hf := Lib.hid hf'
  have HV := Lib.hid h
  have Hm := Lib.hid hm
  have IHH := Lib.hid (fun hp : 0 < v.parts.length => IH ⟨F, w, _, v.parts, h.parts, hp⟩)
  obtain ⟨A', cA', hA, hA1, hA2, _⟩ := h.parts
  obtain ⟨B', cB', hB, hB1, hB2, _⟩ := h.path
  simp only [Value.slice.injEq] at hA hB
  obtain ⟨rfl, rfl, rfl⟩ := hA
  obtain ⟨rfl, rfl, rfl⟩ := hB
  unfold maxLen at hA2 hB2
  have HB := Lib.hid (Blk.new w 95 #[.string v.ty, .int .i64 v.n, .slice A v.parts.length cA, .slice B v.path.length cB])
  clear h IH hm hf'
  have hty : (v.ty.toList == kind.toList) = true ∨ (v.ty.toList == kind.toList) = false := by cases (v.ty.toList == kind.toList) <;> simp
  rcases hty with hty | hty
  · have HQ : Hid (1 + sumL f (v.parts.drop 0) = sizeOf' (isK kind) f v) := by show _ = _; unfold sizeOf' isK; rw [hty]; rfl
    go_enter Try.func51, Try.ntmps51
    go_wp2
    go_loopw [5, 6] (fun s i wr => ∃ (j : Nat) (n : Int), j ≤ v.parts.length ∧ i = .int .i64 j ∧ s = .int .i64 n ∧ 0 ≤ n ∧ n ≤ 2000000 ∧ Hid (n + sumL f (v.parts.drop j) = sizeOf' (isK kind) f v) ∧ Hid (Below (w.heap.size + 1) (w.alloc (.cells #[.string v.ty, .int .i64 v.n, .slice A v.parts.length cA, .slice B v.path.length cB] 95)) wr)) (fun _ i _ => v.parts.length - (intOf i).toNat)
    case atStart => exact ⟨0, _, Nat.zero_le _, rfl, rfl, by omega, by omega, HQ, Below.refl _ _⟩
    case round =>
      obtain ⟨j, n, hj, rfl, rfl, hn0, hn1, HH1, HBe⟩ := hrel
      have hb := Lib.hid (((Below.refl w.heap.size w).alloc (Nat.le_refl _) (.cells #[.string v.ty, .int .i64 v.n, .slice A v.parts.length cA, .slice B v.path.length cB] 95)).trans (HBe.out.mono (by simp)))
      have hws := hb.out.size
      have hw1 : w.heap.size < wr.heap.size := by have := HBe.out.size; simp at this; omega
      obtain ⟨x0, x1, x2, x3⟩ := (HB.out.below HBe.out (by simp)).c2
      by_cases hlt : j < v.parts.length
      · obtain ⟨bp2, of2, cp2, A2, cA2, B2, cB2, hv, hFp, _, _, hp0, hp1, hp2, hp3, hV⟩ := (HV.out.parts.keep (below_keeps hb.out hF)).val_at hc hlt
        obtain ⟨rfl, rfl⟩ : A = some ⟨bp2, of2, none⟩ ∧ cA = cp2 := by simpa using hv
        have hst := sumL_step hlt HH1.out
        have hps := sumL_pos hf.out (v.parts.drop (j + 1))
        have hfx := congrFun (IHH.out (by omega)).2 v.parts[j]
        have hf0 := hf.out v.parts[j]
        have HT := Hm.out
        have Hst := Lib.hid hst
        obtain ⟨q, hq⟩ : ∃ q, q = sizeOf' (isK kind) g v.parts[j] := ⟨_, rfl⟩
        rw [hfx, ← hq] at hst hf0
        have hq1 : n + q ≤ 2000000 := by omega
        have Hst2 := Lib.hid hst
        have IH1 := Lib.hid (IHH.out (by omega)).1
        have HVp := Lib.hid hV
        have HFr := Lib.hid (show ∀ b, F b → b < wr.heap.size from fun b h => Nat.lt_of_lt_of_le (hF b h) hws)
        have Hq := Lib.hid hq
        have hq2 : sizeOf' (isK kind) g v.parts[j] ≤ 2000000 := by rw [← hq]; omega
        clear hv hV hFp hst hfx hps HT hq
        have i0 : (0 : Int) ≤ j := by omega
        have i1 : (j : Int) < v.parts.length := by omega
        go_wp2_with fail
        refine (IH1.out F _ _ _ _ _ _ v.parts[j] wr HVp.out HFr.out hq2).mono ?_
        rintro e' w2 ⟨rfl, hb2⟩
        rw [← Hq.out]
        have HBn := Lib.hid (HBe.out.trans (hb2.mono hw1))
        clear hb2
        go_wp2
        go_roundw
        case rel => exact ⟨j + 1, _, by omega, by go_num, rfl, by omega, by omega, Hst2.out, HBn.out⟩
        case measure => simp [intOf]; omega
      · go_wp2
        go_ret
        exact ⟨ret_int (sumL_end (by omega) HH1.out), hb.out⟩
  · have HQ : Hid (0 + sumL f (v.parts.drop 0) = sizeOf' (isK kind) f v) := by show _ = _; unfold sizeOf' isK; rw [hty]; rfl
    go_enter Try.func51, Try.ntmps51
    go_wp2
    go_loopw [5, 6] (fun s i wr => ∃ (j : Nat) (n : Int), j ≤ v.parts.length ∧ i = .int .i64 j ∧ s = .int .i64 n ∧ 0 ≤ n ∧ n ≤ 2000000 ∧ Hid (n + sumL f (v.parts.drop j) = sizeOf' (isK kind) f v) ∧ Hid (Below (w.heap.size + 1) (w.alloc (.cells #[.string v.ty, .int .i64 v.n, .slice A v.parts.length cA, .slice B v.path.length cB] 95)) wr)) (fun _ i _ => v.parts.length - (intOf i).toNat)
    case atStart => exact ⟨0, _, Nat.zero_le _, rfl, rfl, by omega, by omega, HQ, Below.refl _ _⟩
    case round =>
      obtain ⟨j, n, hj, rfl, rfl, hn0, hn1, HH1, HBe⟩ := hrel
      have hb := Lib.hid (((Below.refl w.heap.size w).alloc (Nat.le_refl _) (.cells #[.string v.ty, .int .i64 v.n, .slice A v.parts.length cA, .slice B v.path.length cB] 95)).trans (HBe.out.mono (by simp)))
      have hws := hb.out.size
      have hw1 : w.heap.size < wr.heap.size := by have := HBe.out.size; simp at this; omega
      obtain ⟨x0, x1, x2, x3⟩ := (HB.out.below HBe.out (by simp)).c2
      by_cases hlt : j < v.parts.length
      · obtain ⟨bp2, of2, cp2, A2, cA2, B2, cB2, hv, hFp, _, _, hp0, hp1, hp2, hp3, hV⟩ := (HV.out.parts.keep (below_keeps hb.out hF)).val_at hc hlt
        obtain ⟨rfl, rfl⟩ : A = some ⟨bp2, of2, none⟩ ∧ cA = cp2 := by simpa using hv
        have hst := sumL_step hlt HH1.out
        have hps := sumL_pos hf.out (v.parts.drop (j + 1))
        have hfx := congrFun (IHH.out (by omega)).2 v.parts[j]
        have hf0 := hf.out v.parts[j]
        have HT := Hm.out
        have Hst := Lib.hid hst
        obtain ⟨q, hq⟩ : ∃ q, q = sizeOf' (isK kind) g v.parts[j] := ⟨_, rfl⟩
        rw [hfx, ← hq] at hst hf0
        have hq1 : n + q ≤ 2000000 := by omega
        have Hst2 := Lib.hid hst
        have IH1 := Lib.hid (IHH.out (by omega)).1
        have HVp := Lib.hid hV
        have HFr := Lib.hid (show ∀ b, F b → b < wr.heap.size from fun b h => Nat.lt_of_lt_of_le (hF b h) hws)
        have Hq := Lib.hid hq
        have hq2 : sizeOf' (isK kind) g v.parts[j] ≤ 2000000 := by rw [← hq]; omega
        clear hv hV hFp hst hfx hps HT hq
        have i0 : (0 : Int) ≤ j := by omega
        have i1 : (j : Int) < v.parts.length := by omega
        go_wp2_with fail
        refine (IH1.out F _ _ _ _ _ _ v.parts[j] wr HVp.out HFr.out hq2).mono ?_
        rintro e' w2 ⟨rfl, hb2⟩
        rw [← Hq.out]
        have HBn := Lib.hid (HBe.out.trans (hb2.mono hw1))
        clear hb2
        go_wp2
        go_roundw
        case rel => exact ⟨j + 1, _, by omega, by go_num, rfl, by omega, by omega, Hst2.out, HBn.out⟩
        case measure => simp [intOf]; omega
      · go_wp2
        go_ret
        exact ⟨ret_int (sumL_end (by omega) HH1.out), hb.out⟩

theorem l2Count_any (kind : ByteArray) : ∀ d, L2CountC kind (Cod.val d) (cntV kind d)
  | 0 => l2Count_of kind (e := Cod.no) (g := fun _ => 0) (IsVal.zero _) (cntV_pos kind 0) fun h => absurd h no_el
  | d + 1 => l2Count_of kind (IsVal.of _) (cntV_pos kind (d + 1)) fun _ => ⟨l2Count_any kind d, rfl⟩

def CountRecordsC (kind : ByteArray) (c : Cod Val) (f : Val → Int) : Prop := ∀ (F : Nat → Prop) (A B : Option Addr) (n m cA cB : Nat) (v : Val) (w : World), VRd c F w (.slice A n cA) (.slice B m cB) v → (∀ b, F b → b < w.heap.size) → sizeOf' (isK kind) f v ≤ 2000000 →
    Calls Try.prog 77 #[.agg #[.string v.ty, .int .i64 v.n, .slice A n cA, .slice B m cB], .string kind] w fun e w' => e = .returned (.int .i64 (sizeOf' (isK kind) f v)) ∧ Below w.heap.size w w'

set_option maxRecDepth 100000 in
set_option maxHeartbeats 2000000 in
theorem countRecords_of (kind : ByteArray) {c e : Cod Val} {f g : Val → Int} (hc : IsVal c e) (hf' : ∀ x, 0 ≤ f x) (IH : HasEl c → CountRecordsC kind e g ∧ f = sizeOf' (isK kind) g) : CountRecordsC kind c f := by
  intro F A B n m cA cB v w h hF hm
  have hf := Lib.hid hf'
  have HV := Lib.hid h
  have Hm := Lib.hid hm
  have IHH := Lib.hid (fun hp : 0 < v.parts.length => IH ⟨F, w, _, v.parts, h.parts, hp⟩)
  obtain ⟨A', cA', hA, hA1, hA2, _⟩ := h.parts
  obtain ⟨B', cB', hB, hB1, hB2, _⟩ := h.path
  simp only [Value.slice.injEq] at hA hB
  obtain ⟨rfl, rfl, rfl⟩ := hA
  obtain ⟨rfl, rfl, rfl⟩ := hB
  unfold maxLen at hA2 hB2
  have HB := Lib.hid (Blk.new w 95 #[.string v.ty, .int .i64 v.n, .slice A v.parts.length cA, .slice B v.path.length cB])
  clear h IH hm hf'
  have hty : (v.ty.toList == kind.toList) = true ∨ (v.ty.toList == kind.toList) = false := by cases (v.ty.toList == kind.toList) <;> simp
  rcases hty with hty | hty
  · have HQ : Hid (1 + sumL f (v.parts.drop 0) = sizeOf' (isK kind) f v) := by show _ = _; unfold sizeOf' isK; rw [hty]; rfl
    go_enter Try.func77, Try.ntmps77
    go_wp2
    go_loopw [5, 15] (fun s i wr => ∃ (j : Nat) (n : Int), j ≤ v.parts.length ∧ i = .int .i64 j ∧ s = .int .i64 n ∧ 0 ≤ n ∧ n ≤ 2000000 ∧ Hid (n + sumL f (v.parts.drop j) = sizeOf' (isK kind) f v) ∧ Hid (Below (w.heap.size + 1) (w.alloc (.cells #[.string v.ty, .int .i64 v.n, .slice A v.parts.length cA, .slice B v.path.length cB] 95)) wr)) (fun _ i _ => v.parts.length - (intOf i).toNat)
    case atStart => exact ⟨0, _, Nat.zero_le _, rfl, rfl, by omega, by omega, HQ, Below.refl _ _⟩
    case round =>
      obtain ⟨j, n, hj, rfl, rfl, hn0, hn1, HH1, HBe⟩ := hrel
      have hb := Lib.hid (((Below.refl w.heap.size w).alloc (Nat.le_refl _) (.cells #[.string v.ty, .int .i64 v.n, .slice A v.parts.length cA, .slice B v.path.length cB] 95)).trans (HBe.out.mono (by simp)))
      have hws := hb.out.size
      have hw1 : w.heap.size < wr.heap.size := by have := HBe.out.size; simp at this; omega
      obtain ⟨x0, x1, x2, x3⟩ := (HB.out.below HBe.out (by simp)).c2
      by_cases hlt : j < v.parts.length
      · obtain ⟨bp2, of2, cp2, A2, cA2, B2, cB2, hv, hFp, _, _, hp0, hp1, hp2, hp3, hV⟩ := (HV.out.parts.keep (below_keeps hb.out hF)).val_at hc hlt
        obtain ⟨rfl, rfl⟩ : A = some ⟨bp2, of2, none⟩ ∧ cA = cp2 := by simpa using hv
        have hst := sumL_step hlt HH1.out
        have hps := sumL_pos hf.out (v.parts.drop (j + 1))
        have hfx := congrFun (IHH.out (by omega)).2 v.parts[j]
        have hf0 := hf.out v.parts[j]
        have HT := Hm.out
        have Hst := Lib.hid hst
        obtain ⟨q, hq⟩ : ∃ q, q = sizeOf' (isK kind) g v.parts[j] := ⟨_, rfl⟩
        rw [hfx, ← hq] at hst hf0
        have hq1 : n + q ≤ 2000000 := by omega
        have Hst2 := Lib.hid hst
        have IH1 := Lib.hid (IHH.out (by omega)).1
        have HVp := Lib.hid hV
        have HFr := Lib.hid (show ∀ b, F b → b < wr.heap.size from fun b h => Nat.lt_of_lt_of_le (hF b h) hws)
        have Hq := Lib.hid hq
        have hq2 : sizeOf' (isK kind) g v.parts[j] ≤ 2000000 := by rw [← hq]; omega
        clear hv hV hFp hst hfx hps HT hq
        have i0 : (0 : Int) ≤ j := by omega
        have i1 : (j : Int) < v.parts.length := by omega
        have HBp := Blk.new wr 95 #[.string v.parts[j].ty, .int .i64 v.parts[j].n, .slice A2 v.parts[j].parts.length cA2, .slice B2 v.parts[j].path.length cB2]
        have Hba := Lib.hid ((Below.refl wr.heap.size wr).alloc (Nat.le_refl _) (.cells #[.string v.parts[j].ty, .int .i64 v.parts[j].n, .slice A2 v.parts[j].parts.length cA2, .slice B2 v.parts[j].path.length cB2] 95))
        have HV1 := Lib.hid (VRd.keep (w := wr) (w' := wr.alloc (.cells #[.string v.parts[j].ty, .int .i64 v.parts[j].n, .slice A2 v.parts[j].parts.length cA2, .slice B2 v.parts[j].path.length cB2] 95)) (fun b hb' => Below.heap_alloc _ _ _ (HFr.out b hb')) HVp.out)
        have HF1 := Lib.hid (show ∀ b, F b → b < (wr.alloc (.cells #[.string v.parts[j].ty, .int .i64 v.parts[j].n, .slice A2 v.parts[j].parts.length cA2, .slice B2 v.parts[j].path.length cB2] 95)).heap.size from fun b h => Nat.lt_of_lt_of_le (HFr.out b h) Hba.out.size)
        have hbx : wr.heap.size ≤ (wr.alloc (.cells #[.string v.parts[j].ty, .int .i64 v.parts[j].n, .slice A2 v.parts[j].parts.length cA2, .slice B2 v.parts[j].path.length cB2] 95)).heap.size := Hba.out.size
        have Hbx := Lib.hid hbx
        clear HBp hbx
        go_wp2_with fail
        refine (IH1.out F _ _ _ _ _ _ v.parts[j] _ HV1.out HF1.out hq2).mono ?_
        rintro e' w2 ⟨rfl, hb2⟩
        rw [← Hq.out]
        have HBn := Lib.hid ((HBe.out.trans (Hba.out.mono hw1)).trans (hb2.mono (Nat.le_trans hw1 Hbx.out)))
        clear hb2
        go_wp2
        go_roundw
        case rel => exact ⟨j + 1, _, by omega, by go_num, rfl, by omega, by omega, Hst2.out, HBn.out⟩
        case measure => simp [intOf]; omega
      · go_wp2
        go_ret
        exact ⟨ret_int (sumL_end (by omega) HH1.out), hb.out⟩
  · have HQ : Hid (0 + sumL f (v.parts.drop 0) = sizeOf' (isK kind) f v) := by show _ = _; unfold sizeOf' isK; rw [hty]; rfl
    go_enter Try.func77, Try.ntmps77
    go_wp2
    go_loopw [5, 15] (fun s i wr => ∃ (j : Nat) (n : Int), j ≤ v.parts.length ∧ i = .int .i64 j ∧ s = .int .i64 n ∧ 0 ≤ n ∧ n ≤ 2000000 ∧ Hid (n + sumL f (v.parts.drop j) = sizeOf' (isK kind) f v) ∧ Hid (Below (w.heap.size + 1) (w.alloc (.cells #[.string v.ty, .int .i64 v.n, .slice A v.parts.length cA, .slice B v.path.length cB] 95)) wr)) (fun _ i _ => v.parts.length - (intOf i).toNat)
    case atStart => exact ⟨0, _, Nat.zero_le _, rfl, rfl, by omega, by omega, HQ, Below.refl _ _⟩
    case round =>
      obtain ⟨j, n, hj, rfl, rfl, hn0, hn1, HH1, HBe⟩ := hrel
      have hb := Lib.hid (((Below.refl w.heap.size w).alloc (Nat.le_refl _) (.cells #[.string v.ty, .int .i64 v.n, .slice A v.parts.length cA, .slice B v.path.length cB] 95)).trans (HBe.out.mono (by simp)))
      have hws := hb.out.size
      have hw1 : w.heap.size < wr.heap.size := by have := HBe.out.size; simp at this; omega
      obtain ⟨x0, x1, x2, x3⟩ := (HB.out.below HBe.out (by simp)).c2
      by_cases hlt : j < v.parts.length
      · obtain ⟨bp2, of2, cp2, A2, cA2, B2, cB2, hv, hFp, _, _, hp0, hp1, hp2, hp3, hV⟩ := (HV.out.parts.keep (below_keeps hb.out hF)).val_at hc hlt
        obtain ⟨rfl, rfl⟩ : A = some ⟨bp2, of2, none⟩ ∧ cA = cp2 := by simpa using hv
        have hst := sumL_step hlt HH1.out
        have hps := sumL_pos hf.out (v.parts.drop (j + 1))
        have hfx := congrFun (IHH.out (by omega)).2 v.parts[j]
        have hf0 := hf.out v.parts[j]
        have HT := Hm.out
        have Hst := Lib.hid hst
        obtain ⟨q, hq⟩ : ∃ q, q = sizeOf' (isK kind) g v.parts[j] := ⟨_, rfl⟩
        rw [hfx, ← hq] at hst hf0
        have hq1 : n + q ≤ 2000000 := by omega
        have Hst2 := Lib.hid hst
        have IH1 := Lib.hid (IHH.out (by omega)).1
        have HVp := Lib.hid hV
        have HFr := Lib.hid (show ∀ b, F b → b < wr.heap.size from fun b h => Nat.lt_of_lt_of_le (hF b h) hws)
        have Hq := Lib.hid hq
        have hq2 : sizeOf' (isK kind) g v.parts[j] ≤ 2000000 := by rw [← hq]; omega
        clear hv hV hFp hst hfx hps HT hq
        have i0 : (0 : Int) ≤ j := by omega
        have i1 : (j : Int) < v.parts.length := by omega
        have HBp := Blk.new wr 95 #[.string v.parts[j].ty, .int .i64 v.parts[j].n, .slice A2 v.parts[j].parts.length cA2, .slice B2 v.parts[j].path.length cB2]
        have Hba := Lib.hid ((Below.refl wr.heap.size wr).alloc (Nat.le_refl _) (.cells #[.string v.parts[j].ty, .int .i64 v.parts[j].n, .slice A2 v.parts[j].parts.length cA2, .slice B2 v.parts[j].path.length cB2] 95))
        have HV1 := Lib.hid (VRd.keep (w := wr) (w' := wr.alloc (.cells #[.string v.parts[j].ty, .int .i64 v.parts[j].n, .slice A2 v.parts[j].parts.length cA2, .slice B2 v.parts[j].path.length cB2] 95)) (fun b hb' => Below.heap_alloc _ _ _ (HFr.out b hb')) HVp.out)
        have HF1 := Lib.hid (show ∀ b, F b → b < (wr.alloc (.cells #[.string v.parts[j].ty, .int .i64 v.parts[j].n, .slice A2 v.parts[j].parts.length cA2, .slice B2 v.parts[j].path.length cB2] 95)).heap.size from fun b h => Nat.lt_of_lt_of_le (HFr.out b h) Hba.out.size)
        have hbx : wr.heap.size ≤ (wr.alloc (.cells #[.string v.parts[j].ty, .int .i64 v.parts[j].n, .slice A2 v.parts[j].parts.length cA2, .slice B2 v.parts[j].path.length cB2] 95)).heap.size := Hba.out.size
        have Hbx := Lib.hid hbx
        clear HBp hbx
        go_wp2_with fail
        refine (IH1.out F _ _ _ _ _ _ v.parts[j] _ HV1.out HF1.out hq2).mono ?_
        rintro e' w2 ⟨rfl, hb2⟩
        rw [← Hq.out]
        have HBn := Lib.hid ((HBe.out.trans (Hba.out.mono hw1)).trans (hb2.mono (Nat.le_trans hw1 Hbx.out)))
        clear hb2
        go_wp2
        go_roundw
        case rel => exact ⟨j + 1, _, by omega, by go_num, rfl, by omega, by omega, Hst2.out, HBn.out⟩
        case measure => simp [intOf]; omega
      · go_wp2
        go_ret
        exact ⟨ret_int (sumL_end (by omega) HH1.out), hb.out⟩

theorem countRecords_any (kind : ByteArray) : ∀ d, CountRecordsC kind (Cod.val d) (cntV kind d)
  | 0 => countRecords_of kind (e := Cod.no) (g := fun _ => 0) (IsVal.zero _) (cntV_pos kind 0) fun h => absurd h no_el
  | d + 1 => countRecords_of kind (IsVal.of _) (cntV_pos kind (d + 1)) fun _ => ⟨countRecords_any kind d, rfl⟩
end Go.Proofs.Ythkdkefkgmmoiaa
