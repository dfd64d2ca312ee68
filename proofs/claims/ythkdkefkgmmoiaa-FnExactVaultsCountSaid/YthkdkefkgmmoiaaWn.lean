/- What the sizes bound, at vaults: how many marks there are. -/
import Derived.Test.YthkdkefkgmmoiaaWm
namespace Go.Proofs.Ythkdkefkgmmoiaa
open Go.RowKit

theorem marks_sl5 {α : Type} {f : α → Int → Int} {g : α → Nat → α × Nat} (hg : ∀ x l k, 0 ≤ l → 0 ≤ f x l → ((g x k).2 : Int) ≤ k + 3 + 3 * (l - f x l)) (hf : ∀ x l, 0 ≤ l → f x l ≤ l) : ∀ (xs : List α) (l : Int) (k : Nat), 0 ≤ l → 0 ≤ szList f xs l → ((markL g xs k).2 : Int) ≤ k + 3 * xs.length + 3 * (l - szList f xs l)
  | [], l, k, _, _ => by show (k : Int) ≤ k + 3 * ((0 : Nat) : Int) + 3 * (l - l); omega
  | x :: r, l, k, h0, h => by
    unfold szList at h ⊢
    by_cases hn : f x l < 0
    · rw [if_pos hn] at h; omega
    · rw [if_neg hn] at h ⊢
      have h1 := hg x l k h0 (by omega)
      have h2 := marks_sl5 hg hf r (f x l) (g x k).2 (by omega) h
      have e : (markL g (x :: r) k).2 = (markL g r (g x k).2).2 := rfl
      rw [e, List.length_cons]
      omega
theorem marks_szS5 {α : Type} {f : α → Int → Int} {g : α → Nat → α × Nat} (hg : ∀ x l k, 0 ≤ l → 0 ≤ f x l → ((g x k).2 : Int) ≤ k + 3 + 3 * (l - f x l)) (hf : ∀ x l, 0 ≤ l → f x l ≤ l) (xs : List α) (l : Int) (k : Nat) (h : 0 ≤ szS f xs l) : ((markL g xs k).2 : Int) ≤ k + 3 * (l - szS f xs l) := by
  unfold szS at h ⊢
  by_cases hn : l - xs.length < 0
  · rw [if_pos hn] at h; omega
  · rw [if_neg hn] at h ⊢
    have := marks_sl5 hg hf xs (l - xs.length) k (by omega) h
    omega
theorem marks_str5 (x : ByteArray) (l : Int) (k : Nat) (_ : 0 ≤ l) (_ : 0 ≤ szB x l) : ((mkS x k).2 : Int) ≤ k + 3 + 3 * (l - szB x l) := by
  show ((k + 1 : Nat) : Int) ≤ k + 3 + 3 * (l - (l - x.size))
  omega
theorem marks_int5 : ∀ (xs : List Int) (k : Nat), (markL mkI xs k).2 = k + xs.length
  | [], k => rfl
  | x :: r, k => by
    have := marks_int5 r (k + 1)
    show (markL mkI r (k + 1)).2 = _
    rw [this, List.length_cons]
    omega
theorem szB_le5 (x : ByteArray) (l : Int) (_ : 0 ≤ l) : szB x l ≤ l := by unfold szB; omega
theorem marks_rec5 (r : Rec) (l : Int) (k : Nat) (h0 : 0 ≤ l) (h : 0 ≤ szRec r l) : ((mkR r k).2 : Int) ≤ k + 3 + 3 * (l - szRec r l) := by
  unfold szRec at h ⊢
  split at h
  · omega
  · rename_i hn
    rw [if_neg hn]
    have := marks_szS5 marks_str5 szB_le5 r.fields l (k + 1) h
    show ((markL mkS r.fields (k + 1)).2 : Int) ≤ _
    omega
theorem marks_kinds5 {ks : Ks} (h : 0 ≤ szS (szS szRec) ks 1048576) : ((markL mkRS ks 1).2 : Int) ≤ 1 + 3 * (1048576 - szS (szS szRec) ks 1048576) :=
  marks_szS5 (g := mkRS) (fun x l k h0 h => by have := marks_szS5 (g := mkR) marks_rec5 szRec_le x l k h; show ((markL mkR x k).2 : Int) ≤ _; omega) (szS_le szRec_le) ks 1048576 1 h
theorem marks_parts5 {d : Nat} (ih : ∀ x l k, 0 ≤ l → 0 ≤ szVal d x l → ((mkV d x k).2 : Int) ≤ k + 3 + 3 * (l - szVal d x l)) (x : Val) (l : Int) (k : Nat) (h0 : 0 ≤ l) (h : 0 ≤ szOf (szVal d) x l) : ((markL mkI x.path (markL (mkV d) x.parts k).2).2 : Int) ≤ k + 3 * (l - szOf (szVal d) x l) := by
  unfold szOf at h ⊢
  split at h
  · omega
  · rename_i h1
    split at h
    · omega
    · rename_i h2
      rw [if_neg h1, if_neg h2]
      have h3 := marks_szS5 ih (szVal_le d) x.parts (l - x.ty.size) k (by omega)
      have h5 := szS_le (szVal_le d) x.parts (l - x.ty.size) (by omega)
      rw [marks_int5]
      unfold szI at h ⊢
      split at h
      · omega
      · rename_i h4
        rw [if_neg h4]
        omega
theorem marks_val5 : ∀ (d : Nat) (x : Val) (l : Int) (k : Nat), 0 ≤ l → 0 ≤ szVal d x l → ((mkV d x k).2 : Int) ≤ k + 3 + 3 * (l - szVal d x l)
  | 0, x, l, k, _, h => by exact absurd (show (0 : Int) ≤ -1 from h) (by decide)
  | d + 1, x, l, k, h0, h => by
    have := marks_parts5 (marks_val5 d) x l (k + 2) h0 h
    show ((markL mkI x.path (markL (mkV d) x.parts (k + 2)).2).2 : Int) ≤ k + 3 + 3 * (l - szOf (szVal d) x l)
    omega
theorem marks_kep5 (d : Nat) (x : KepR) (l : Int) (k : Nat) (h0 : 0 ≤ l) (h : 0 ≤ szKep d x l) : ((mkKep d x k).2 : Int) ≤ k + 3 + 3 * (l - szKep d x l) := by
  have := marks_parts5 (marks_val5 d) x.v l (k + 3) h0 h
  show ((markL mkI x.v.path (markL (mkV d) x.v.parts (k + 3)).2).2 : Int) ≤ k + 3 + 3 * (l - szOf (szVal d) x.v l)
  omega
/-- What is known of kinds and vaults that are not too great. -/
structure VSmall (ks : Ks) (d : Nat) (xs : List KepR) : Prop where
  kn : ks.length ≤ 2000000
  kr : ∀ rs ∈ ks, rs.length ≤ 2000000 ∧ ∀ r ∈ rs, r.fields.length ≤ 2000000
  xn : xs.length ≤ 1048576
  xr : ∀ x ∈ xs, SmolKep d x
  mks : (markL mkRS ks 1).2 ≤ 10000000
  mx : (markL (mkKep d) xs (markL mkRS ks 1).2).2 ≤ 10000000
  mx1 : (markL (mkKep d) xs 1).2 ≤ 10000000
  mv : ∀ x ∈ xs, ∀ k, k ≤ 10000000 → (mkTop (mkV d) x.v k).2 ≤ 20000000
theorem vsmall {ks : Ks} {d : Nat} {xs : List KepR} (h1 : ¬ szS (szS szRec) ks 1048576 < 0) (h2 : ¬ szS (szKep d) xs (szS (szS szRec) ks 1048576) < 0) : VSmall ks d xs := by
  have hle := szS_le (szS_le szRec_le) ks 1048576 (by omega)
  obtain ⟨l, hl⟩ : ∃ l, l = szS (szS szRec) ks 1048576 := ⟨_, rfl⟩
  obtain ⟨k1, k2⟩ := sz_kinds (ks := ks) (by omega)
  have m1 := marks_kinds5 (ks := ks) (by omega)
  rw [← hl] at h1 h2 hle m1
  obtain ⟨x1, x2⟩ := szS_len (szKep_le d) (xs := xs) (l := l) (by omega)
  have hle2 := szS_le (szKep_le d) xs l (by omega)
  have m2 := marks_szS5 (marks_kep5 d) (szKep_le d) xs l (markL mkRS ks 1).2 (by omega)
  have m3 := marks_szS5 (marks_kep5 d) (szKep_le d) xs l 1 (by omega)
  refine ⟨k1, k2, by omega, fun x hx => ?_, by omega, by omega, by omega, fun x hx k hk => ?_⟩
  · obtain ⟨l', z0, z1, z2⟩ := x2 x hx
    exact smol_kep z0 (by omega) z2
  · obtain ⟨l', z0, z1, z2⟩ := x2 x hx
    have := marks_parts5 (marks_val5 d) x.v l' k z0 z2
    have e : (mkTop (mkV d) x.v k).2 = (markL mkI x.v.path (markL (mkV d) x.v.parts k).2).2 := rfl
    rw [e]
    have z3 : szOf (szVal d) x.v l' = szKep d x l' := rfl
    omega

/-! How many marks a value, a record that is kept takes. -/
theorem markL_shift {α : Type} {g : α → Nat → α × Nat} {c : α → Nat} (h : ∀ x k, (g x k).2 = k + c x) : ∀ (xs : List α) (k : Nat), (markL g xs k).2 = k + (xs.map c).sum
  | [], k => rfl
  | x :: r, k => by
    have e : (markL g (x :: r) k).2 = (markL g r (g x k).2).2 := rfl
    rw [e, markL_shift h r, h x k, List.map_cons, List.sum_cons]
    omega
def cV : Nat → Val → Nat
  | 0 => fun _ => 0
  | d + 1 => fun v => 2 + (v.parts.map (cV d)).sum + v.path.length
theorem mkV_shift : ∀ (d : Nat) (x : Val) (k : Nat), (mkV d x k).2 = k + cV d x
  | 0, x, k => rfl
  | d + 1, x, k => by
    show (markL mkI x.path (markL (mkV d) x.parts (k + 2)).2).2 = k + (2 + (x.parts.map (cV d)).sum + x.path.length)
    rw [marks_int5, markL_shift (mkV_shift d)]
    omega
def cT (d : Nat) (v : Val) : Nat := (v.parts.map (cV d)).sum + v.path.length
def cK (d : Nat) (x : KepR) : Nat := 3 + cT d x.v
theorem mkKep_shift (d : Nat) (x : KepR) (k : Nat) : (mkKep d x k).2 = k + cK d x := by
  show (markL mkI x.v.path (markL (mkV d) x.v.parts (k + 3)).2).2 = k + (3 + ((x.v.parts.map (cV d)).sum + x.v.path.length))
  rw [marks_int5, markL_shift (mkV_shift d)]
  omega
theorem mkTop_shift (d : Nat) (v : Val) (k : Nat) : (mkTop (mkV d) v k).2 = k + cT d v := by
  show (markL mkI v.path (markL (mkV d) v.parts k).2).2 = k + ((v.parts.map (cV d)).sum + v.path.length)
  rw [marks_int5, markL_shift (mkV_shift d)]
  omega
theorem mkKs_shift (d : Nat) (xs : List KepR) (k : Nat) : (markL (mkKep d) xs k).2 = k + (xs.map (cK d)).sum := markL_shift (mkKep_shift d) xs k
theorem sum_take_drop (f : KepR → Nat) (xs : List KepR) (j : Nat) : ((xs.take j ++ xs.drop (j + 1)).map f).sum ≤ (xs.map f).sum := by
  have e : (xs.map f).sum = ((xs.take j).map f).sum + ((xs.drop j).map f).sum := by rw [← List.sum_append, ← List.map_append, List.take_append_drop]
  have e2 : ((xs.drop (j + 1)).map f).sum ≤ ((xs.drop j).map f).sum := by
    rcases Nat.lt_or_ge j xs.length with h | h
    · rw [List.drop_eq_getElem_cons h, List.map_cons, List.sum_cons]; omega
    · rw [List.drop_eq_nil_of_le (by omega), List.drop_eq_nil_of_le (by omega)]; exact Nat.le_refl _
  rw [List.map_append, List.sum_append, e]
  omega
theorem VSmall.sum {ks : Ks} {d : Nat} {xs : List KepR} (h : VSmall ks d xs) : (xs.map (cK d)).sum ≤ 10000000 := by
  have := h.mx1
  rw [mkKs_shift] at this
  omega
theorem VSmall.top {ks : Ks} {d : Nat} {xs : List KepR} (h : VSmall ks d xs) {x : KepR} (hx : x ∈ xs) : cT d x.v ≤ 20000000 := by
  have := h.mv x hx 0 (by omega)
  rw [mkTop_shift] at this
  omega
end Go.Proofs.Ythkdkefkgmmoiaa
