/- How many marks there are at most, by the size. -/
import Derived.Test.YthhheipinogcoaaGm
import Derived.Test.YthhheipinogcoaaGz
namespace Go.Proofs.Ythhheipinogcoaa
open Go.RowKit

def Costs {α : Type} (f : α → Nat → α × Nat) (g : α → Int → Int) : Prop := ∀ (x : α) (k : Nat) (l : Int), 0 ≤ g x l → ((f x k).2 : Int) ≤ k + 3 * (l - g x l) + 3
theorem list_cost {α : Type} {f : α → Nat → α × Nat} {g : α → Int → Int} (h : Costs f g) : ∀ (xs : List α) (k : Nat) (l : Int), 0 ≤ szList g xs l → ((markL f xs k).2 : Int) ≤ k + 3 * (l - szList g xs l) + 3 * xs.length
  | [], k, l, _ => by
    show (k : Int) ≤ k + 3 * (l - l) + 3 * (([] : List α).length : Int)
    simp
  | x :: r, k, l, h0 => by
    have e : szList g (x :: r) l = if g x l < 0 then -1 else szList g r (g x l) := rfl
    rw [e] at h0 ⊢
    split at h0
    · omega
    · rename_i hn
      rw [if_neg hn]
      have h1 := h x k l (by omega)
      have h2 := list_cost h r (f x k).2 (g x l) h0
      have e2 : (markL f (x :: r) k).2 = (markL f r (f x k).2).2 := rfl
      rw [e2, List.length_cons]
      omega
theorem row_cost {α : Type} {f : α → Nat → α × Nat} {g : α → Int → Int} (h : Costs f g) (xs : List α) (k : Nat) (l : Int) (h0 : 0 ≤ szS g xs l) : ((markL f xs k).2 : Int) ≤ k + 3 * (l - szS g xs l) := by
  unfold szS at h0 ⊢
  split at h0
  · omega
  · rename_i hn
    rw [if_neg hn]
    have := list_cost h xs k _ h0
    omega
theorem mkS_many : ∀ (xs : List ByteArray) (k : Nat), (markL mkS xs k).2 = k + xs.length
  | [], k => rfl
  | x :: r, k => by
    have e : (markL mkS (x :: r) k).2 = (markL mkS r (k + 1)).2 := rfl
    rw [e, mkS_many r, List.length_cons]
    omega
theorem mkI_many : ∀ (xs : List Int) (k : Nat), (markL mkI xs k).2 = k + xs.length
  | [], k => rfl
  | x :: r, k => by
    have e : (markL mkI (x :: r) k).2 = (markL mkI r (k + 1)).2 := rfl
    rw [e, mkI_many r, List.length_cons]
    omega
theorem mkInsr_many : ∀ (xs : List InsR) (k : Nat), (markL mkInsr xs k).2 = k + 3 * xs.length
  | [], k => rfl
  | x :: r, k => by
    have e : (markL mkInsr (x :: r) k).2 = (markL mkInsr r (k + 3)).2 := rfl
    rw [e, mkInsr_many r, List.length_cons]
    omega
theorem cost_str : Costs mkS szB := fun x k l _ => by
  show ((k + 1 : Nat) : Int) ≤ k + 3 * (l - (l - x.size)) + 3
  omega
theorem row_i64 (xs : List Int) (k : Nat) (l : Int) (h : 0 ≤ szI xs l) : ((markL mkI xs k).2 : Int) ≤ k + 3 * (l - szI xs l) := by
  rw [mkI_many]
  unfold szI at h ⊢
  split at h
  · omega
  · rename_i hn
    rw [if_neg hn]
    omega
theorem cost_rec : Costs mkR szRec := fun x k l h => by
  show (((markL mkS x.fields (k + 1)).2 : Nat) : Int) ≤ _
  unfold szRec at h ⊢
  split at h
  · omega
  · rename_i hn
    rw [if_neg hn]
    have := row_cost cost_str x.fields (k + 1) l h
    omega
theorem cost_insr : Costs mkInsr szInsr := fun x k l h => by
  show ((k + 3 : Nat) : Int) ≤ _
  unfold szInsr at h ⊢
  obtain ⟨g0, h0⟩ := szThen_pos h
  rw [szThen_go (by omega)]
  omega
set_option maxHeartbeats 1000000 in
theorem cost_funr : Costs mkFunr szFunr := fun x k l h => by
  show (((markL mkInsr x.code (markL mkI x.takes (markL mkS x.locals (markL mkS x.rets (markL mkS x.args (k + 1)).2).2).2).2).2 : Nat) : Int) ≤ _
  unfold szFunr at h ⊢
  obtain ⟨g0, h0⟩ := szThen_pos h
  obtain ⟨g1, h1⟩ := szThen_pos h0
  obtain ⟨g2, h2⟩ := szThen_pos h1
  obtain ⟨g3, h3⟩ := szThen_pos h2
  obtain ⟨g4, h4⟩ := szThen_pos h3
  rw [szThen_go (by omega), szThen_go (by omega), szThen_go (by omega), szThen_go (by omega), szThen_go (by omega)]
  have e0 := row_cost cost_str x.args (k + 1) _ g0
  have e1 := row_cost cost_str x.rets (markL mkS x.args (k + 1)).2 _ g1
  have e2 := row_cost cost_str x.locals (markL mkS x.rets (markL mkS x.args (k + 1)).2).2 _ g2
  have e3 := row_i64 x.takes (markL mkS x.locals (markL mkS x.rets (markL mkS x.args (k + 1)).2).2).2 _ g3
  have e4 := row_cost cost_insr x.code (markL mkI x.takes (markL mkS x.locals (markL mkS x.rets (markL mkS x.args (k + 1)).2).2).2).2 _ g4
  omega
set_option maxHeartbeats 1000000 in
theorem cost_modr : Costs mkModr szModr := fun x k l h => by
  show (((markL mkI x.friends (markL mkFunr x.funcs (markL mkR x.records k).2).2).2 : Nat) : Int) ≤ _
  unfold szModr at h ⊢
  obtain ⟨g0, h0⟩ := szThen_pos h
  obtain ⟨g1, h1⟩ := szThen_pos h0
  obtain ⟨g2, h2⟩ := szThen_pos h1
  rw [szThen_go (by omega), szThen_go (by omega), szThen_go (by omega)]
  have e0 := row_cost cost_rec x.records k _ g0
  have e1 := row_cost cost_funr x.funcs (markL mkR x.records k).2 _ g1
  have e2 := row_i64 x.friends (markL mkFunr x.funcs (markL mkR x.records k).2).2 _ g2
  omega
theorem marks_shelf {xs : List ModR} (h : ¬ szS szModr xs 1048576 < 0) : (markL mkModr xs 1).2 ≤ 100000000 := by
  have := row_cost cost_modr xs 1 1048576 (by omega)
  omega
theorem marks_func {x : FunR} (h : SmolFunr x) : (mkFunrT x 1).2 ≤ 100000000 := by
  show (markL mkInsr x.code (markL mkI x.takes (markL mkS x.locals (markL mkS x.rets (markL mkS x.args 1).2).2).2).2).2 ≤ _
  rw [mkInsr_many, mkI_many, mkS_many, mkS_many, mkS_many]
  obtain ⟨h1, h2, h3, h4, h5, _⟩ := h
  omega
end Go.Proofs.Ythhheipinogcoaa
