/- Vaults of a call's own: marked, and held. -/
import Derived.Test.YthkdkefkgmmoiaaWb
namespace Go.Proofs.Ythkdkefkgmmoiaa
open Go.RowKit

def MarkRow5 {α : Type} (c : OCod α) (t : TypeId) (f : FuncId) (m : α → Nat → α × Nat) : Prop := ∀ (lo hi k : Nat) (v : Value) (xs : List α) (w : World), Own c t lo hi w v xs → hi ≤ w.heap.size → 0 < k → (markL m xs k).2 ≤ 100000000 →
    Calls Try.prog f #[v, .int .i64 k] w (MarkD c t lo hi w v (markL m xs k).1 (markL m xs k).2)
def HeldRow5 {α : Type} (c : Cod α) (f : FuncId) (m : α → Nat → α × Nat) : Prop := ∀ (F : Nat → Prop) (k : Nat) (v : Value) (xs : List α) (w : World), c.Sl F w v (markL m xs k).1 → (∀ b, F b → b < w.heap.size) → 0 < k → (markL m xs k).2 ≤ 100000000 →
    Calls Try.prog f #[v, .int .i64 k] w fun e w' => e = .returned (.int .i64 (markL m xs k).2) ∧ Below w.heap.size w w'
def mkKep (d : Nat) (x : KepR) (k : Nat) : KepR × Nat :=
  (⟨(k : Nat), .mk (mt (k + 1)) ((k + 2 : Nat) : Int) (markL (mkV d) x.v.parts (k + 3)).1 (markL mkI x.v.path (markL (mkV d) x.v.parts (k + 3)).2).1⟩, (markL mkI x.v.path (markL (mkV d) x.v.parts (k + 3)).2).2)
theorem mkKep_ge (d : Nat) (x : KepR) (k : Nat) : k + 3 ≤ (markL (mkV d) x.v.parts (k + 3)).2 ∧ (markL (mkV d) x.v.parts (k + 3)).2 ≤ (mkKep d x k).2 :=
  ⟨markL_le (mkV_le d) _ _, markL_le (f := mkI) (fun _ k => Nat.le_succ k) _ _⟩
theorem mkKep_le (d : Nat) (x : KepR) (k : Nat) : k ≤ (mkKep d x k).2 := by have := mkKep_ge d x k; omega

end Go.Proofs.Ythkdkefkgmmoiaa
