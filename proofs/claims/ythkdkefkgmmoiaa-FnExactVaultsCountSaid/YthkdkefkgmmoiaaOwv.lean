/- Values of a call's own: marked. Values held: what has been marked reads so. -/
import Derived.Test.YthkdkefkgmmoiaaMk
namespace Go.Proofs.Ythkdkefkgmmoiaa
open Go.RowKit

def HasO {α : Type} (c : OCod α) : Prop := ∃ lo hi w cs x, c.rd lo hi w cs x
structure IsO (c e : OCod Val) (tv ti : TypeId) : Prop where
  size : c.cod.size = 4
  rd : ∀ {lo hi : Nat} {w : World} {cs : List Value} {x : Val}, c.rd lo hi w cs x → ∃ a p, cs = [.string x.ty, .int .i64 x.n, a, p] ∧ OV e tv ti lo hi w a p x
  back : HasO c → ∀ {lo hi : Nat} {w : World} {a p : Value} {x : Val}, OV e tv ti lo hi w a p x → c.rd lo hi w [.string x.ty, .int .i64 x.n, a, p] x
theorem IsO.of (c : OCod Val) (tv ti : TypeId) : IsO (c.of tv ti) c tv ti := ⟨rfl, fun h => h, fun _ _ _ _ _ _ _ h => ⟨_, _, rfl, h⟩⟩
theorem IsO.no (e : OCod Val) (tv ti : TypeId) : IsO OCod.no e tv ti := ⟨rfl, fun h => h.elim, fun h => by obtain ⟨_, _, _, _, _, h⟩ := h; exact h.elim⟩
theorem no_o : ¬ HasO OCod.no := fun ⟨_, _, _, _, _, h⟩ => h

def mkOf (g : Val → Nat → Val × Nat) (v : Val) (k : Nat) : Val × Nat :=
  (.mk (mt k) ((k + 1 : Nat) : Int) (markL g v.parts (k + 2)).1 (markL mkI v.path (markL g v.parts (k + 2)).2).1, (markL mkI v.path (markL g v.parts (k + 2)).2).2)
def mkV : Nat → Val → Nat → Val × Nat
  | 0 => fun v k => (v, k)
  | d + 1 => mkOf (mkV d)
theorem mkOf_le {g : Val → Nat → Val × Nat} (h : ∀ x k, k ≤ (g x k).2) (v : Val) (k : Nat) : k + 2 ≤ (markL g v.parts (k + 2)).2 ∧ (markL g v.parts (k + 2)).2 ≤ (mkOf g v k).2 :=
  ⟨markL_le h _ _, markL_le (f := mkI) (fun _ k => Nat.le_succ k) _ _⟩
theorem mkV_le : ∀ d x k, k ≤ (mkV d x k).2
  | 0, _, _ => Nat.le_refl _
  | d + 1, x, k => by have := mkOf_le (mkV_le d) x k; show k ≤ (mkOf (mkV d) x k).2; omega

def MarkVD (d lo hi : Nat) (w : World) (a p : Value) (y : Val) (k : Nat) (e : Ending) (w' : World) : Prop :=
  e = .returned (.int .i64 k) ∧ OV (OCod.val 95 3 d) 95 3 lo hi w' a p y ∧ Wrote lo hi w w'
/-- A value marked, itself not: its text and its number are no memory. -/
def mkTop (g : Val → Nat → Val × Nat) (v : Val) (k : Nat) : Val × Nat :=
  (.mk v.ty v.n (markL g v.parts k).1 (markL mkI v.path (markL g v.parts k).2).1, (markL mkI v.path (markL g v.parts k).2).2)

end Go.Proofs.Ythkdkefkgmmoiaa

namespace Go.Proofs.Ythkdkefkgmmoiaa
open Go.RowKit

end Go.Proofs.Ythkdkefkgmmoiaa
