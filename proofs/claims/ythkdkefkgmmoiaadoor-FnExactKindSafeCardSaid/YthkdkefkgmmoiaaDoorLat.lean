/- Regions that draw their order, whose operations only read what was there, and whose callees make memory: one walk of the lexical order, in the class of the worlds that come later. No program is named here. -/
import Derived.Test.YthkdkefkgmmoiaaDoorKit
namespace Go.Proofs.YthkdkefkgmmoiaaDoor
open Go.RowKit

/-- A world in which all that was there in w0 is as it was. -/
structure Later (w0 : World) where
  w : World
  h : Below w0.heap.size w0 w
instance {w0 : World} : Nonempty (Later w0) := ⟨⟨w0, Below.refl _ _⟩⟩
theorem Later.cell {w0 : World} {p : Addr} {u : Value} (hp : p.block < w0.heap.size) (h : w0.cell? p = some u) (s : Later w0) : s.w.cell? p = some u := (s.h.cell hp).trans h
theorem wp_region_later {P : Program} {id : Nat} {Q : Exit → Act → World → Prop} {a : Act} {w : World} {l : List Oper} (w0 : World) (h0 : Below w0.heap.size w0 w) (hm : P.follows .mixedOrders = true) (hB : Region.lexB .any l.toArray = true)
    (h : wpQuiet P l.toArray (fun w' => ∃ s : Later w0, w' = s.w) (fun a' => ∀ s : Later w0, Q .normal a' s.w) l a) : (Code.region id l.toArray true).wp P Q a w := by
  refine wp_region_quiet (C := fun w' => ∃ s : Later w0, w' = s.w) hm hB ⟨⟨{ w with drawn := w.drawn + 1 }, h0.trans ⟨rfl, rfl, rfl, Nat.le_refl _, fun _ _ => rfl⟩⟩, rfl⟩ ?_
  have e : (fun a' => ∀ w', (∃ s : Later w0, w' = s.w) → Q .normal a' w') = (fun a' => ∀ s : Later w0, Q .normal a' s.w) := by
    funext a'
    exact propext ⟨fun h s => h _ ⟨s, rfl⟩, fun h w' ⟨s, hs⟩ => by rw [hs]; exact h s⟩
  rw [e]
  simpa using h
theorem Calls.later {P : Program} {f : FuncId} {args : Array Value} {w0 : World} {s : Later w0} {v : Value} (h : Calls P f args s.w fun e w' => e = .returned v ∧ Below s.w.heap.size s.w w') :
    Calls P f args s.w fun e w'' => e = .returned v ∧ ∃ s' : Later w0, w'' = s'.w :=
  h.mono fun _ w' ⟨he, hb⟩ => ⟨he, ⟨w', s.h.trans (hb.mono s.h.size)⟩, rfl⟩
end Go.Proofs.YthkdkefkgmmoiaaDoor
