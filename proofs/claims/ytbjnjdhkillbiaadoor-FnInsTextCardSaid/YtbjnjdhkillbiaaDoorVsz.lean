/- The functions that reckon sizes, at values. -/
import Derived.Test.YtbjnjdhkillbiaaDoorSz
import Derived.Test.YtbjnjdhkillbiaaDoorVal
namespace Go.Proofs.YtbjnjdhkillbiaaDoor
open Go.RowKit

def szI (xs : List Int) (l : Int) : Int := if l - xs.length < 0 then -1 else l - xs.length
/-- The size of a value, its parts reckoned by f. -/
def szOf (f : Val → Int → Int) (v : Val) (l : Int) : Int :=
  if l - v.ty.size < 0 then -1 else if szS f v.parts (l - v.ty.size) < 0 then -1 else szI v.path (szS f v.parts (l - v.ty.size))
def szVal : Nat → Val → Int → Int
  | 0 => fun _ _ => -1
  | d + 1 => szOf (szVal d)

theorem szI_le (xs : List Int) (l : Int) (_ : 0 ≤ l) : szI xs l ≤ l := by unfold szI; split <;> omega
theorem szOf_le {f : Val → Int → Int} (hf : ∀ x l, 0 ≤ l → f x l ≤ l) (v : Val) (l : Int) (h : 0 ≤ l) : szOf f v l ≤ l := by
  unfold szOf
  split
  · omega
  · split
    · omega
    · have h1 := szS_le hf v.parts (l - v.ty.size) (by omega)
      have h2 := szI_le v.path (szS f v.parts (l - v.ty.size)) (by omega)
      omega
theorem szVal_le : ∀ (d : Nat) (v : Val) (l : Int), 0 ≤ l → szVal d v l ≤ l
  | 0, _, _, h => by unfold szVal; omega
  | d + 1, v, l, h => szOf_le (szVal_le d) v l h

end Go.Proofs.YtbjnjdhkillbiaaDoor
