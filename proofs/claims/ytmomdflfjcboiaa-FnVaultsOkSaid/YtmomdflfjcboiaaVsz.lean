/- The functions that reckon sizes, at values. The functions that copy arguments, at values: what they hand back is new, and reads as what came in. The functions that compare, at values: where both sides read as the same, they answer true. -/
import Derived.Test.YtmomdflfjcboiaaSz
import Derived.Test.YtmomdflfjcboiaaVal
import Derived.Test.YtmomdflfjcboiaaTo
import Derived.Test.YtmomdflfjcboiaaEq
namespace Go.Proofs.Ytmomdflfjcboiaa
open Go.RowKit

def szI (xs : List Int) (l : Int) : Int := if l - xs.length < 0 then -1 else l - xs.length
/-- The size of a value, its parts reckoned by f. -/
def szOf (f : Val → Int → Int) (v : Val) (l : Int) : Int :=
  if l - v.ty.size < 0 then -1 else if szS f v.parts (l - v.ty.size) < 0 then -1 else szI v.path (szS f v.parts (l - v.ty.size))
def szVal : Nat → Val → Int → Int
  | 0 => fun _ _ => -1
  | d + 1 => szOf (szVal d)

theorem szI_le (xs : List Int) (l : Int) (_ : 0 ≤ l) : szI xs l ≤ l := by unfold szI; split <;> omega
theorem szOf_le {f : Val → Int → Int} (hf : ∀ x l, 0 ≤ l → f x l ≤ l) (v : Val) (l : Int) (h : 0 ≤ l) : szOf f v l ≤ l := by
  unfold szOf
  split
  · omega
  · split
    · omega
    · have h1 := szS_le hf v.parts (l - v.ty.size) (by omega)
      have h2 := szI_le v.path (szS f v.parts (l - v.ty.size)) (by omega)
      omega
theorem szVal_le : ∀ (d : Nat) (v : Val) (l : Int), 0 ≤ l → szVal d v l ≤ l
  | 0, _, _, h => by unfold szVal; omega
  | d + 1, v, l, h => szOf_le (szVal_le d) v l h

end Go.Proofs.Ytmomdflfjcboiaa

namespace Go.Proofs.Ytmomdflfjcboiaa
open Go.RowKit

theorem info_int : (Try.prog.info? 3).map (fun i => (i.zero, i.size, i.bytes)) = some (some (.int .i64 0), 1, 8) := by kernel_rfl
theorem info_val : (Try.prog.info? 57).map (fun i => (i.zero, i.size, i.bytes)) = some (some (.agg #[.string ByteArray.empty, .int .i64 0, .slice none 0 0, .slice none 0 0]), 4, 72) := by kernel_rfl

/-- No slice in it is long. -/
def Smol (P : Val → Prop) (v : Val) : Prop := v.parts.length ≤ 2000000 ∧ v.path.length ≤ 2000000 ∧ ∀ x ∈ v.parts, P x
def SmolD : Nat → Val → Prop
  | 0 => fun _ => True
  | d + 1 => Smol (SmolD d)

/-- The first of three new blocks. -/
theorem Blk.of3a (w : World) (o o' : Obj) (t : TypeId) (cs : Array Value) : Blk (((w.alloc (.cells cs t)).alloc o).alloc o') w.heap.size t cs := ((Blk.new w t cs).alloc o).alloc o'

end Go.Proofs.Ytmomdflfjcboiaa

namespace Go.Proofs.Ytmomdflfjcboiaa
open Go.RowKit

end Go.Proofs.Ytmomdflfjcboiaa
