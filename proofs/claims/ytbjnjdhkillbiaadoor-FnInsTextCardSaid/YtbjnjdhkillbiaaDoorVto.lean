/- The functions that copy arguments, at values: what they hand back is new, and reads as what came in. -/
import Derived.Test.YtbjnjdhkillbiaaDoorTo
import Derived.Test.YtbjnjdhkillbiaaDoorVsz
namespace Go.Proofs.YtbjnjdhkillbiaaDoor
open Go.RowKit

theorem info_int : (Tryd.prog.info? 3).map (fun i => (i.zero, i.size, i.bytes)) = some (some (.int .i64 0), 1, 8) := by kernel_rfl
theorem info_val : (Tryd.prog.info? 27).map (fun i => (i.zero, i.size, i.bytes)) = some (some (.agg #[.string ByteArray.empty, .int .i64 0, .slice none 0 0, .slice none 0 0]), 4, 72) := by kernel_rfl

/-- No slice in it is long. -/
def Smol (P : Val → Prop) (v : Val) : Prop := v.parts.length ≤ 2000000 ∧ v.path.length ≤ 2000000 ∧ ∀ x ∈ v.parts, P x
def SmolD : Nat → Val → Prop
  | 0 => fun _ => True
  | d + 1 => Smol (SmolD d)

/-- The first of three new blocks. -/
theorem Blk.of3a (w : World) (o o' : Obj) (t : TypeId) (cs : Array Value) : Blk (((w.alloc (.cells cs t)).alloc o).alloc o') w.heap.size t cs := ((Blk.new w t cs).alloc o).alloc o'

end Go.Proofs.YtbjnjdhkillbiaaDoor
