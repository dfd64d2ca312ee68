/- Laws over kinds: from the contract of the Go function to the given statement. -/
import Derived.Test.YtgfpncpphpkahaaRows
import Derived.Test.YtgfpncpphpkahaaOpen
namespace Go.Proofs.Ytgfpncpphpkahaa
open Go.ChangeShapes Go.WideShapes Go.ChangeAt Go.RowKit Go.Deep

theorem own_ : ownKnob Try.prog.godebug = none := by kernel_rfl
theorem laidOut_ : laidOutB Try.prog = true := by kernel_rfl
theorem cells_str : Try.prog.cellsOf 9 = 1 := by kernel_rfl
theorem cells_strs : Try.prog.cellsOf 46 = 1 := by kernel_rfl
theorem cells_int : Try.prog.cellsOf 3 = 1 := by kernel_rfl
end Go.Proofs.Ytgfpncpphpkahaa
