/- Functions and modules as arguments: from the form's reading to the kit's. -/
import Derived.Test.YtgfpncpphpkahaaGd
import Derived.Test.YtgfpncpphpkahaaLift
namespace Go.Proofs.Ytgfpncpphpkahaa
open Go.ChangeShapes Go.WideShapes Go.ChangeAt Go.RowKit Go.Deep

theorem gcells_ints : Try.prog.cellsOf 39 = 1 := by kernel_rfl
theorem gopens_i64 : Opens Cod.i64 Try.prog 3 :=
  ⟨cells_int, fun h => by obtain ⟨q, hq, _, hw⟩ := DataW.trod_int Try.underlying3 h; exact ⟨q, hq, wf_I64 hw⟩⟩
end Go.Proofs.Ytgfpncpphpkahaa
