/- Laws over kinds: from the contract of the Go function to the given statement. -/
import Derived.Test.YtgfpncpphpkahaaDoorRows
import Derived.Test.YtgfpncpphpkahaaDoorOpen
namespace Go.Proofs.YtgfpncpphpkahaaDoor
open Go.ChangeShapes Go.WideShapes Go.ChangeAt Go.RowKit Go.Deep

theorem own_ : ownKnob Tryd.prog.godebug = none := by kernel_rfl
theorem laidOut_ : laidOutB Tryd.prog = true := by kernel_rfl
theorem cells_str : Tryd.prog.cellsOf 9 = 1 := by kernel_rfl
theorem cells_strs : Tryd.prog.cellsOf 53 = 1 := by kernel_rfl
theorem cells_int : Tryd.prog.cellsOf 3 = 1 := by kernel_rfl
theorem cells_rec : Tryd.prog.cellsOf 134 = 2 := by kernel_rfl
theorem cells_recs : Tryd.prog.cellsOf 45 = 1 := by kernel_rfl

set_option maxRecDepth 100000 in
theorem opens_rec : Opens Cod.rec_ Tryd.prog 134 :=
  ⟨cells_rec, fun h => by
    obtain ⟨y0, y1, n, _, hl, h0, h1⟩ := trod_struct2 Tryd.underlying134 h
    rw [cells_rec] at hl
    rename_i cs _ _
    match cs, hl with
    | [a, b], _ =>
      simp only [cells_int, cells_strs] at h0 h1
      obtain ⟨q, hq, _, hw⟩ := DataW.trod_int Tryd.underlying3 h0
      obtain ⟨v, fs, hv, hs⟩ := Opens.sl_read Tryd.underlying53 (Opens.str Tryd.underlying9 cells_str) (by decide) h1
      simp at hq hv
      subst hq hv
      exact ⟨⟨q, fs⟩, _, rfl, wf_I64 hw, hs⟩⟩
set_option maxRecDepth 100000 in
theorem opens_recs : Opens Cod.recs Tryd.prog 45 := Opens.sl Tryd.underlying45 opens_rec (by decide) cells_recs

end Go.Proofs.YtgfpncpphpkahaaDoor
