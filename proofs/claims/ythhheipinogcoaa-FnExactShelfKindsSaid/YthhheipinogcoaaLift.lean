/- Laws over kinds: from the contract of the Go function to the given statement. -/
import Derived.Test.YthhheipinogcoaaRows
import Derived.Test.YthhheipinogcoaaOpen
namespace Go.Proofs.Ythhheipinogcoaa
open Go.ChangeShapes Go.WideShapes Go.ChangeAt Go.RowKit Go.Deep

theorem own_ : ownKnob Try.prog.godebug = none := by kernel_rfl
theorem laidOut_ : laidOutB Try.prog = true := by kernel_rfl
theorem cells_str : Try.prog.cellsOf 9 = 1 := by kernel_rfl
theorem cells_strs : Try.prog.cellsOf 33 = 1 := by kernel_rfl
theorem cells_int : Try.prog.cellsOf 3 = 1 := by kernel_rfl
theorem cells_rec : Try.prog.cellsOf 110 = 2 := by kernel_rfl
theorem cells_recs : Try.prog.cellsOf 53 = 1 := by kernel_rfl

set_option maxRecDepth 100000 in
theorem opens_rec : Opens Cod.rec_ Try.prog 110 :=
  ⟨cells_rec, fun h => by
    obtain ⟨y0, y1, n, _, hl, h0, h1⟩ := trod_struct2 Try.underlying110 h
    rw [cells_rec] at hl
    rename_i cs _ _
    match cs, hl with
    | [a, b], _ =>
      simp only [cells_int, cells_strs] at h0 h1
      obtain ⟨q, hq, _, hw⟩ := DataW.trod_int Try.underlying3 h0
      obtain ⟨v, fs, hv, hs⟩ := Opens.sl_read Try.underlying33 (Opens.str Try.underlying9 cells_str) (by decide) h1
      simp at hq hv
      subst hq hv
      exact ⟨⟨q, fs⟩, _, rfl, wf_I64 hw, hs⟩⟩
set_option maxRecDepth 100000 in
theorem opens_recs : Opens Cod.recs Try.prog 53 := Opens.sl Try.underlying53 opens_rec (by decide) cells_recs

end Go.Proofs.Ythhheipinogcoaa
