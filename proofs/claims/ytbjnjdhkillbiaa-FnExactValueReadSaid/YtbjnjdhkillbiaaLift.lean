/- Laws over kinds: from the contract of the Go function to the given statement. -/
import Derived.Test.YtbjnjdhkillbiaaRows
import Derived.Test.YtbjnjdhkillbiaaOpen
namespace Go.Proofs.Ytbjnjdhkillbiaa
open Go.ChangeShapes Go.WideShapes Go.ChangeAt Go.RowKit Go.Deep

theorem own_ : ownKnob Try.prog.godebug = none := by kernel_rfl
theorem laidOut_ : laidOutB Try.prog = true := by kernel_rfl
theorem cells_str : Try.prog.cellsOf 9 = 1 := by kernel_rfl
theorem cells_strs : Try.prog.cellsOf 58 = 1 := by kernel_rfl
theorem cells_int : Try.prog.cellsOf 3 = 1 := by kernel_rfl
theorem cells_rec : Try.prog.cellsOf 100 = 2 := by kernel_rfl
theorem cells_recs : Try.prog.cellsOf 68 = 1 := by kernel_rfl

set_option maxRecDepth 100000 in
theorem opens_rec : Opens Cod.rec_ Try.prog 100 :=
  ⟨cells_rec, fun h => by
    obtain ⟨y0, y1, n, _, hl, h0, h1⟩ := trod_struct2 Try.underlying100 h
    rw [cells_rec] at hl
    rename_i cs _ _
    match cs, hl with
    | [a, b], _ =>
      simp only [cells_int, cells_strs] at h0 h1
      obtain ⟨q, hq, _, hw⟩ := DataW.trod_int Try.underlying3 h0
      obtain ⟨v, fs, hv, hs⟩ := Opens.sl_read Try.underlying58 (Opens.str Try.underlying9 cells_str) (by decide) h1
      simp at hq hv
      subst hq hv
      exact ⟨⟨q, fs⟩, _, rfl, wf_I64 hw, hs⟩⟩
set_option maxRecDepth 100000 in
theorem opens_recs : Opens Cod.recs Try.prog 68 := Opens.sl Try.underlying68 opens_rec (by decide) cells_recs

set_option maxRecDepth 100000 in
/-- Kinds, as an argument. -/
theorem open_kinds {H : Type} {enc : TypeId × Value → H} {w : World} {v : Value} {d : DataW H} {p : List MemPlace} {base : Nat} (hv : Value.okWide Try.prog w .any base 36 v) (h : DataW.Trod enc Try.prog w 0 (fun _ => true) true 36 v d p) : ∃ ks, Cod.recs.Sl (Old w) w v ks := by
  obtain ⟨a, l, c, rfl⟩ := okWide_slice Try.underlying36 hv
  obtain ⟨fuel, hf⟩ := h
  obtain ⟨v, ks, hv, hs⟩ := Opens.sl_read Try.underlying36 opens_recs (by decide) hf
  simp [Value.cells] at hv
  subst hv
  exact ⟨ks, hs⟩
end Go.Proofs.Ytbjnjdhkillbiaa
