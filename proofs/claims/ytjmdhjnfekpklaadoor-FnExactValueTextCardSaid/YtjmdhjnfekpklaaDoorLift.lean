/- Laws over kinds: from the contract of the Go function to the given statement. -/
import Derived.Test.YtjmdhjnfekpklaaDoorRows
import Derived.Test.YtjmdhjnfekpklaaDoorOpen
namespace Go.Proofs.YtjmdhjnfekpklaaDoor
open Go.ChangeShapes Go.WideShapes Go.ChangeAt Go.RowKit Go.Deep

theorem own_ : ownKnob Tryd.prog.godebug = none := by kernel_rfl
theorem laidOut_ : laidOutB Tryd.prog = true := by kernel_rfl
theorem cells_str : Tryd.prog.cellsOf 9 = 1 := by kernel_rfl
theorem cells_strs : Tryd.prog.cellsOf 55 = 1 := by kernel_rfl
theorem cells_int : Tryd.prog.cellsOf 3 = 1 := by kernel_rfl
theorem cells_rec : Tryd.prog.cellsOf 57 = 2 := by kernel_rfl
theorem cells_recs : Tryd.prog.cellsOf 40 = 1 := by kernel_rfl

set_option maxRecDepth 100000 in
theorem opens_rec : Opens Cod.rec_ Tryd.prog 57 :=
  ⟨cells_rec, fun h => by
    obtain ⟨y0, y1, n, _, hl, h0, h1⟩ := trod_struct2 Tryd.underlying57 h
    rw [cells_rec] at hl
    rename_i cs _ _
    match cs, hl with
    | [a, b], _ =>
      simp only [cells_int, cells_strs] at h0 h1
      obtain ⟨q, hq, _, hw⟩ := DataW.trod_int Tryd.underlying3 h0
      obtain ⟨v, fs, hv, hs⟩ := Opens.sl_read Tryd.underlying55 (Opens.str Tryd.underlying9 cells_str) (by decide) h1
      simp at hq hv
      subst hq hv
      exact ⟨⟨q, fs⟩, _, rfl, wf_I64 hw, hs⟩⟩
set_option maxRecDepth 100000 in
theorem opens_recs : Opens Cod.recs Tryd.prog 40 := Opens.sl Tryd.underlying40 opens_rec (by decide) cells_recs

set_option maxRecDepth 100000 in
/-- Kinds, as an argument. -/
theorem open_kinds {H : Type} {enc : TypeId × Value → H} {w : World} {v : Value} {d : DataW H} {p : List MemPlace} {base : Nat} (hv : Value.okWide Tryd.prog w .any base 22 v) (h : DataW.Trod enc Tryd.prog w 0 (fun _ => true) true 22 v d p) : ∃ ks, Cod.recs.Sl (Old w) w v ks := by
  obtain ⟨a, l, c, rfl⟩ := okWide_slice Tryd.underlying22 hv
  obtain ⟨fuel, hf⟩ := h
  obtain ⟨v, ks, hv, hs⟩ := Opens.sl_read Tryd.underlying22 opens_recs (by decide) hf
  simp [Value.cells] at hv
  subst hv
  exact ⟨ks, hs⟩
end Go.Proofs.YtjmdhjnfekpklaaDoor
