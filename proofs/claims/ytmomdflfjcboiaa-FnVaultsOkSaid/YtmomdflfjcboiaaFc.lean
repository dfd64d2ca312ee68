/- A code as an argument. -/
import Derived.Test.YtmomdflfjcboiaaDraw
import Derived.Test.YtmomdflfjcboiaaOpen
namespace Go.Proofs.Ytmomdflfjcboiaa
open Go.ChangeShapes Go.WideShapes Go.ChangeAt Go.RowKit Go.Deep

theorem cells_u8 : Try.prog.cellsOf 5 = 1 := by kernel_rfl
theorem opens_u8 : Opens Cod.u8 Try.prog 5 :=
  ⟨cells_u8, fun h => by
    obtain ⟨q, hq, _, hw⟩ := DataW.trod_int Try.underlying5 h
    have h1 : IntKind.u8.min = 0 := rfl
    have h2 : IntKind.u8.max = 255 := rfl
    simp only [Lit.wf, Bool.and_eq_true, decide_eq_true_eq] at hw
    refine ⟨q.toNat, ?_, by omega⟩
    rw [hq, Int.toNat_of_nonneg (by omega)]⟩
set_option maxRecDepth 100000 in
/-- A code, as an argument. -/
theorem open_code {H : Type} {enc : TypeId × Value → H} {w : World} {v : Value} {d : DataW H} {p : List MemPlace} {base : Nat} (hv : Value.okWide Try.prog w .any base 22 v) (h : DataW.Trod enc Try.prog w 0 (fun _ => true) true 22 v d p) : ∃ xs, Cod.u8.Sl (Old w) w v xs := by
  obtain ⟨a, l, c, rfl⟩ := okWide_slice Try.underlying22 hv
  obtain ⟨fuel, hf⟩ := h
  obtain ⟨v, xs, hv, hs⟩ := Opens.sl_read Try.underlying22 opens_u8 (by decide) hf
  simp [Value.cells] at hv
  subst hv
  exact ⟨xs, hs⟩
end Go.Proofs.Ytmomdflfjcboiaa
