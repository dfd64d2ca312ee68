/- Shapes as arguments: from the form's reading to the kit's. -/
import Derived.Test.YtgfpncpphpkahaaDoorJd
import Derived.Test.YtgfpncpphpkahaaDoorGo
namespace Go.Proofs.YtgfpncpphpkahaaDoor
open Go.ChangeShapes Go.WideShapes Go.ChangeAt Go.RowKit Go.Deep

theorem cells_lmarks : Tryd.prog.cellsOf 36 = 1 := by kernel_rfl
theorem cells_lmarkr : Tryd.prog.cellsOf 118 = 2 := by kernel_rfl
set_option maxRecDepth 100000 in
theorem opens_markr : Opens Cod.markr Tryd.prog 118 :=
  ⟨cells_lmarkr, fun {H enc w sp held fuel cs x} h => by
    obtain ⟨xs, n, rfl, hx, hl, hlen, hfl⟩ := DataW.trod_struct Tryd.underlying118 h
    rw [cells_lmarkr] at hl
    match cs, hl with
    | [a0, a1], _ =>
      match xs, hlen with
      | [y0, y1], _ =>
        have h0 : DataW.trod _ _ _ _ _ _ n 9 (([a0, a1].drop 0).take (Tryd.prog.cellsOf 9)) = some y0 := hfl 0 _ rfl
        simp only [cells_str] at h0
        obtain ⟨f0, e0, _, s0⟩ := DataW.trod_string Tryd.underlying9 h0
        have h1 : DataW.trod _ _ _ _ _ _ n 47 (([a0, a1].drop 1).take (Tryd.prog.cellsOf 47)) = some y1 := hfl 1 _ rfl
        simp only [gcells_ints] at h1
        obtain ⟨v1, f1, e1, s1⟩ := Opens.sl_read Tryd.underlying47 gopens_i64 (by decide) h1
        simp at e0 e1
        subst e0 e1
        exact ⟨⟨f0, f1⟩, _, rfl, ⟨s0, s1⟩⟩⟩
theorem cells_lshaper : Tryd.prog.cellsOf 38 = 2 := by kernel_rfl
set_option maxRecDepth 100000 in
theorem opens_shaper : Opens Cod.shaper Tryd.prog 38 :=
  ⟨cells_lshaper, fun {H enc w sp held fuel cs x} h => by
    obtain ⟨xs, n, rfl, hx, hl, hlen, hfl⟩ := DataW.trod_struct Tryd.underlying38 h
    rw [cells_lshaper] at hl
    match cs, hl with
    | [a0, a1], _ =>
      match xs, hlen with
      | [y0, y1], _ =>
        have h0 : DataW.trod _ _ _ _ _ _ n 36 (([a0, a1].drop 0).take (Tryd.prog.cellsOf 36)) = some y0 := hfl 0 _ rfl
        simp only [cells_lmarks] at h0
        obtain ⟨v0, f0, e0, s0⟩ := Opens.sl_read Tryd.underlying36 opens_markr (by decide) h0
        have h1 : DataW.trod _ _ _ _ _ _ n 36 (([a0, a1].drop 1).take (Tryd.prog.cellsOf 36)) = some y1 := hfl 1 _ rfl
        simp only [cells_lmarks] at h1
        obtain ⟨v1, f1, e1, s1⟩ := Opens.sl_read Tryd.underlying36 opens_markr (by decide) h1
        simp at e0 e1
        subst e0 e1
        exact ⟨⟨f0, f1⟩, _, _, rfl, ⟨s0, s1⟩⟩⟩

set_option maxRecDepth 100000 in
/-- A shape, as an argument. -/
theorem open_shape {H : Type} {enc : TypeId × Value → H} {w : World} {v : Value} {d : DataW H} {p : List MemPlace} {base : Nat} (hv : Value.okWide Tryd.prog w .any base 38 v) (h : DataW.Trod enc Tryd.prog w 0 (fun _ => true) true 38 v d p) :
    ∃ (x : ShapeR) (v0 v1 : Value), v = .agg #[v0, v1] ∧ ShapeRd (Old w) w v0 v1 x := by
  obtain ⟨cs, rfl, hcs⟩ := okWide_struct Tryd.underlying38 hv
  obtain ⟨fuel, hf⟩ := h
  have hcs' : (Value.agg cs).cells.toList = cs.toList := by simp [Value.cells]
  rw [hcs'] at hf
  obtain ⟨x, v0, v1, hl, hd⟩ := opens_shaper.read hf
  have : cs = #[v0, v1] := Array.toList_inj.1 (by simpa using hl)
  exact ⟨x, v0, v1, by rw [this], hd⟩
end Go.Proofs.YtgfpncpphpkahaaDoor
