/- Functions and modules as arguments: from the form's reading to the kit's. -/
import Derived.Test.YthkdkefkgmmoiaaDoorGd
import Derived.Test.YthkdkefkgmmoiaaDoorOpen
namespace Go.Proofs.YthkdkefkgmmoiaaDoor
open Go.ChangeShapes Go.WideShapes Go.ChangeAt Go.RowKit Go.Deep

theorem gcells_ints : Tryd.prog.cellsOf 32 = 1 := by kernel_rfl
theorem cells_linss : Tryd.prog.cellsOf 80 = 1 := by kernel_rfl
theorem cells_lfuns : Tryd.prog.cellsOf 31 = 1 := by kernel_rfl
theorem gopens_i64 : Opens Cod.i64 Tryd.prog 3 :=
  ⟨cells_int, fun h => by obtain ⟨q, hq, _, hw⟩ := DataW.trod_int Tryd.underlying3 h; exact ⟨q, hq, wf_I64 hw⟩⟩
theorem cells_linsr : Tryd.prog.cellsOf 111 = 3 := by kernel_rfl
set_option maxRecDepth 100000 in
theorem opens_insr : Opens Cod.insr Tryd.prog 111 :=
  ⟨cells_linsr, fun {H enc w sp held fuel cs x} h => by
    obtain ⟨xs, n, rfl, hx, hl, hlen, hfl⟩ := DataW.trod_struct Tryd.underlying111 h
    rw [cells_linsr] at hl
    match cs, hl with
    | [a0, a1, a2], _ =>
      match xs, hlen with
      | [y0, y1, y2], _ =>
        have h0 : DataW.trod _ _ _ _ _ _ n 9 (([a0, a1, a2].drop 0).take (Tryd.prog.cellsOf 9)) = some y0 := hfl 0 _ rfl
        simp only [cells_str] at h0
        obtain ⟨f0, e0, _, s0⟩ := DataW.trod_string Tryd.underlying9 h0
        have h1 : DataW.trod _ _ _ _ _ _ n 3 (([a0, a1, a2].drop 1).take (Tryd.prog.cellsOf 3)) = some y1 := hfl 1 _ rfl
        simp only [cells_int] at h1
        obtain ⟨f1, e1, _, s1⟩ := DataW.trod_int Tryd.underlying3 h1
        have h2 : DataW.trod _ _ _ _ _ _ n 3 (([a0, a1, a2].drop 2).take (Tryd.prog.cellsOf 3)) = some y2 := hfl 2 _ rfl
        simp only [cells_int] at h2
        obtain ⟨f2, e2, _, s2⟩ := DataW.trod_int Tryd.underlying3 h2
        simp at e0 e1 e2
        subst e0 e1 e2
        exact ⟨⟨f0, f1, f2⟩, rfl, ⟨s0, wf_I64 s1, wf_I64 s2⟩⟩⟩
theorem cells_lfunr : Tryd.prog.cellsOf 82 = 6 := by kernel_rfl
set_option maxRecDepth 100000 in
theorem opens_funr : Opens Cod.funr Tryd.prog 82 :=
  ⟨cells_lfunr, fun {H enc w sp held fuel cs x} h => by
    obtain ⟨xs, n, rfl, hx, hl, hlen, hfl⟩ := DataW.trod_struct Tryd.underlying82 h
    rw [cells_lfunr] at hl
    match cs, hl with
    | [a0, a1, a2, a3, a4, a5], _ =>
      match xs, hlen with
      | [y0, y1, y2, y3, y4, y5], _ =>
        have h0 : DataW.trod _ _ _ _ _ _ n 3 (([a0, a1, a2, a3, a4, a5].drop 0).take (Tryd.prog.cellsOf 3)) = some y0 := hfl 0 _ rfl
        simp only [cells_int] at h0
        obtain ⟨f0, e0, _, s0⟩ := DataW.trod_int Tryd.underlying3 h0
        have h1 : DataW.trod _ _ _ _ _ _ n 49 (([a0, a1, a2, a3, a4, a5].drop 1).take (Tryd.prog.cellsOf 49)) = some y1 := hfl 1 _ rfl
        simp only [cells_strs] at h1
        obtain ⟨v1, f1, e1, s1⟩ := Opens.sl_read Tryd.underlying49 (Opens.str Tryd.underlying9 cells_str) (by decide) h1
        have h2 : DataW.trod _ _ _ _ _ _ n 49 (([a0, a1, a2, a3, a4, a5].drop 2).take (Tryd.prog.cellsOf 49)) = some y2 := hfl 2 _ rfl
        simp only [cells_strs] at h2
        obtain ⟨v2, f2, e2, s2⟩ := Opens.sl_read Tryd.underlying49 (Opens.str Tryd.underlying9 cells_str) (by decide) h2
        have h3 : DataW.trod _ _ _ _ _ _ n 49 (([a0, a1, a2, a3, a4, a5].drop 3).take (Tryd.prog.cellsOf 49)) = some y3 := hfl 3 _ rfl
        simp only [cells_strs] at h3
        obtain ⟨v3, f3, e3, s3⟩ := Opens.sl_read Tryd.underlying49 (Opens.str Tryd.underlying9 cells_str) (by decide) h3
        have h4 : DataW.trod _ _ _ _ _ _ n 32 (([a0, a1, a2, a3, a4, a5].drop 4).take (Tryd.prog.cellsOf 32)) = some y4 := hfl 4 _ rfl
        simp only [gcells_ints] at h4
        obtain ⟨v4, f4, e4, s4⟩ := Opens.sl_read Tryd.underlying32 gopens_i64 (by decide) h4
        have h5 : DataW.trod _ _ _ _ _ _ n 80 (([a0, a1, a2, a3, a4, a5].drop 5).take (Tryd.prog.cellsOf 80)) = some y5 := hfl 5 _ rfl
        simp only [cells_linss] at h5
        obtain ⟨v5, f5, e5, s5⟩ := Opens.sl_read Tryd.underlying80 opens_insr (by decide) h5
        simp at e0 e1 e2 e3 e4 e5
        subst e0 e1 e2 e3 e4 e5
        exact ⟨⟨f0, f1, f2, f3, f4, f5⟩, _, _, _, _, _, rfl, ⟨wf_I64 s0, s1, s2, s3, s4, s5⟩⟩⟩
theorem cells_lmodr : Tryd.prog.cellsOf 34 = 3 := by kernel_rfl
set_option maxRecDepth 100000 in
theorem opens_modr : Opens Cod.modr Tryd.prog 34 :=
  ⟨cells_lmodr, fun {H enc w sp held fuel cs x} h => by
    obtain ⟨xs, n, rfl, hx, hl, hlen, hfl⟩ := DataW.trod_struct Tryd.underlying34 h
    rw [cells_lmodr] at hl
    match cs, hl with
    | [a0, a1, a2], _ =>
      match xs, hlen with
      | [y0, y1, y2], _ =>
        have h0 : DataW.trod _ _ _ _ _ _ n 30 (([a0, a1, a2].drop 0).take (Tryd.prog.cellsOf 30)) = some y0 := hfl 0 _ rfl
        simp only [cells_recs] at h0
        obtain ⟨v0, f0, e0, s0⟩ := Opens.sl_read Tryd.underlying30 opens_rec (by decide) h0
        have h1 : DataW.trod _ _ _ _ _ _ n 31 (([a0, a1, a2].drop 1).take (Tryd.prog.cellsOf 31)) = some y1 := hfl 1 _ rfl
        simp only [cells_lfuns] at h1
        obtain ⟨v1, f1, e1, s1⟩ := Opens.sl_read Tryd.underlying31 opens_funr (by decide) h1
        have h2 : DataW.trod _ _ _ _ _ _ n 32 (([a0, a1, a2].drop 2).take (Tryd.prog.cellsOf 32)) = some y2 := hfl 2 _ rfl
        simp only [gcells_ints] at h2
        obtain ⟨v2, f2, e2, s2⟩ := Opens.sl_read Tryd.underlying32 gopens_i64 (by decide) h2
        simp at e0 e1 e2
        subst e0 e1 e2
        exact ⟨⟨f0, f1, f2⟩, _, _, _, rfl, ⟨s0, s1, s2⟩⟩⟩

set_option maxRecDepth 100000 in
/-- A shelf, as an argument. -/
theorem open_shelf {H : Type} {enc : TypeId × Value → H} {w : World} {v : Value} {d : DataW H} {p : List MemPlace} {base : Nat} (hv : Value.okWide Tryd.prog w .any base 22 v) (h : DataW.Trod enc Tryd.prog w 0 (fun _ => true) true 22 v d p) : ∃ xs, Cod.modr.Sl (Old w) w v xs := by
  obtain ⟨a, l, c, rfl⟩ := okWide_slice Tryd.underlying22 hv
  obtain ⟨fuel, hf⟩ := h
  obtain ⟨v, xs, hv, hs⟩ := Opens.sl_read Tryd.underlying22 opens_modr (by decide) hf
  simp [Value.cells] at hv
  subst hv
  exact ⟨xs, hs⟩
set_option maxRecDepth 100000 in
/-- A function, as an argument. -/
theorem open_func {H : Type} {enc : TypeId × Value → H} {w : World} {v : Value} {d : DataW H} {p : List MemPlace} {base : Nat} (hv : Value.okWide Tryd.prog w .any base 82 v) (h : DataW.Trod enc Tryd.prog w 0 (fun _ => true) true 82 v d p) :
    ∃ (x : FunR) (v1 v2 v3 v4 v5 : Value), v = .agg #[.int .i64 x.seen, v1, v2, v3, v4, v5] ∧ FunRd (Old w) w v1 v2 v3 v4 v5 x := by
  obtain ⟨cs, rfl, hcs⟩ := okWide_struct Tryd.underlying82 hv
  obtain ⟨fuel, hf⟩ := h
  have hcs' : (Value.agg cs).cells.toList = cs.toList := by simp [Value.cells]
  rw [hcs'] at hf
  obtain ⟨x, v1, v2, v3, v4, v5, hl, hd⟩ := opens_funr.read hf
  have : cs = #[.int .i64 x.seen, v1, v2, v3, v4, v5] := Array.toList_inj.1 (by simpa using hl)
  exact ⟨x, v1, v2, v3, v4, v5, by rw [this], hd⟩
end Go.Proofs.YthkdkefkgmmoiaaDoor
