/- Instructions: from the form's reading of an instruction and of the program's table to the kit's; copies and sizes. -/
import Derived.Test.YthkdkefkgmmoiaaDoorItf
import Derived.ChangeVars
import Derived.OpenVars
namespace Go.Proofs.YthkdkefkgmmoiaaDoor
open Go.ChangeShapes Go.WideShapes Go.ChangeAt Go.RowKit Go.Deep

theorem cells_lins : Tryd.prog.cellsOf 111 = 3 := by kernel_rfl
set_option maxRecDepth 100000 in
theorem open_ins {H : Type} {enc : TypeId × Value → H} {w : World} {v : Value} {d : DataW H} {p : List MemPlace} {base : Nat} (hv : Value.okWide Tryd.prog w .any base 111 v) (h : DataW.Trod enc Tryd.prog w 0 (fun _ => true) true 111 v d p) :
    ∃ (op : ByteArray) (x y : Int), v = .agg #[.string op, .int .i64 x, .int .i64 y] ∧ op.size ≤ maxLen ∧ I64 x ∧ I64 y := by
  obtain ⟨cs, rfl, hcs⟩ := okWide_struct Tryd.underlying111 hv
  obtain ⟨fuel, hf⟩ := h
  obtain ⟨xs, n, rfl, hx, hl, hlen, hfl⟩ := DataW.trod_struct Tryd.underlying111 hf
  rw [cells_lins] at hl
  have hl' : cs.toList.length = 3 := by simpa [Value.cells] using hl
  have hcs' : (Value.agg cs).cells.toList = cs.toList := by simp [Value.cells]
  simp only [hcs'] at hfl
  obtain ⟨a, b, c, hcl⟩ : ∃ a b c, cs.toList = [a, b, c] := by
    match cs.toList, hl' with
    | [a, b, c], _ => exact ⟨a, b, c, rfl⟩
  rw [hcl] at hfl
  match xs, hlen with
  | [y0, y1, y2], _ =>
    have h0 : DataW.trod _ _ _ _ _ _ n 9 (([a, b, c].drop 0).take (Tryd.prog.cellsOf 9)) = some y0 := hfl 0 _ rfl
    have h1 : DataW.trod _ _ _ _ _ _ n 3 (([a, b, c].drop 1).take (Tryd.prog.cellsOf 3)) = some y1 := hfl 1 _ rfl
    have h2 : DataW.trod _ _ _ _ _ _ n 3 (([a, b, c].drop 2).take (Tryd.prog.cellsOf 3)) = some y2 := hfl 2 _ rfl
    simp only [cells_int, cells_str] at h0 h1 h2
    obtain ⟨s, e0, _, hs⟩ := DataW.trod_string Tryd.underlying9 h0
    obtain ⟨q1, e1, _, hw1⟩ := DataW.trod_int Tryd.underlying3 h1
    obtain ⟨q2, e2, _, hw2⟩ := DataW.trod_int Tryd.underlying3 h2
    simp at e0 e1 e2
    subst e0 e1 e2
    refine ⟨s, q1, q2, ?_, hs, wf_I64 hw1, wf_I64 hw2⟩
    have : cs = #[.string s, .int .i64 q1, .int .i64 q2] := Array.toList_inj.1 (by simpa using hcl)
    rw [this]

/-- What the table reads as. -/
def rowsData : DataW Unit := Rows.laid_loop_example_heirlooms_impl_insRows
theorem rows_undo : undoSl undoRow rowsData = some tabRows := by kernel_rfl
set_option maxRecDepth 100000 in
theorem tab_of_reads {W : World} (h : Lib.VarReads Tryd.prog W "loop.example/heirlooms/impl.insRows" rowsData) : ∃ v, ITab (Old W) W v := by
  obtain ⟨g, t, cs, fuel, p, hg, ht, hv, hr⟩ := h
  have e1 : Tryd.prog.globalNamed "loop.example/heirlooms/impl.insRows" = some 0 := by kernel_rfl
  rw [e1] at hg
  cases hg
  have e2 : (Tryd.prog.globals[0]?).map (·.type) = some 123 := by kernel_rfl
  rw [e2] at ht
  cases ht
  obtain ⟨v, xs, hcs, hs, hU⟩ := Says.sl_read Tryd.underlying123 says_wrow (by decide) hr
  have hU' : undoSl undoRow rowsData = some xs := hU
  rw [rows_undo] at hU'
  cases hU'
  have hc : W.cell? ⟨0, 0, none⟩ = some v := by
    rw [World.var?_cell e1 hv 0, ← Array.getElem?_toList, hcs]; rfl
  exact ⟨v, block_lt_of_cell hc, hc, hs⟩

set_option maxRecDepth 100000 in
theorem szIns_any (op : ByteArray) (x y l : Int) (w : World) (ho : op.size ≤ maxLen) (h0 : 0 ≤ l) (h1 : l ≤ 2000000) : Calls Tryd.prog 68 #[.agg #[.string op, .int .i64 x, .int .i64 y], .int .i64 l] w fun e w' => e = .returned (.int .i64 (if l - op.size < 0 then -1 else l - op.size)) ∧ Below w.heap.size w w' := by
  unfold maxLen at ho
  have HB0 := Lib.hid (Blk.new w 111 #[.string op, .int .i64 x, .int .i64 y])
  have HW0 := Lib.hid ((Below.refl w.heap.size w).alloc (Nat.le_refl _) (.cells #[.string op, .int .i64 x, .int .i64 y] 111))
  go_enter Tryd.func68, Tryd.ntmps68
  by_cases h : l - op.size < 0
  · rw [if_pos h]
    go_wp2
    go_ret
    exact ⟨rfl, HW0.out⟩
  · rw [if_neg h]
    go_wp2
    go_ret
    exact ⟨rfl, HW0.out⟩

set_option maxRecDepth 100000 in
set_option maxHeartbeats 1000000 in
theorem toIns_any (op : ByteArray) (x y : Int) (w : World) : Calls Tryd.prog 73 #[.agg #[.string op, .int .i64 x, .int .i64 y]] w fun e w' => e = .returned (.agg #[.string op, .int .i64 x, .int .i64 y]) ∧ Below w.heap.size w w' := by
  obtain ⟨wF, hwF⟩ : ∃ wF, wF = ((w.alloc (.cells #[.string op, .int .i64 x, .int .i64 y] 111)).alloc (.cells #[.string op, .int .i64 x, .int .i64 y] 102)).alloc (.cells #[.string op, .int .i64 x, .int .i64 y] 102) := ⟨_, rfl⟩
  have HBF : Hid (Blk wF (w.heap.size + 1) 102 #[.string op, .int .i64 x, .int .i64 y]) := by
    have := (Blk.new (w.alloc (.cells #[.string op, .int .i64 x, .int .i64 y] 111)) 102 #[.string op, .int .i64 x, .int .i64 y]).alloc (.cells #[.string op, .int .i64 x, .int .i64 y] 102)
    show Blk wF _ _ _
    rw [hwF]
    simpa using this
  have HWF : Hid (Below w.heap.size w wF) := by show Below _ _ wF; rw [hwF]; exact (((Below.refl _ _).alloc (Nat.le_refl _) _).alloc (by simp) _).alloc (by simp; omega) _
  have HwF := Lib.hid hwF
  clear hwF
  go_enter Tryd.func73, Tryd.ntmps73
  go_wp2
  rw [← HwF.out]
  obtain ⟨z0, z1, z2⟩ := HBF.out.c3
  exact bodyPost_ret (v := .agg #[.string op, .int .i64 x, .int .i64 y]) (by simp [results, Tryd.results73, go_sem, z0, z1, z2]) rfl ⟨rfl, HWF.out⟩
end Go.Proofs.YthkdkefkgmmoiaaDoor
