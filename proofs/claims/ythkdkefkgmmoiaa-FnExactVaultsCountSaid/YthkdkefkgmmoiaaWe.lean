/- The model's l2Copy: a copy of a value. -/
import Derived.Test.YthkdkefkgmmoiaaWb
import Derived.Test.YthkdkefkgmmoiaaGk
import Derived.Test.YthkdkefkgmmoiaaRow
import Derived.Deep.DeepCutAuto
import Derived.Deep.RegionHeld3
namespace Go.Proofs.Ythkdkefkgmmoiaa
open Go.RowKit

def CpD (c : Cod Val) (v : Val) (w : World) (e : Ending) (w' : World) : Prop :=
  ∃ A' cA' B' cB', e = .returned (.agg #[.string v.ty, .int .i64 v.n, .slice A' v.parts.length cA', .slice B' v.path.length cB']) ∧ MadeV c w w' (.slice A' v.parts.length cA') (.slice B' v.path.length cB') v
/-- What is known while the parts of a copy are made. -/
structure CV (c : Cod Val) (w : World) (M q : Nat) (A B : Option Addr) (cA cB : Nat) (vv : Val) (v pv : Value) (xs : List Val) (wr : World) : Prop where
  below : Below w.heap.size w wr
  box : Blk wr w.heap.size 95 #[.string vv.ty, .int .i64 vv.n, .slice A vv.parts.length cA, .slice B vv.path.length cB]
  res : Blk wr (w.heap.size + 1) 95 #[.string ⟨#[]⟩, .int .i64 0, .slice none 0 0, .slice none 0 0]
  var : Blk wr q 95 #[.string vv.ty, .int .i64 vv.n, v, pv]
  own : OwnRow c 95 M M wr v xs
  path : Cod.i64.Sl (fun b => w.heap.size + 1 < b ∧ b < M ∧ b ≠ q) wr pv vv.path
  lo : w.heap.size + 1 < q
  hi : q < M
  top : M ≤ wr.heap.size

theorem OwnRow.nil5 {α : Type} {c : Cod α} {e : TypeId} {base cb : Nat} {w : World} : OwnRow c e base cb w (.slice none 0 0) ([] : List α) :=
  ⟨[], World.ownsRow_nil _ _ _ _, fun _ h => by simp at h, fun _ _ h => by simp at h⟩
theorem OwnRow.own_lt5 {α : Type} {c : Cod α} {e : TypeId} {base cb : Nat} {w : World} {v : Value} {xs : List α} (h : OwnRow c e base cb w v xs) : ∀ b, v.ownBlock = some b → base ≤ b ∧ b < w.heap.size := by
  obtain ⟨us, h, _⟩ := h
  exact h.lt
theorem OwnRow.form5 {α : Type} {c : Cod α} {e : TypeId} {base cb : Nat} {w : World} {v : Value} {xs : List α} (h : OwnRow c e base cb w v xs) : ∃ A cap, v = .slice A xs.length cap := by
  obtain ⟨us, h, _⟩ := h
  rcases h.2 with ⟨rfl, h0⟩ | ⟨g, cap, cur, rfl, _⟩
  · exact ⟨none, 0, by rw [h0]⟩
  · exact ⟨_, cap, rfl⟩
theorem four_one5 {a : ByteArray} {n : Int} {A B : Option Addr} {l c l' c' : Nat} : ∀ u ∈ ([.string a, .int .i64 n, .slice A l c, .slice B l' c'] : List Value), u.oneCell' = true := fun u hu => by
  simp only [List.mem_cons, List.not_mem_nil, or_false] at hu
  rcases hu with rfl | rfl | rfl | rfl <;> rfl
section
variable {c : Cod Val} {w : World} {M q : Nat} {A B : Option Addr} {cA cB : Nat} {vv : Val} {v pv : Value} {xs : List Val}
theorem CV.go {wr w' : World} (h : CV c w M q A B cA cB vv v pv xs wr) (hb : Below wr.heap.size wr w') : CV c w M q A B cA cB vv v pv xs w' :=
  ⟨h.below.trans (hb.mono h.below.size), h.box.below hb h.box.lt, h.res.below hb h.res.lt, h.var.below hb h.var.lt, h.own.below (Nat.le_refl _) hb, h.path.keep fun b hb' => hb.block b (by have := h.top; omega), h.lo, h.hi, Nat.le_trans h.top hb.size⟩
theorem CV.put {wa w4 : World} {v4 : Value} {xs4 : List Val} (h : CV c w M q A B cA cB vv v pv xs wa) (hgr : wa.grownBy w4 v.ownBlock) (ho : OwnRow c 95 M M w4 v4 xs4) : CV c w M q A B cA cB vv v4 pv xs4 (w4.setCell ⟨q, 2, none⟩ v4) := by
  have hlo := h.lo
  have hhi := h.hi
  have htop := h.top
  have hne : ∀ b, b < M → some b ≠ v.ownBlock := fun b hb he => by have := (h.own.own_lt5 b he.symm).1; omega
  have hkp : ∀ b, b < M → b ≠ q → (w4.setCell ⟨q, 2, none⟩ v4).heap[b]? = wa.heap[b]? := fun b hb hq => (Below.heap_setCell _ _ _ _ hq).trans (hgr.block b (by omega) (hne b hb))
  have hB4 : Below w.heap.size w w4 := ⟨hgr.os.trans h.below.os, hgr.tape.trans h.below.tape, hgr.output.trans h.below.output, Nat.le_trans h.below.size hgr.size, fun i hi => (hgr.block i (by omega) (hne i (by omega))).trans (h.below.block i hi)⟩
  have hv : Blk w4 q 95 #[.string vv.ty, .int .i64 vv.n, v, pv] := (hgr.block q (by omega) (hne q hhi)).trans h.var
  exact ⟨hB4.setCell (by simp; omega) _, (hkp _ (by omega) (by omega)).trans h.box, (hkp _ (by omega) (by omega)).trans h.res, hv.set_ 2 _, ho.keep (Nat.le_refl _) (by simp [World.setCell]) fun i h1 _ => Below.heap_setCell _ _ _ _ (by simp; omega),
    h.path.keep fun b hb => hkp b hb.2.1 hb.2.2, hlo, hhi, by have := hgr.size; simp [World.setCell]; omega⟩
end
theorem size_le_alloc (w : World) (o : Obj) : w.heap.size ≤ (w.alloc o).heap.size := by simp
theorem cell_set4 {W : World} {g q : Nat} (h : g ≠ q) (a b c d : Value) (i : Nat) : ((((W.setCell ⟨q, 0, none⟩ a).setCell ⟨q, 1, none⟩ b).setCell ⟨q, 2, none⟩ c).setCell ⟨q, 3, none⟩ d).cell? ⟨g, i, none⟩ = W.cell? ⟨g, i, none⟩ :=
  World.cell?_of_block (a := ⟨g, i, none⟩) (by rw [Below.heap_setCell _ _ _ _ h, Below.heap_setCell _ _ _ _ h, Below.heap_setCell _ _ _ _ h, Below.heap_setCell _ _ _ _ h])

end Go.Proofs.Ythkdkefkgmmoiaa
