/- From the form's reading of arguments to the kit's, whatever the program. Laws over kinds: from the contract of the Go function to the given statement. -/
import Derived.Test.YthkdkefkgmmoiaaDoorKit
import Derived.ProofKit
import Derived.Deep.Slices
import Derived.Test.YthkdkefkgmmoiaaDoorRows
namespace Go.Proofs.YthkdkefkgmmoiaaDoor
open Go.ChangeShapes Go.WideShapes Go.ChangeAt Go.RowKit Go.Deep

/-- What the form reads at a type, the kit reads too. -/
structure Opens {α : Type} (c : Cod α) (P : Program) (e : TypeId) : Prop where
  size : P.cellsOf e = c.size
  read : ∀ {H : Type} {enc : TypeId × Value → H} {w : World} {sp : Nat → Bool} {held : Bool} {fuel : Nat} {cs : List Value} {x : DataW H × List MemPlace}, DataW.trod enc P w 0 sp held fuel e cs = some x → ∃ y, c.rd (Old w) w cs y

theorem list_of {α : Type} {p : Nat → α → Prop} : ∀ (n : Nat), (∀ i, i < n → ∃ y, p i y) → ∃ xs : List α, xs.length = n ∧ ∀ i x, xs[i]? = some x → p i x
  | 0, _ => ⟨[], rfl, fun i x h => by simp at h⟩
  | n + 1, h => by
    obtain ⟨xs, h1, h2⟩ := list_of n fun i hi => h i (by omega)
    obtain ⟨y, hy⟩ := h n (by omega)
    refine ⟨xs ++ [y], by simp [h1], fun i x hx => ?_⟩
    by_cases hi : i < xs.length
    · rw [List.getElem?_append_left hi] at hx
      exact h2 i x hx
    · have hl : i < (xs ++ [y]).length := (List.getElem?_eq_some_iff.1 hx).1
      simp at hl
      obtain rfl : i = n := by omega
      rw [List.getElem?_append_right (by omega), h1] at hx
      simp at hx
      subst hx
      exact hy

theorem Opens.str {P : Program} {e : TypeId} (ht : P.underlying e = some .string) (hc : P.cellsOf e = 1) : Opens Cod.str P e :=
  ⟨hc, fun h => by obtain ⟨s, rfl, _, hs⟩ := DataW.trod_string ht h; exact ⟨s, rfl, hs⟩⟩

theorem wf_I64 {n : Int} (h : (Lit.int .i64 n).wf = true) : I64 n := by
  have h1 : IntKind.i64.min = -9223372036854775808 := rfl
  have h2 : IntKind.i64.max = 9223372036854775807 := rfl
  simp only [Lit.wf, Bool.and_eq_true, decide_eq_true_eq] at h
  unfold I64
  omega

theorem Opens.sl_read {α : Type} {c : Cod α} {P : Program} {t e : TypeId} (ht : P.underlying t = some (.slice e)) (h : Opens c P e) (hp : 0 < c.size) {H : Type} {enc : TypeId × Value → H} {w : World} {sp : Nat → Bool} {held : Bool} {fuel : Nat} {cs : List Value} {x : DataW H × List MemPlace}
    (hx : DataW.trod enc P w 0 sp held fuel t cs = some x) : ∃ v xs, cs = [v] ∧ c.Sl (Old w) w v xs := by
  rcases open_slice ht hx with ⟨rfl, _⟩ | ⟨a, len, cap, m, n, D, Pl, rfl, _, hl, hm, hmm, _, hi⟩
  · exact ⟨_, [], rfl, Cod.Sl.nil_⟩
  · obtain ⟨xs, h1, h2⟩ := list_of (p := fun i y => ∃ cs', w.cells? 0 (a.add (i * c.size)) c.size = some cs' ∧ c.rd (Old w) w cs' y) len fun i hlt => by
      obtain ⟨cs', hc, ht'⟩ := hi i (by rw [hmm]; split <;> omega)
      obtain ⟨y, hy⟩ := h.read ht'
      rw [h.size] at hc
      exact ⟨y, cs', hc, hy⟩
    refine ⟨_, xs, rfl, some a, cap, by rw [h1], by omega, hm, fun hpos => ?_⟩
    have hcell : ∀ i x, xs[i]? = some x → ∃ cs', (∀ j, j < c.size → w.cell? ((a.add (i * c.size)).add j) = cs'[j]?) ∧ cs'.length = c.size ∧ c.rd (Old w) w cs' x := fun i x hx => by
      obtain ⟨cs', hc, hy⟩ := h2 i x hx
      obtain ⟨_, hlen, hat⟩ := World.cells?_some hc
      exact ⟨cs', hat, hlen, hy⟩
    obtain ⟨c0, hc0, hl0, _⟩ := hcell 0 xs[0] (List.getElem?_eq_getElem hpos)
    have hv : w.cell? ((a.add (0 * c.size)).add 0) = some (c0[0]'(by omega)) := by rw [hc0 0 hp, List.getElem?_eq_getElem]
    obtain ⟨b, off, spot⟩ := a
    have hspot : spot = none := by simpa [Addr.add] using World.cell?_spot hv
    subst hspot
    have hblk : b < w.heap.size := by simpa [Addr.add] using block_lt_of_cell hv
    refine ⟨b, off, rfl, hblk, fun i x hx => ?_⟩
    obtain ⟨cs', hat, hlen, hy⟩ := hcell i x hx
    refine ⟨cs', fun j u hu => ?_, hy⟩
    have hj : j < cs'.length := (List.getElem?_eq_some_iff.1 hu).1
    have := hat j (by omega)
    rw [hu] at this
    rw [← this, add_plain, add_plain]

theorem Opens.sl {α : Type} {c : Cod α} {P : Program} {t e : TypeId} (ht : P.underlying t = some (.slice e)) (h : Opens c P e) (hp : 0 < c.size) (hc : P.cellsOf t = 1) : Opens c.sl P t :=
  ⟨hc, fun hx => by obtain ⟨v, xs, hv, hs⟩ := Opens.sl_read ht h hp hx; exact ⟨xs, v, hv, hs⟩⟩
end Go.Proofs.YthkdkefkgmmoiaaDoor

namespace Go.Proofs.YthkdkefkgmmoiaaDoor
open Go.ChangeShapes Go.WideShapes Go.ChangeAt Go.RowKit Go.Deep

theorem own_ : ownKnob Tryd.prog.godebug = none := by kernel_rfl
theorem laidOut_ : laidOutB Tryd.prog = true := by kernel_rfl
theorem cells_str : Tryd.prog.cellsOf 9 = 1 := by kernel_rfl
theorem cells_strs : Tryd.prog.cellsOf 49 = 1 := by kernel_rfl
theorem cells_int : Tryd.prog.cellsOf 3 = 1 := by kernel_rfl
theorem cells_rec : Tryd.prog.cellsOf 78 = 2 := by kernel_rfl
theorem cells_recs : Tryd.prog.cellsOf 30 = 1 := by kernel_rfl

set_option maxRecDepth 100000 in
theorem opens_rec : Opens Cod.rec_ Tryd.prog 78 :=
  ⟨cells_rec, fun h => by
    obtain ⟨y0, y1, n, _, hl, h0, h1⟩ := trod_struct2 Tryd.underlying78 h
    rw [cells_rec] at hl
    rename_i cs _ _
    match cs, hl with
    | [a, b], _ =>
      simp only [cells_int, cells_strs] at h0 h1
      obtain ⟨q, hq, _, hw⟩ := DataW.trod_int Tryd.underlying3 h0
      obtain ⟨v, fs, hv, hs⟩ := Opens.sl_read Tryd.underlying49 (Opens.str Tryd.underlying9 cells_str) (by decide) h1
      simp at hq hv
      subst hq hv
      exact ⟨⟨q, fs⟩, _, rfl, wf_I64 hw, hs⟩⟩
set_option maxRecDepth 100000 in
theorem opens_recs : Opens Cod.recs Tryd.prog 30 := Opens.sl Tryd.underlying30 opens_rec (by decide) cells_recs

end Go.Proofs.YthkdkefkgmmoiaaDoor
