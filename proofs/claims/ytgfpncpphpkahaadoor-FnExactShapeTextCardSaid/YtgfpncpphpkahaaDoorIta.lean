/- From a listed variable's datum to what its memory reads as; instructions, and the table of their words. -/
import Derived.Test.YtgfpncpphpkahaaDoorVlk
import Derived.Lib.LaidU8
import Derived.LaidMore
namespace Go.Proofs.YtgfpncpphpkahaaDoor
open Go.ChangeShapes Go.WideShapes Go.ChangeAt Go.RowKit Go.Deep

/-- What the form reads at a type, the kit reads too, and the datum tells it. -/
structure Says {α : Type} (c : Cod α) (P : Program) (e : TypeId) (U : DataW Unit → Option α) : Prop where
  size : P.cellsOf e = c.size
  read : ∀ {w : World} {sp : Nat → Bool} {held : Bool} {fuel : Nat} {cs : List Value} {x : DataW Unit × List MemPlace}, DataW.trod (fun _ : TypeId × Value => ()) P w 0 sp held fuel e cs = some x → ∃ y, c.rd (Old w) w cs y ∧ U x.1 = some y

def undoS : DataW Unit → Option ByteArray
  | .lit (.string l) => some ⟨l.toArray⟩
  | _ => none
def undoI : DataW Unit → Option Int
  | .lit (.int .i64 q) => some q
  | _ => none
def undoL {α : Type} (U : DataW Unit → Option α) : List (DataW Unit) → Option (List α)
  | [] => some []
  | d :: r => match U d, undoL U r with | some x, some xs => some (x :: xs) | _, _ => none
def undoSl {α : Type} (U : DataW Unit → Option α) : DataW Unit → Option (List α)
  | .nil => some []
  | .slice ds _ => undoL U ds
  | _ => none
theorem undoL_all {α : Type} {U : DataW Unit → Option α} : ∀ (ds : List (DataW Unit)) (xs : List α), xs.length = ds.length → (∀ (i : Nat) (x : α), xs[i]? = some x → ∃ d, ds[i]? = some d ∧ U d = some x) → undoL U ds = some xs
  | [], xs, hl, _ => by have : xs = [] := List.eq_nil_of_length_eq_zero hl; rw [this]; rfl
  | d :: r, [], hl, _ => by simp at hl
  | d :: r, x :: xs, hl, h => by
    obtain ⟨d', h1, h2⟩ := h 0 x rfl
    simp at h1
    subst h1
    have ih := undoL_all r xs (by simpa using hl) fun i y hy => by
      obtain ⟨d', h3, h4⟩ := h (i + 1) y (by simpa using hy)
      exact ⟨d', by simpa using h3, h4⟩
    show (match U d, undoL U r with | some x, some xs => some (x :: xs) | _, _ => none) = _
    rw [h2, ih]

theorem Says.str {P : Program} {e : TypeId} (ht : P.underlying e = some .string) (hc : P.cellsOf e = 1) : Says Cod.str P e undoS :=
  ⟨hc, fun h => by obtain ⟨s, rfl, hx, hs⟩ := DataW.trod_string ht h; exact ⟨s, ⟨rfl, hs⟩, by rw [hx]; rfl⟩⟩
theorem Says.i64 {P : Program} {e : TypeId} (ht : P.underlying e = some (.int .i64)) (hc : P.cellsOf e = 1) : Says Cod.i64 P e undoI :=
  ⟨hc, fun h => by obtain ⟨q, rfl, hx, hw⟩ := DataW.trod_int ht h; exact ⟨q, ⟨rfl, wf_I64 hw⟩, by rw [hx]; rfl⟩⟩
theorem Says.sl_read {α : Type} {c : Cod α} {P : Program} {t e : TypeId} {U : DataW Unit → Option α} (ht : P.underlying t = some (.slice e)) (h : Says c P e U) (hp : 0 < c.size) {w : World} {sp : Nat → Bool} {held : Bool} {fuel : Nat} {cs : List Value} {x : DataW Unit × List MemPlace}
    (hx : DataW.trod (fun _ : TypeId × Value => ()) P w 0 sp held fuel t cs = some x) : ∃ v xs, cs = [v] ∧ c.Sl (Old w) w v xs ∧ undoSl U x.1 = some xs := by
  rcases DataW.trod_slice ht hx with ⟨rfl, rfl⟩ | ⟨a, len, cap, elems, rest, n, rfl, rfl, rfl, _, hl, hm, hlen, hel, _, _⟩
  · exact ⟨_, [], rfl, Cod.Sl.nil_, rfl⟩
  · obtain ⟨xs, h1, h2⟩ := list_of (p := fun i y => (∃ cs', w.cells? 0 (a.add (i * c.size)) c.size = some cs' ∧ c.rd (Old w) w cs' y) ∧ ∃ d, (elems.map (·.1))[i]? = some d ∧ U d = some y) len fun i hlt => by
      have hq := hel i hlt
      have he : elems[i]? = some (elems[i]'(by omega)) := List.getElem?_eq_getElem (by omega)
      rw [he] at hq
      obtain ⟨cs', hc, ht'⟩ := Option.bind_eq_some_iff.1 hq
      obtain ⟨y, hy, hU⟩ := h.read ht'
      rw [h.size] at hc
      exact ⟨y, ⟨cs', hc, hy⟩, _, by rw [List.getElem?_map, he]; rfl, hU⟩
    refine ⟨_, xs, rfl, ⟨some a, cap, by rw [h1], by omega, hm, fun hpos => ?_⟩, undoL_all _ xs (by simp; omega) fun i x hi => (h2 i x hi).2⟩
    have hcell : ∀ i x, xs[i]? = some x → ∃ cs', (∀ j, j < c.size → w.cell? ((a.add (i * c.size)).add j) = cs'[j]?) ∧ cs'.length = c.size ∧ c.rd (Old w) w cs' x := fun i x hx => by
      obtain ⟨⟨cs', hc, hy⟩, _⟩ := h2 i x hx
      obtain ⟨_, hlen, hat⟩ := World.cells?_some hc
      exact ⟨cs', hat, hlen, hy⟩
    obtain ⟨c0, hc0, hl0, _⟩ := hcell 0 xs[0] (List.getElem?_eq_getElem hpos)
    have hv : w.cell? ((a.add (0 * c.size)).add 0) = some (c0[0]'(by omega)) := by rw [hc0 0 hp, List.getElem?_eq_getElem]
    obtain ⟨b, off, spot⟩ := a
    have hspot : spot = none := by simpa [Addr.add] using World.cell?_spot hv
    subst hspot
    have hblk : b < w.heap.size := by simpa [Addr.add] using block_lt_of_cell hv
    refine ⟨b, off, rfl, hblk, fun i x hx => ?_⟩
    obtain ⟨cs', hat, hlen, hy⟩ := hcell i x hx
    refine ⟨cs', fun j u hu => ?_, hy⟩
    have hj : j < cs'.length := (List.getElem?_eq_some_iff.1 hu).1
    have := hat j (by omega)
    rw [hu] at this
    rw [← this, add_plain, add_plain]

/-- A row of words, and the greatest numbers that these need. -/
structure WRow where
  words : List ByteArray
  a : Int
  b : Int
def Cod.wrow : Cod WRow where
  size := 3
  rd F w cs r := ∃ v, cs = [v, .int .i64 r.a, .int .i64 r.b] ∧ I64 r.a ∧ I64 r.b ∧ Cod.str.Sl F w v r.words
  len h := by obtain ⟨v, rfl, _⟩ := h; rfl
  keep hk h := by obtain ⟨v, hv, ha, hb, h⟩ := h; exact ⟨v, hv, ha, hb, h.keep hk⟩
  mono hg h := by obtain ⟨v, hv, ha, hb, h⟩ := h; exact ⟨v, hv, ha, hb, h.mono hg⟩
theorem Cod.Sl.wrow_at {F : Nat → Prop} {w : World} {v : Value} {xs : List WRow} (h : Cod.wrow.Sl F w v xs) {k : Nat} (hk : k < xs.length) : ∃ b off cap u, v = .slice (some ⟨b, off, none⟩) xs.length cap ∧ F b ∧ xs.length ≤ cap ∧ cap ≤ maxLen ∧
    w.cell? ⟨b, off + k * 3, none⟩ = some u ∧ w.cell? ⟨b, off + k * 3 + 1, none⟩ = some (.int .i64 (xs[k]).a) ∧ w.cell? ⟨b, off + k * 3 + 2, none⟩ = some (.int .i64 (xs[k]).b) ∧ I64 (xs[k]).a ∧ I64 (xs[k]).b ∧ Cod.str.Sl F w u (xs[k]).words := by
  obtain ⟨b, off, cap, cs, hv, hF, h1, h2, hcell, u, rfl, ha, hb, hu⟩ := h.get hk
  exact ⟨b, off, cap, u, hv, hF, h1, h2, by simpa [Cod.wrow] using hcell 0 _ rfl, by simpa [Cod.wrow] using hcell 1 _ rfl, by simpa [Cod.wrow] using hcell 2 _ rfl, ha, hb, hu⟩
def undoRow : DataW Unit → Option WRow
  | .agg [x, y, z] => match undoSl undoS x, undoI y, undoI z with | some ws, some a, some b => some ⟨ws, a, b⟩ | _, _, _ => none
  | _ => none
theorem cells_wrow : Tryd.prog.cellsOf 190 = 3 := by kernel_rfl
set_option maxRecDepth 100000 in
theorem says_wrow : Says Cod.wrow Tryd.prog 190 undoRow :=
  ⟨cells_wrow, fun h => by
    obtain ⟨xs, n, rfl, hx, hl, hlen, hf⟩ := DataW.trod_struct Tryd.underlying190 h
    rw [cells_wrow] at hl
    rename_i cs _
    match xs, hlen, cs, hl with
    | [y0, y1, y2], _, [a, b, c], _ =>
      have h0 : DataW.trod _ _ _ _ _ _ n 53 (([a, b, c].drop 0).take (Tryd.prog.cellsOf 53)) = some y0 := hf 0 _ rfl
      have h1 : DataW.trod _ _ _ _ _ _ n 3 (([a, b, c].drop 1).take (Tryd.prog.cellsOf 3)) = some y1 := hf 1 _ rfl
      have h2 : DataW.trod _ _ _ _ _ _ n 3 (([a, b, c].drop 2).take (Tryd.prog.cellsOf 3)) = some y2 := hf 2 _ rfl
      simp only [cells_int, cells_strs] at h0 h1 h2
      obtain ⟨v, ws, hv, hs, hU⟩ := Says.sl_read Tryd.underlying53 (Says.str Tryd.underlying9 cells_str) (by decide) h0
      obtain ⟨q1, e1, hd1, hw1⟩ := DataW.trod_int Tryd.underlying3 h1
      obtain ⟨q2, e2, hd2, hw2⟩ := DataW.trod_int Tryd.underlying3 h2
      simp at hv e1 e2
      subst hv e1 e2
      refine ⟨⟨ws, q1, q2⟩, ⟨_, rfl, wf_I64 hw1, wf_I64 hw2, hs⟩, ?_⟩
      rw [hx]
      show (match undoSl undoS y0.1, undoI y1.1, undoI y2.1 with | some ws, some a, some b => some (⟨ws, a, b⟩ : WRow) | _, _, _ => none) = _
      rw [hU, hd1, hd2]
      rfl⟩
end Go.Proofs.YtgfpncpphpkahaaDoor
