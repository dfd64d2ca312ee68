/- From a listed variable's datum to what its memory reads as; instructions, and the table of their words. Instructions: the table of words, as the program lists it and as the model does; which instructions are ones, and their texts. -/
import Derived.Test.YthkdkefkgmmoiaaDoorVlk
import Derived.Lib.LaidU8
import Derived.LaidMore
import Derived.Test.YthkdkefkgmmoiaaDoorVt
namespace Go.Proofs.YthkdkefkgmmoiaaDoor
open Go.ChangeShapes Go.WideShapes Go.ChangeAt Go.RowKit Go.Deep

/-- What the form reads at a type, the kit reads too, and the datum tells it. -/
structure Says {α : Type} (c : Cod α) (P : Program) (e : TypeId) (U : DataW Unit → Option α) : Prop where
  size : P.cellsOf e = c.size
  read : ∀ {w : World} {sp : Nat → Bool} {held : Bool} {fuel : Nat} {cs : List Value} {x : DataW Unit × List MemPlace}, DataW.trod (fun _ : TypeId × Value => ()) P w 0 sp held fuel e cs = some x → ∃ y, c.rd (Old w) w cs y ∧ U x.1 = some y

def undoS : DataW Unit → Option ByteArray
  | .lit (.string l) => some ⟨l.toArray⟩
  | _ => none
def undoI : DataW Unit → Option Int
  | .lit (.int .i64 q) => some q
  | _ => none
def undoL {α : Type} (U : DataW Unit → Option α) : List (DataW Unit) → Option (List α)
  | [] => some []
  | d :: r => match U d, undoL U r with | some x, some xs => some (x :: xs) | _, _ => none
def undoSl {α : Type} (U : DataW Unit → Option α) : DataW Unit → Option (List α)
  | .nil => some []
  | .slice ds _ => undoL U ds
  | _ => none
theorem undoL_all {α : Type} {U : DataW Unit → Option α} : ∀ (ds : List (DataW Unit)) (xs : List α), xs.length = ds.length → (∀ (i : Nat) (x : α), xs[i]? = some x → ∃ d, ds[i]? = some d ∧ U d = some x) → undoL U ds = some xs
  | [], xs, hl, _ => by have : xs = [] := List.eq_nil_of_length_eq_zero hl; rw [this]; rfl
  | d :: r, [], hl, _ => by simp at hl
  | d :: r, x :: xs, hl, h => by
    obtain ⟨d', h1, h2⟩ := h 0 x rfl
    simp at h1
    subst h1
    have ih := undoL_all r xs (by simpa using hl) fun i y hy => by
      obtain ⟨d', h3, h4⟩ := h (i + 1) y (by simpa using hy)
      exact ⟨d', by simpa using h3, h4⟩
    show (match U d, undoL U r with | some x, some xs => some (x :: xs) | _, _ => none) = _
    rw [h2, ih]

theorem Says.str {P : Program} {e : TypeId} (ht : P.underlying e = some .string) (hc : P.cellsOf e = 1) : Says Cod.str P e undoS :=
  ⟨hc, fun h => by obtain ⟨s, rfl, hx, hs⟩ := DataW.trod_string ht h; exact ⟨s, ⟨rfl, hs⟩, by rw [hx]; rfl⟩⟩
theorem Says.i64 {P : Program} {e : TypeId} (ht : P.underlying e = some (.int .i64)) (hc : P.cellsOf e = 1) : Says Cod.i64 P e undoI :=
  ⟨hc, fun h => by obtain ⟨q, rfl, hx, hw⟩ := DataW.trod_int ht h; exact ⟨q, ⟨rfl, wf_I64 hw⟩, by rw [hx]; rfl⟩⟩
theorem Says.sl_read {α : Type} {c : Cod α} {P : Program} {t e : TypeId} {U : DataW Unit → Option α} (ht : P.underlying t = some (.slice e)) (h : Says c P e U) (hp : 0 < c.size) {w : World} {sp : Nat → Bool} {held : Bool} {fuel : Nat} {cs : List Value} {x : DataW Unit × List MemPlace}
    (hx : DataW.trod (fun _ : TypeId × Value => ()) P w 0 sp held fuel t cs = some x) : ∃ v xs, cs = [v] ∧ c.Sl (Old w) w v xs ∧ undoSl U x.1 = some xs := by
  rcases DataW.trod_slice ht hx with ⟨rfl, rfl⟩ | ⟨a, len, cap, elems, rest, n, rfl, rfl, rfl, _, hl, hm, hlen, hel, _, _⟩
  · exact ⟨_, [], rfl, Cod.Sl.nil_, rfl⟩
  · obtain ⟨xs, h1, h2⟩ := list_of (p := fun i y => (∃ cs', w.cells? 0 (a.add (i * c.size)) c.size = some cs' ∧ c.rd (Old w) w cs' y) ∧ ∃ d, (elems.map (·.1))[i]? = some d ∧ U d = some y) len fun i hlt => by
      have hq := hel i hlt
      have he : elems[i]? = some (elems[i]'(by omega)) := List.getElem?_eq_getElem (by omega)
      rw [he] at hq
      obtain ⟨cs', hc, ht'⟩ := Option.bind_eq_some_iff.1 hq
      obtain ⟨y, hy, hU⟩ := h.read ht'
      rw [h.size] at hc
      exact ⟨y, ⟨cs', hc, hy⟩, _, by rw [List.getElem?_map, he]; rfl, hU⟩
    refine ⟨_, xs, rfl, ⟨some a, cap, by rw [h1], by omega, hm, fun hpos => ?_⟩, undoL_all _ xs (by simp; omega) fun i x hi => (h2 i x hi).2⟩
    have hcell : ∀ i x, xs[i]? = some x → ∃ cs', (∀ j, j < c.size → w.cell? ((a.add (i * c.size)).add j) = cs'[j]?) ∧ cs'.length = c.size ∧ c.rd (Old w) w cs' x := fun i x hx => by
      obtain ⟨⟨cs', hc, hy⟩, _⟩ := h2 i x hx
      obtain ⟨_, hlen, hat⟩ := World.cells?_some hc
      exact ⟨cs', hat, hlen, hy⟩
    obtain ⟨c0, hc0, hl0, _⟩ := hcell 0 xs[0] (List.getElem?_eq_getElem hpos)
    have hv : w.cell? ((a.add (0 * c.size)).add 0) = some (c0[0]'(by omega)) := by rw [hc0 0 hp, List.getElem?_eq_getElem]
    obtain ⟨b, off, spot⟩ := a
    have hspot : spot = none := by simpa [Addr.add] using World.cell?_spot hv
    subst hspot
    have hblk : b < w.heap.size := by simpa [Addr.add] using block_lt_of_cell hv
    refine ⟨b, off, rfl, hblk, fun i x hx => ?_⟩
    obtain ⟨cs', hat, hlen, hy⟩ := hcell i x hx
    refine ⟨cs', fun j u hu => ?_, hy⟩
    have hj : j < cs'.length := (List.getElem?_eq_some_iff.1 hu).1
    have := hat j (by omega)
    rw [hu] at this
    rw [← this, add_plain, add_plain]

/-- A row of words, and the greatest numbers that these need. -/
structure WRow where
  words : List ByteArray
  a : Int
  b : Int
def Cod.wrow : Cod WRow where
  size := 3
  rd F w cs r := ∃ v, cs = [v, .int .i64 r.a, .int .i64 r.b] ∧ I64 r.a ∧ I64 r.b ∧ Cod.str.Sl F w v r.words
  len h := by obtain ⟨v, rfl, _⟩ := h; rfl
  keep hk h := by obtain ⟨v, hv, ha, hb, h⟩ := h; exact ⟨v, hv, ha, hb, h.keep hk⟩
  mono hg h := by obtain ⟨v, hv, ha, hb, h⟩ := h; exact ⟨v, hv, ha, hb, h.mono hg⟩
theorem Cod.Sl.wrow_at {F : Nat → Prop} {w : World} {v : Value} {xs : List WRow} (h : Cod.wrow.Sl F w v xs) {k : Nat} (hk : k < xs.length) : ∃ b off cap u, v = .slice (some ⟨b, off, none⟩) xs.length cap ∧ F b ∧ xs.length ≤ cap ∧ cap ≤ maxLen ∧
    w.cell? ⟨b, off + k * 3, none⟩ = some u ∧ w.cell? ⟨b, off + k * 3 + 1, none⟩ = some (.int .i64 (xs[k]).a) ∧ w.cell? ⟨b, off + k * 3 + 2, none⟩ = some (.int .i64 (xs[k]).b) ∧ I64 (xs[k]).a ∧ I64 (xs[k]).b ∧ Cod.str.Sl F w u (xs[k]).words := by
  obtain ⟨b, off, cap, cs, hv, hF, h1, h2, hcell, u, rfl, ha, hb, hu⟩ := h.get hk
  exact ⟨b, off, cap, u, hv, hF, h1, h2, by simpa [Cod.wrow] using hcell 0 _ rfl, by simpa [Cod.wrow] using hcell 1 _ rfl, by simpa [Cod.wrow] using hcell 2 _ rfl, ha, hb, hu⟩
def undoRow : DataW Unit → Option WRow
  | .agg [x, y, z] => match undoSl undoS x, undoI y, undoI z with | some ws, some a, some b => some ⟨ws, a, b⟩ | _, _, _ => none
  | _ => none
theorem cells_wrow : Tryd.prog.cellsOf 125 = 3 := by kernel_rfl
set_option maxRecDepth 100000 in
theorem says_wrow : Says Cod.wrow Tryd.prog 125 undoRow :=
  ⟨cells_wrow, fun h => by
    obtain ⟨xs, n, rfl, hx, hl, hlen, hf⟩ := DataW.trod_struct Tryd.underlying125 h
    rw [cells_wrow] at hl
    rename_i cs _
    match xs, hlen, cs, hl with
    | [y0, y1, y2], _, [a, b, c], _ =>
      have h0 : DataW.trod _ _ _ _ _ _ n 49 (([a, b, c].drop 0).take (Tryd.prog.cellsOf 49)) = some y0 := hf 0 _ rfl
      have h1 : DataW.trod _ _ _ _ _ _ n 3 (([a, b, c].drop 1).take (Tryd.prog.cellsOf 3)) = some y1 := hf 1 _ rfl
      have h2 : DataW.trod _ _ _ _ _ _ n 3 (([a, b, c].drop 2).take (Tryd.prog.cellsOf 3)) = some y2 := hf 2 _ rfl
      simp only [cells_int, cells_strs] at h0 h1 h2
      obtain ⟨v, ws, hv, hs, hU⟩ := Says.sl_read Tryd.underlying49 (Says.str Tryd.underlying9 cells_str) (by decide) h0
      obtain ⟨q1, e1, hd1, hw1⟩ := DataW.trod_int Tryd.underlying3 h1
      obtain ⟨q2, e2, hd2, hw2⟩ := DataW.trod_int Tryd.underlying3 h2
      simp at hv e1 e2
      subst hv e1 e2
      refine ⟨⟨ws, q1, q2⟩, ⟨_, rfl, wf_I64 hw1, wf_I64 hw2, hs⟩, ?_⟩
      rw [hx]
      show (match undoSl undoS y0.1, undoI y1.1, undoI y2.1 with | some ws, some a, some b => some (⟨ws, a, b⟩ : WRow) | _, _, _ => none) = _
      rw [hU, hd1, hd2]
      rfl⟩
end Go.Proofs.YthkdkefkgmmoiaaDoor

namespace Go.Proofs.YthkdkefkgmmoiaaDoor
open Go.RowKit

def tabRows : List WRow := [
  ⟨[⟨#[110, 117, 109]⟩], 1000000, 0⟩,
  ⟨[⟨#[116, 114, 117, 101]⟩, ⟨#[102, 97, 108, 115, 101]⟩, ⟨#[109, 101]⟩, ⟨#[97, 100, 100]⟩, ⟨#[115, 117, 98]⟩, ⟨#[109, 117, 108]⟩, ⟨#[100, 105, 118]⟩, ⟨#[109, 111, 100]⟩, ⟨#[108, 101, 115, 115]⟩, ⟨#[115, 97, 109, 101]⟩, ⟨#[97, 110, 100]⟩, ⟨#[111, 114]⟩, ⟨#[110, 111, 116]⟩], 0, 0⟩,
  ⟨[⟨#[99, 111, 112, 121]⟩, ⟨#[109, 111, 118, 101]⟩, ⟨#[112, 117, 116]⟩], 5, 0⟩,
  ⟨[⟨#[100, 114, 111, 112]⟩], 0, 0⟩,
  ⟨[⟨#[112, 97, 99, 107]⟩, ⟨#[117, 110, 112, 97, 99, 107]⟩], 2, 0⟩,
  ⟨[⟨#[108, 101, 110, 100]⟩, ⟨#[108, 101, 110, 100, 119]⟩], 5, 0⟩,
  ⟨[⟨#[102, 105, 101, 108, 100]⟩], 2, 2⟩,
  ⟨[⟨#[114, 101, 97, 100]⟩, ⟨#[112, 101, 101, 107]⟩, ⟨#[119, 114, 105, 116, 101]⟩, ⟨#[102, 114, 101, 101, 122, 101]⟩], 0, 0⟩,
  ⟨[⟨#[107, 101, 101, 112]⟩, ⟨#[116, 97, 107, 101]⟩, ⟨#[104, 97, 115]⟩, ⟨#[115, 101, 101]⟩, ⟨#[115, 101, 101, 119]⟩], 2, 0⟩,
  ⟨[⟨#[106, 117, 109, 112]⟩, ⟨#[122, 101, 114, 111]⟩], 39, 0⟩,
  ⟨[⟨#[99, 97, 108, 108]⟩], 2, 3⟩,
  ⟨[⟨#[114, 101, 116]⟩, ⟨#[102, 97, 105, 108]⟩], 0, 0⟩]
def tabM : List (ByteArray × Int × Int) := [
  (⟨#[110, 117, 109]⟩, 1000001, 0),
  (⟨#[116, 114, 117, 101]⟩, 0, 0),
  (⟨#[102, 97, 108, 115, 101]⟩, 0, 0),
  (⟨#[109, 101]⟩, 0, 0),
  (⟨#[97, 100, 100]⟩, 0, 0),
  (⟨#[115, 117, 98]⟩, 0, 0),
  (⟨#[109, 117, 108]⟩, 0, 0),
  (⟨#[100, 105, 118]⟩, 0, 0),
  (⟨#[109, 111, 100]⟩, 0, 0),
  (⟨#[108, 101, 115, 115]⟩, 0, 0),
  (⟨#[115, 97, 109, 101]⟩, 0, 0),
  (⟨#[97, 110, 100]⟩, 0, 0),
  (⟨#[111, 114]⟩, 0, 0),
  (⟨#[110, 111, 116]⟩, 0, 0),
  (⟨#[99, 111, 112, 121]⟩, 6, 0),
  (⟨#[109, 111, 118, 101]⟩, 6, 0),
  (⟨#[112, 117, 116]⟩, 6, 0),
  (⟨#[100, 114, 111, 112]⟩, 0, 0),
  (⟨#[112, 97, 99, 107]⟩, 3, 0),
  (⟨#[117, 110, 112, 97, 99, 107]⟩, 3, 0),
  (⟨#[108, 101, 110, 100]⟩, 6, 0),
  (⟨#[108, 101, 110, 100, 119]⟩, 6, 0),
  (⟨#[102, 105, 101, 108, 100]⟩, 3, 3),
  (⟨#[114, 101, 97, 100]⟩, 0, 0),
  (⟨#[112, 101, 101, 107]⟩, 0, 0),
  (⟨#[119, 114, 105, 116, 101]⟩, 0, 0),
  (⟨#[102, 114, 101, 101, 122, 101]⟩, 0, 0),
  (⟨#[107, 101, 101, 112]⟩, 3, 0),
  (⟨#[116, 97, 107, 101]⟩, 3, 0),
  (⟨#[104, 97, 115]⟩, 3, 0),
  (⟨#[115, 101, 101]⟩, 3, 0),
  (⟨#[115, 101, 101, 119]⟩, 3, 0),
  (⟨#[106, 117, 109, 112]⟩, 40, 0),
  (⟨#[122, 101, 114, 111]⟩, 40, 0),
  (⟨#[99, 97, 108, 108]⟩, 3, 4),
  (⟨#[114, 101, 116]⟩, 0, 0),
  (⟨#[102, 97, 105, 108]⟩, 0, 0)]

/-- Whether a row of words has a word. -/
def hasW (op : ByteArray) : List ByteArray → Bool
  | [] => false
  | x :: r => x.toList == op.toList || hasW op r
/-- The greatest numbers of a word. -/
def findR (op : ByteArray) : List WRow → Option (Int × Int)
  | [] => none
  | r :: rs => if hasW op r.words = true then some (r.a, r.b) else findR op rs
/-- The same, word by word. -/
def findM (op : ByteArray) : List (ByteArray × Int × Int) → Option (Int × Int)
  | [] => none
  | x :: r => if (x.1.toList == op.toList) = true then some x.2 else findM op r

/-- Below which a number must be; 0 where it is not needed. -/
def limOf (a : Int) : Int := if a = 0 then 0 else a + 1
def flatR : List WRow → List (ByteArray × Int × Int)
  | [] => []
  | r :: rs => r.words.map (fun x => (x, limOf r.a, limOf r.b)) ++ flatR rs
theorem flat_tab : flatR tabRows = tabM := rfl
theorem findM_row (op : ByteArray) (a b : Int) (rest : List (ByteArray × Int × Int)) : ∀ ws : List ByteArray, findM op (ws.map (fun x => (x, a, b)) ++ rest) = if hasW op ws = true then some (a, b) else findM op rest
  | [] => by simp [hasW]
  | x :: r => by
    have ih := findM_row op a b rest r
    by_cases h : (x.toList == op.toList) = true
    · simp only [List.map_cons, List.cons_append, findM, hasW, h, if_true, Bool.true_or]
    · simp only [List.map_cons, List.cons_append, findM, hasW, h, if_false, Bool.false_or, ih, Bool.false_eq_true]
theorem findM_flat (op : ByteArray) : ∀ rs : List WRow, findM op (flatR rs) = (findR op rs).map (fun x => (limOf x.1, limOf x.2))
  | [] => rfl
  | r :: rs => by
    rw [flatR, findM_row, findM_flat op rs, findR]
    split <;> rfl
theorem findM_tab (op : ByteArray) : findM op tabM = (findR op tabRows).map (fun x => (limOf x.1, limOf x.2)) := by rw [← flat_tab, findM_flat]

/-- All rows are as they should be: no word is empty or long or has a blank, and the greatest numbers are small. -/
def rowOk (r : WRow) : Bool := r.words.all (fun x => decide (0 < x.size) && decide (x.size ≤ 8) && x.toList.all (fun c => c.toNat != 32)) && decide (0 ≤ r.a) && decide (r.a ≤ 1000000) && decide (0 ≤ r.b) && decide (r.b ≤ 39) && (decide (r.b = 0) || decide (0 < r.a))
theorem tab_ok : tabRows.all rowOk = true := by decide +kernel
theorem hasW_mem {op : ByteArray} : ∀ {ws : List ByteArray}, hasW op ws = true → op ∈ ws
  | x :: r, h => by
    unfold hasW at h
    rw [Bool.or_eq_true] at h
    rcases h with h | h
    · rw [beq_iff_eq] at h
      exact List.mem_cons.2 (.inl (ext_toList h).symm)
    · exact List.mem_cons.2 (.inr (hasW_mem h))
theorem findR_mem {op : ByteArray} {ab : Int × Int} : ∀ {rs : List WRow}, findR op rs = some ab → ∃ r ∈ rs, op ∈ r.words ∧ ab = (r.a, r.b)
  | r :: rs, h => by
    unfold findR at h
    split at h
    · rename_i hw
      exact ⟨r, List.mem_cons_self, hasW_mem hw, by simpa using h.symm⟩
    · obtain ⟨r', h1, h2⟩ := findR_mem h
      exact ⟨r', List.mem_cons_of_mem _ h1, h2⟩
structure Top (op : ByteArray) (a b : Int) : Prop where
  pos : 0 < op.size
  few : op.size ≤ 8
  whole : ∀ c ∈ op.toList, c.toNat ≠ 32
  a0 : 0 ≤ a
  a1 : a ≤ 1000000
  b0 : 0 ≤ b
  b1 : b ≤ 39
  ab : b = 0 ∨ 0 < a
theorem find_top {op : ByteArray} {a b : Int} (h : findR op tabRows = some (a, b)) : Top op a b := by
  obtain ⟨r, hr, ho, he⟩ := findR_mem h
  cases he
  have := List.all_eq_true.1 tab_ok r hr
  unfold rowOk at this
  simp only [Bool.and_eq_true, Bool.or_eq_true, decide_eq_true_eq, List.all_eq_true, bne_iff_ne, ne_eq] at this
  obtain ⟨⟨⟨⟨⟨h1, h2⟩, h3⟩, h4⟩, h5⟩, h6⟩ := this
  obtain ⟨⟨h7, h8⟩, h9⟩ := h1 op ho
  exact ⟨h7, h8, h9, h2, h3, h4, h5, h6⟩

def withB (n a : Int) : Bool := decide (0 ≤ n) && decide (n ≤ a)
/-- Whether an instruction is one. -/
def insOk (op : ByteArray) (x y : Int) : Bool := match findR op tabRows with | none => false | some (a, b) => withB x a && withB y b
/-- A number behind a blank, where it is needed. -/
def numT (a x : Int) : ByteArray := if a = 0 then ByteArray.empty else ⟨#[32]⟩ ++ decBy x.toNat
/-- The text of an instruction that is one. -/
def insT (op : ByteArray) (x y : Int) : ByteArray := match findR op tabRows with | none => op | some (a, b) => op ++ numT a x ++ numT b y
def insText (op : ByteArray) (x y : Int) : ByteArray := if insOk op x y = true then insT op x y else ByteArray.empty
def allWords : List ByteArray := tabM.map (·.1)
theorem withB_lim (n a : Int) : (if limOf a = 0 then decide (n = 0) else decide (0 ≤ n) && decide (n ≤ limOf a - 1)) = withB n a ∨ a < 0 := by
  unfold limOf withB
  by_cases h : a = 0
  · left; subst h; simp; rw [Bool.eq_iff_iff]; simp; omega
  · by_cases h' : a < 0
    · right; exact h'
    · left
      rw [if_neg h, if_neg (by omega)]
      congr 2
      simp
end Go.Proofs.YthkdkefkgmmoiaaDoor
