/- What the sizes bound, at values; from the form's reading of a value to the kit's. -/
import Derived.Test.YthkdkefkgmmoiaaDoorSz
import Derived.Test.YthkdkefkgmmoiaaDoorOpen
import Derived.Test.YthkdkefkgmmoiaaDoorVsz
import Derived.Deep.Strs
namespace Go.Proofs.YthkdkefkgmmoiaaDoor
open Go.ChangeShapes Go.WideShapes Go.ChangeAt Go.RowKit Go.Deep

theorem szI_len {xs : List Int} {l : Int} (h : 0 ≤ szI xs l) : (xs.length : Int) ≤ l := by
  unfold szI at h
  split at h <;> omega
theorem smol_of {f : Val → Int → Int} {P : Val → Prop} (hf : ∀ x l, 0 ≤ l → f x l ≤ l) (hp : ∀ x l, 0 ≤ l → l ≤ 2000000 → 0 ≤ f x l → P x) (v : Val) (l : Int) (h0 : 0 ≤ l) (h1 : l ≤ 2000000) (h : 0 ≤ szOf f v l) : Smol P v := by
  unfold szOf at h
  split at h
  · omega
  · split at h
    · omega
    · rename_i ha hb
      have hs : 0 ≤ szS f v.parts (l - v.ty.size) := by omega
      obtain ⟨g1, g2⟩ := szS_len hf hs
      have g3 := szI_len h
      have g4 := szS_le hf v.parts (l - v.ty.size) (by omega)
      refine ⟨by omega, by omega, fun x hx => ?_⟩
      obtain ⟨l', l0, l1, l2⟩ := g2 x hx
      exact hp x l' l0 (by omega) l2
theorem smolD_of : ∀ (d : Nat) (x : Val) (l : Int), 0 ≤ l → l ≤ 2000000 → 0 ≤ szVal d x l → SmolD d x
  | 0, _, _, _, _, _ => trivial
  | d + 1, x, l, h0, h1, h => smol_of (szVal_le d) (smolD_of d) x l h0 h1 h
theorem sz_val {d : Nat} {v : Val} {l : Int} (h0 : 0 ≤ l) (h1 : l ≤ 2000000) (h : 0 ≤ szOf (szVal d) v l) : Smol (SmolD d) v := smol_of (szVal_le d) (smolD_of d) v l h0 h1 h

/-- A slice, its elements read with less fuel. -/
theorem sl_readN {α : Type} {c : Cod α} {P : Program} {t e : TypeId} (ht : P.underlying t = some (.slice e)) (hsz : P.cellsOf e = c.size) (hp : 0 < c.size) {H : Type} {enc : TypeId × Value → H} {w : World} {sp : Nat → Bool} {held : Bool} {fuel : Nat} {cs : List Value} {x : DataW H × List MemPlace}
    (hread : ∀ n, n < fuel → ∀ (cs : List Value) (x : DataW H × List MemPlace), DataW.trod enc P w 0 sp held n e cs = some x → ∃ y, c.rd (Old w) w cs y) (hx : DataW.trod enc P w 0 sp held fuel t cs = some x) : ∃ v xs, cs = [v] ∧ c.Sl (Old w) w v xs := by
  rcases DataW.trod_slice ht hx with ⟨rfl, _⟩ | ⟨a, len, cap, elems, rest, n, rfl, rfl, _, _, hl, hm, hlen, hel, _, _⟩
  · exact ⟨_, [], rfl, Cod.Sl.nil_⟩
  · obtain ⟨xs, h1, h2⟩ := list_of (p := fun i y => ∃ cs', w.cells? 0 (a.add (i * c.size)) c.size = some cs' ∧ c.rd (Old w) w cs' y) len fun i hlt => by
      have hq := hel i hlt
      rw [List.getElem?_eq_getElem (by omega)] at hq
      obtain ⟨cs', hc, ht'⟩ := Option.bind_eq_some_iff.1 hq
      obtain ⟨y, hy⟩ := hread n (Nat.lt_succ_self n) cs' _ ht'
      rw [hsz] at hc
      exact ⟨y, cs', hc, hy⟩
    refine ⟨_, xs, rfl, some a, cap, by rw [h1], by omega, hm, fun hpos => ?_⟩
    have hcell : ∀ i x, xs[i]? = some x → ∃ cs', (∀ j, j < c.size → w.cell? ((a.add (i * c.size)).add j) = cs'[j]?) ∧ cs'.length = c.size ∧ c.rd (Old w) w cs' x := fun i x hx => by
      obtain ⟨cs', hc, hy⟩ := h2 i x hx
      obtain ⟨_, hlen, hat⟩ := World.cells?_some hc
      exact ⟨cs', hat, hlen, hy⟩
    obtain ⟨c0, hc0, hl0, _⟩ := hcell 0 xs[0] (List.getElem?_eq_getElem hpos)
    have hv : w.cell? ((a.add (0 * c.size)).add 0) = some (c0[0]'(by omega)) := by rw [hc0 0 hp, List.getElem?_eq_getElem]
    obtain ⟨b, off, spot⟩ := a
    have hspot : spot = none := by simpa [Addr.add] using World.cell?_spot hv
    subst hspot
    have hblk : b < w.heap.size := by simpa [Addr.add] using block_lt_of_cell hv
    refine ⟨b, off, rfl, hblk, fun i x hx => ?_⟩
    obtain ⟨cs', hat, hlen, hy⟩ := hcell i x hx
    refine ⟨cs', fun j u hu => ?_, hy⟩
    have hj : j < cs'.length := (List.getElem?_eq_some_iff.1 hu).1
    have := hat j (by omega)
    rw [hu] at this
    rw [← this, add_plain, add_plain]

theorem Cod.Sl.imp {α : Type} {c c' : Cod α} (hs : c.size = c'.size) (hi : ∀ {F : Nat → Prop} {w : World} {cs : List Value} {x : α}, c.rd F w cs x → c'.rd F w cs x) {F : Nat → Prop} {w : World} {v : Value} {xs : List α} (h : c.Sl F w v xs) : c'.Sl F w v xs := by
  obtain ⟨A, cap, hv, h1, h2, h3⟩ := h
  refine ⟨A, cap, hv, h1, h2, fun hp => ?_⟩
  obtain ⟨b, off, hA, hF, hx⟩ := h3 hp
  refine ⟨b, off, hA, hF, fun i x hi' => ?_⟩
  obtain ⟨cs, hc, hr⟩ := hx i x hi'
  exact ⟨cs, fun j u hu => by rw [← hs]; exact hc j u hu, hi hr⟩
theorem val_size : ∀ d, (Cod.val d).size = 4
  | 0 => rfl
  | _ + 1 => rfl
theorem val_succ : ∀ (d : Nat) {F : Nat → Prop} {w : World} {cs : List Value} {x : Val}, (Cod.val d).rd F w cs x → (Cod.val (d + 1)).rd F w cs x
  | 0, _, _, _, _, h => h.elim
  | d + 1, F, w, cs, x, h => by
    obtain ⟨a, p, hc, hV⟩ := h
    exact ⟨a, p, hc, hV.ty, hV.n, hV.parts.imp (by rw [val_size, val_size]) (fun h => val_succ d h), hV.path⟩
theorem val_le {d e : Nat} (h : d ≤ e) {F : Nat → Prop} {w : World} {cs : List Value} {x : Val} (hr : (Cod.val d).rd F w cs x) : (Cod.val e).rd F w cs x := by
  induction h with
  | refl => exact hr
  | step _ ih => exact val_succ _ ih

theorem Opens.i64 {P : Program} {e : TypeId} (ht : P.underlying e = some (.int .i64)) (hc : P.cellsOf e = 1) : Opens Cod.i64 P e :=
  ⟨hc, fun h => by obtain ⟨q, hq, _, hw⟩ := DataW.trod_int ht h; exact ⟨q, hq, wf_I64 hw⟩⟩

theorem cells_ints : Tryd.prog.cellsOf 32 = 1 := by kernel_rfl
theorem trod_struct4 {H : Type} {enc : TypeId × Value → H} {P : Program} {w : World} {base : Nat} {spare : Nat → Bool} {held : Bool} {t : TypeId} {f0 f1 f2 f3 : Field} {fuel : Nat} {cs : List Value} {x : DataW H × List MemPlace} (ht : P.underlying t = some (.struct #[f0, f1, f2, f3])) (h : DataW.trod enc P w base spare held fuel t cs = some x) :
    ∃ y0 y1 y2 y3 n, fuel = n + 1 ∧ cs.length = P.cellsOf t ∧ DataW.trod enc P w base spare held n f0.type ((cs.drop f0.offset).take (P.cellsOf f0.type)) = some y0 ∧
      DataW.trod enc P w base spare held n f1.type ((cs.drop f1.offset).take (P.cellsOf f1.type)) = some y1 ∧ DataW.trod enc P w base spare held n f2.type ((cs.drop f2.offset).take (P.cellsOf f2.type)) = some y2 ∧ DataW.trod enc P w base spare held n f3.type ((cs.drop f3.offset).take (P.cellsOf f3.type)) = some y3 := by
  obtain ⟨xs, n, hn, rfl, hl, hlen, hf⟩ := DataW.trod_struct ht h
  match xs, hlen with
  | [y0, y1, y2, y3], _ => exact ⟨y0, y1, y2, y3, n, hn, hl, by simpa using hf 0 f0 rfl, by simpa using hf 1 f1 rfl, by simpa using hf 2 f2 rfl, by simpa using hf 3 f3 rfl⟩

/-- What is made stays, whatever is made later; and it was made since an earlier world, too. -/
theorem Made.go {α : Type} {c : Cod α} {W w w' : World} {v : Value} {xs : List α} (h : Made c W w v xs) (hb : Below w.heap.size w w') : Made c W w' v xs :=
  ⟨(h.1.keep (below_keeps hb fun _ hb => hb.2)).mono fun _ hx => ⟨hx.1, Nat.lt_of_lt_of_le hx.2 hb.size⟩, h.2.trans (hb.mono h.2.size)⟩
theorem Made.back {α : Type} {c : Cod α} {W0 W w : World} {v : Value} {xs : List α} (h : Made c W w v xs) (hb : Below W0.heap.size W0 W) : Made c W0 w v xs :=
  ⟨h.1.mono fun _ hx => ⟨Nat.le_trans hb.size hx.1, hx.2⟩, hb.trans (h.2.mono hb.size)⟩
theorem MadeV.go {c : Cod Val} {W w w' : World} {a p : Value} {v : Val} (h : MadeV c W w a p v) (hb : Below w.heap.size w w') : MadeV c W w' a p v :=
  ⟨(h.1.keep (below_keeps hb fun _ hb => hb.2)).mono fun _ hx => ⟨hx.1, Nat.lt_of_lt_of_le hx.2 hb.size⟩, h.2.trans (hb.mono h.2.size)⟩
theorem MadeV.back {c : Cod Val} {W0 W w : World} {a p : Value} {v : Val} (h : MadeV c W w a p v) (hb : Below W0.heap.size W0 W) : MadeV c W0 w a p v :=
  ⟨h.1.mono fun _ hx => ⟨Nat.le_trans hb.size hx.1, hx.2⟩, hb.trans (h.2.mono hb.size)⟩
theorem below_draw (w : World) : Below w.heap.size w w.drew := Below.drew (Below.refl _ _)
end Go.Proofs.YthkdkefkgmmoiaaDoor
