/- Values: how they lie in memory, told by their depth. No program is named here. -/
import Derived.Test.YthkdkefkgmmoiaaDoorKit
namespace Go.Proofs.YthkdkefkgmmoiaaDoor
open Go.RowKit

/-- A number. -/
def Cod.i64 : Cod Int where
  size := 1
  rd _ _ cs n := cs = [.int .i64 n] ∧ I64 n
  len h := by rw [h.1]; rfl
  keep _ h := h
  mono _ h := h
theorem Cod.Sl.i64_at {F : Nat → Prop} {w : World} {v : Value} {xs : List Int} (h : Cod.i64.Sl F w v xs) {k : Nat} (hk : k < xs.length) : ∃ b off cap, v = .slice (some ⟨b, off, none⟩) xs.length cap ∧ F b ∧ xs.length ≤ cap ∧ cap ≤ maxLen ∧
    w.cell? ⟨b, off + k, none⟩ = some (.int .i64 xs[k]) ∧ I64 xs[k] := by
  obtain ⟨b, off, cap, cs, hv, hF, h1, h2, hcell, rfl, hi⟩ := h.get hk
  exact ⟨b, off, cap, hv, hF, h1, h2, by simpa [Cod.i64] using hcell 0 _ rfl, hi⟩

inductive Val where
  | mk (ty : ByteArray) (n : Int) (parts : List Val) (path : List Int)
def Val.ty : Val → ByteArray | .mk t _ _ _ => t
def Val.n : Val → Int | .mk _ n _ _ => n
def Val.parts : Val → List Val | .mk _ _ p _ => p
def Val.path : Val → List Int | .mk _ _ _ p => p
theorem Val.eta (v : Val) : Val.mk v.ty v.n v.parts v.path = v := by cases v; rfl

/-- A struct with the slices a and p reads as v, its parts by c. -/
structure VRd (c : Cod Val) (F : Nat → Prop) (w : World) (a p : Value) (v : Val) : Prop where
  ty : v.ty.size ≤ maxLen
  n : I64 v.n
  parts : c.Sl F w a v.parts
  path : Cod.i64.Sl F w p v.path
theorem VRd.keep {c : Cod Val} {F : Nat → Prop} {w w' : World} {a p : Value} {v : Val} (hk : ∀ b, F b → w'.heap[b]? = w.heap[b]?) (h : VRd c F w a p v) : VRd c F w' a p v := ⟨h.ty, h.n, h.parts.keep hk, h.path.keep hk⟩
theorem VRd.mono {c : Cod Val} {F G : Nat → Prop} {w : World} {a p : Value} {v : Val} (hg : ∀ b, F b → G b) (h : VRd c F w a p v) : VRd c G w a p v := ⟨h.ty, h.n, h.parts.mono hg, h.path.mono hg⟩

theorem VRd.drew {c : Cod Val} {F : Nat → Prop} {w : World} {a p : Value} {v : Val} (h : VRd c F w a p v) : VRd c F w.drew a p v := VRd.keep (w := w) (fun _ _ => rfl) h
theorem VRd.drewN {c : Cod Val} {F : Nat → Prop} {w : World} {a p : Value} {v : Val} (h : VRd c F w a p v) (n : Nat) : VRd c F (w.drewN n) a p v := VRd.keep (w := w) (fun _ _ => rfl) h
theorem Cod.Sl.drew {α : Type} {c : Cod α} {F : Nat → Prop} {w : World} {v : Value} {xs : List α} (h : c.Sl F w v xs) : c.Sl F w.drew v xs := Cod.Sl.keep (w := w) (fun _ _ => rfl) h
theorem Cod.Sl.drewN {α : Type} {c : Cod α} {F : Nat → Prop} {w : World} {v : Value} {xs : List α} (h : c.Sl F w v xs) (n : Nat) : c.Sl F (w.drewN n) v xs := Cod.Sl.keep (w := w) (fun _ _ => rfl) h

/-- No value. -/
def Cod.no : Cod Val where
  size := 4
  rd _ _ _ _ := False
  len h := h.elim
  keep _ h := h
  mono _ h := h
/-- A value whose parts are read by c. -/
def Cod.of (c : Cod Val) : Cod Val where
  size := 4
  rd F w cs v := ∃ a p, cs = [.string v.ty, .int .i64 v.n, a, p] ∧ VRd c F w a p v
  len h := by obtain ⟨a, p, rfl, _⟩ := h; rfl
  keep hk h := by obtain ⟨a, p, hc, h⟩ := h; exact ⟨a, p, hc, h.keep hk⟩
  mono hg h := by obtain ⟨a, p, hc, h⟩ := h; exact ⟨a, p, hc, h.mono hg⟩
/-- A value of a depth. -/
def Cod.val : Nat → Cod Val
  | 0 => Cod.no
  | d + 1 => (Cod.val d).of

/-- Some slice with elements reads by c. -/
def HasEl (c : Cod Val) : Prop := ∃ F w v xs, c.Sl F w v xs ∧ 0 < xs.length

/-- Elements of c are values whose parts are read by e. -/
structure IsVal (c e : Cod Val) : Prop where
  size : c.size = 4
  lay : HasEl c → ∀ {F : Nat → Prop} {w : World} {a p : Value} {x : Val}, VRd e F w a p x → c.rd F w [.string x.ty, .int .i64 x.n, a, p] x
  rd : ∀ {F : Nat → Prop} {w : World} {cs : List Value} {x : Val}, c.rd F w cs x → ∃ a p, cs = [.string x.ty, .int .i64 x.n, a, p] ∧ VRd e F w a p x
theorem IsVal.of (c : Cod Val) : IsVal c.of c := ⟨rfl, fun _ _ _ _ _ _ h => ⟨_, _, rfl, h⟩, fun h => h⟩

theorem Cod.Sl.val_at {c e : Cod Val} (hc : IsVal c e) {F : Nat → Prop} {w : World} {v : Value} {xs : List Val} (h : c.Sl F w v xs) {k : Nat} (hk : k < xs.length) :
    ∃ b off cap A cA B cB, v = .slice (some ⟨b, off, none⟩) xs.length cap ∧ F b ∧ xs.length ≤ cap ∧ cap ≤ maxLen ∧
    w.cell? ⟨b, off + k * 4, none⟩ = some (.string xs[k].ty) ∧ w.cell? ⟨b, off + k * 4 + 1, none⟩ = some (.int .i64 xs[k].n) ∧
    w.cell? ⟨b, off + k * 4 + 2, none⟩ = some (.slice A xs[k].parts.length cA) ∧ w.cell? ⟨b, off + k * 4 + 3, none⟩ = some (.slice B xs[k].path.length cB) ∧
    VRd e F w (.slice A xs[k].parts.length cA) (.slice B xs[k].path.length cB) xs[k] := by
  obtain ⟨b, off, cap, cs, hv, hF, h1, h2, hcell, hrd⟩ := h.get hk
  obtain ⟨a, p, rfl, hV⟩ := hc.rd hrd
  obtain ⟨A, cA, rfl, _⟩ := hV.parts
  obtain ⟨B, cB, rfl, _⟩ := hV.path
  rw [hc.size] at hcell
  exact ⟨b, off, cap, A, cA, B, cB, hv, hF, h1, h2, by simpa using hcell 0 _ rfl, by simpa using hcell 1 _ rfl, by simpa using hcell 2 _ rfl, by simpa using hcell 3 _ rfl, hV⟩
theorem Cod.Sl.val_nil {F : Nat → Prop} {w : World} {v : Value} {xs : List Val} (h : (Cod.val 0).Sl F w v xs) : xs = [] := by
  rcases Nat.eq_zero_or_pos xs.length with h0 | h0
  · exact List.eq_nil_of_length_eq_zero h0
  · obtain ⟨_, _, _, _, _, _, _, _, _, hrd⟩ := h.get h0
    exact hrd.elim

theorem no_el : ¬ HasEl (Cod.val 0) := fun ⟨_, _, _, _, h, hp⟩ => by rw [h.val_nil] at hp; simp at hp
theorem IsVal.zero (e : Cod Val) : IsVal (Cod.val 0) e := ⟨rfl, fun h => absurd h no_el, fun h => h.elim⟩

/-- The next element of a row that is being filled. -/
theorem Cod.Part.next {α : Type} {c : Cod α} {F : Nat → Prop} {w : World} {cs cs' : Array Value} {xs : List α} {k : Nat} (h : c.Part F w cs k xs) (hk : k < xs.length) {news : List Value}
    (hold : ∀ i, i < k * c.size → cs'[i]? = cs[i]?) (hnew : ∀ (j : Nat) (u : Value), news[j]? = some u → cs'[k * c.size + j]? = some u) (hu : c.rd F w news xs[k]) : c.Part F w cs' (k + 1) xs := by
  intro i x hi hx
  by_cases he : i = k
  · subst he
    rw [List.getElem?_eq_getElem hk] at hx
    cases hx
    exact ⟨news, hnew, hu⟩
  · obtain ⟨ds, h1, h2⟩ := h i x (by omega) hx
    refine ⟨ds, fun j v hv => ?_, h2⟩
    have hl := c.len h2
    have hj : j < ds.length := (List.getElem?_eq_some_iff.1 hv).1
    have : i * c.size + c.size ≤ k * c.size := by
      have := Nat.mul_le_mul_right c.size (show i + 1 ≤ k by omega)
      rwa [Nat.add_mul, Nat.one_mul] at this
    rw [hold _ (by omega)]
    exact h1 j v hv
theorem Cod.Part.four {c : Cod Val} {F : Nat → Prop} {w : World} {cs : Array Value} {xs : List Val} {k : Nat} (h : c.Part F w cs k xs) (hc : c.size = 4) (hk : k < xs.length) (hs : cs.size = xs.length * 4) {a b x y : Value} (hu : c.rd F w [a, b, x, y] xs[k]) :
    c.Part F w ((((cs.setIfInBounds (k * 4) a).setIfInBounds (k * 4 + 1) b).setIfInBounds (k * 4 + 2) x).setIfInBounds (k * 4 + 3) y) (k + 1) xs := by
  refine h.next hk (news := [a, b, x, y]) (fun i hi => ?_) (fun j u hj => ?_) hu
  · rw [hc] at hi
    simp only [Array.getElem?_setIfInBounds]
    rw [if_neg (by omega), if_neg (by omega), if_neg (by omega), if_neg (by omega)]
  · rw [hc]
    match j, hj with
    | 0, hj => simp at hj; subst hj; simp [Array.getElem?_setIfInBounds]; omega
    | 1, hj => simp at hj; subst hj; simp [Array.getElem?_setIfInBounds]; omega
    | 2, hj => simp at hj; subst hj; simp [Array.getElem?_setIfInBounds]; omega
    | 3, hj => simp at hj; subst hj; simp [Array.getElem?_setIfInBounds]; omega
    | j + 4, hj => simp at hj

/-- A value whose slices lie in blocks that have come since W; what was there is as it was. -/
def MadeV (c : Cod Val) (W w : World) (a p : Value) (v : Val) : Prop := VRd c (Fresh W w) w a p v ∧ Below W.heap.size W w

/-- A callee that draws nothing, in a quiet region behind draws. -/
theorem Calls.still2 {P : Program} {f : FuncId} {args : Array Value} {w : World} {v : Value} (a : Nat) (h : ∀ k, Calls P f args (w.drewN k) fun e w' => e = .returned v ∧ w.drewN k = w') (n : Nat) :
    Calls P f args (w.drewN (a + n)) fun e w' => e = .returned v ∧ ∃ m, w' = w.drewN (a + m) := (h (a + n)).mono fun _ _ hh => ⟨hh.1, n, hh.2.symm⟩
theorem Calls.still1 {P : Program} {f : FuncId} {args : Array Value} {w : World} {v : Value} (h : ∀ k, Calls P f args (w.drewN k) fun e w' => e = .returned v ∧ w.drewN k = w') (n : Nat) :
    Calls P f args (w.drewN n) fun e w' => e = .returned v ∧ ∃ m, w' = w.drewN m := (h n).mono fun _ _ hh => ⟨hh.1, n, hh.2.symm⟩

/-- Four new cells. -/
theorem Blk.f4 {w : World} {g : Nat} {t : TypeId} {cs : Array Value} (h : Blk w g t cs) : w.frozen? ⟨g, 0, none⟩ = false ∧ w.frozen? ⟨g, 1, none⟩ = false ∧ w.frozen? ⟨g, 2, none⟩ = false ∧ w.frozen? ⟨g, 3, none⟩ = false :=
  ⟨h.frozen 0, h.frozen 1, h.frozen 2, h.frozen 3⟩
theorem Blk.c2 {a b x y : Value} {w : World} {g : Nat} {t : TypeId} (h : Blk w g t #[a, b, x, y]) : w.cell? ⟨g, 0, none⟩ = some a ∧ w.cell? ⟨g, 1, none⟩ = some b ∧ w.cell? ⟨g, 2, none⟩ = some x ∧ w.cell? ⟨g, 3, none⟩ = some y :=
  ⟨h.cell 0, h.cell 1, h.cell 2, h.cell 3⟩
end Go.Proofs.YthkdkefkgmmoiaaDoor
