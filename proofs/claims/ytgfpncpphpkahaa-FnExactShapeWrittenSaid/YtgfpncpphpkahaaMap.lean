/- Maps whose keys are strings, told as lists of pairs in the order in which they came. -/
import Derived.Test.YtgfpncpphpkahaaKit
import Derived.Maps.Own
namespace Go.Proofs.Ytgfpncpphpkahaa
open Go.RowKit

variable {α : Type}

/-- What a list of pairs has under a key. -/
def look (l : List (ByteArray × α)) (s : ByteArray) : Option α := (l.find? fun x => decide (s = x.1)).map (·.2)
/-- A list of pairs with a key put. -/
def putA : List (ByteArray × α) → ByteArray → α → List (ByteArray × α)
  | [], s, x => [(s, x)]
  | y :: l, s, x => if s = y.1 then (s, x) :: l else y :: putA l s x

/-- Entries that read as a list of pairs. -/
def MRel (R : Value → α → Prop) : List MapEntry → List (ByteArray × α) → Prop
  | [], [] => True
  | e :: es, x :: l => e.key = .string x.1 ∧ R e.val x.2 ∧ MRel R es l
  | _, _ => False

theorem MRel.imp {R S : Value → α → Prop} (h : ∀ v x, R v x → S v x) : ∀ {es : List MapEntry} {l : List (ByteArray × α)}, MRel R es l → MRel S es l
  | [], [], _ => trivial
  | _ :: _, _ :: _, ⟨h1, h2, h3⟩ => ⟨h1, h _ _ h2, MRel.imp h h3⟩
theorem MRel.find {R : Value → α → Prop} (s : ByteArray) : ∀ {es : List MapEntry} {l : List (ByteArray × α)} (_ : MRel R es l) (i : Nat),
    (look l s = none ∧ Instr.findNow .string (.string s) es i = some none ∧ ∀ x, putA l s x = l ++ [(s, x)]) ∨
    (∃ x j e, look l s = some x ∧ Instr.findNow .string (.string s) es i = some (some (i + j, e.val)) ∧ es[j]? = some e ∧ e.key = .string s ∧ R e.val x ∧
      ∀ (v : Value) y, R v y → MRel R (es.modify j fun e => { e with key := .string s, val := v }) (putA l s y))
  | [], [], _, i => .inl ⟨rfl, rfl, fun _ => rfl⟩
  | e :: es, x :: l, ⟨h1, h2, h3⟩, i => by
    by_cases hk : s = x.1
    · have hb : (s == x.1) = true := (MapKept.bytes_beq _ _).2 hk
      refine .inr ⟨x.2, 0, e, ?_, ?_, rfl, h1.trans (by rw [hk]), h2, fun v y hv => ?_⟩
      · unfold look
        rw [List.find?_cons, decide_eq_true hk]; rfl
      · simp [Instr.findNow, Instr.sameNow, h1, hb]
      · simp only [putA, if_pos hk]
        exact ⟨rfl, hv, h3⟩
    · have hb : (s == x.1) = false := by
        cases hc : (s == x.1) with
        | false => rfl
        | true => exact absurd ((MapKept.bytes_beq _ _).1 hc) hk
      rcases MRel.find s h3 (i + 1) with ⟨g1, g2, g3⟩ | ⟨y, j, e', g1, g2, g3, g4, g5, g6⟩
      · refine .inl ⟨?_, ?_, fun z => ?_⟩
        · unfold look at g1 ⊢
          rw [List.find?_cons, decide_eq_false hk]; exact g1
        · simp only [Instr.findNow, Instr.sameNow, h1, hb]; exact g2
        · simp only [putA, if_neg hk]; rw [g3]; rfl
      · refine .inr ⟨y, j + 1, e', ?_, ?_, g3, g4, g5, fun v z hv => ?_⟩
        · unfold look at g1 ⊢
          rw [List.find?_cons, decide_eq_false hk]; exact g1
        · simp only [Instr.findNow, Instr.sameNow, h1, hb]; rw [g2]; congr 3; omega
        · simp only [putA, if_neg hk]
          exact ⟨h1, h2, g6 v z hv⟩
theorem MRel.push {R : Value → α → Prop} {s : ByteArray} {v : Value} {y : α} {c : Nat} (hv : R v y) : ∀ {es : List MapEntry} {l : List (ByteArray × α)}, MRel R es l → MRel R (es ++ [⟨.string s, v, c⟩]) (l ++ [(s, y)])
  | [], [], _ => ⟨rfl, hv, trivial⟩
  | _ :: _, _ :: _, ⟨h1, h2, h3⟩ => ⟨h1, h2, MRel.push hv h3⟩

/-- Block b is a map that reads as l. -/
def MapIs (R : Value → α → Prop) (w : World) (b : Nat) (l : List (ByteArray × α)) : Prop :=
  ∃ es clock, w.heap[b]? = some (.map es clock) ∧ MRel R es.toList l

section
variable {R : Value → α → Prop} {w w' : World} {b : Nat} {l : List (ByteArray × α)} {P : Program} {t k e : TypeId}

theorem MapIs.lt (h : MapIs R w b l) : b < w.heap.size := by
  obtain ⟨es, c, hb, _⟩ := h
  exact (Array.getElem?_eq_some_iff.1 hb).1
theorem MapIs.keep (h : MapIs R w b l) (hk : w'.heap[b]? = w.heap[b]?) : MapIs R w' b l := by
  obtain ⟨es, c, hb, hr⟩ := h
  exact ⟨es, c, hk.trans hb, hr⟩
theorem MapIs.imp {S : Value → α → Prop} (h : MapIs R w b l) (hs : ∀ v x, R v x → S v x) : MapIs S w b l := by
  obtain ⟨es, c, hb, hr⟩ := h
  exact ⟨es, c, hb, hr.imp hs⟩
theorem MapIs.new (w : World) : MapIs R (w.alloc (.map #[] 0)) w.heap.size [] := ⟨#[], 0, heap_alloc_new w _, trivial⟩

/-- v, ok := m[s] -/
theorem MapIs.lookup (h : MapIs R w b l) (ht : P.underlying t = some (.map k e)) (hk : P.underlying k = some .string) (z : Value) (hz : (zeroValue e).run P w = .ok z w) (s : ByteArray) (c : Bool) :
    (look l s = none ∧ (Instr.lookup t (.map (some b)) (.string s) c).run P w = .ok (if c then .tuple #[z, .bool false] else z) w) ∨
    (∃ x v, look l s = some x ∧ R v x ∧ (Instr.lookup t (.map (some b)) (.string s) c).run P w = .ok (if c then .tuple #[v, .bool true] else v) w) := by
  obtain ⟨es, cl, hb, hr⟩ := h
  have hck : ∀ x n, (Instr.checkKey x (n + 1) k (.string s)).run P w = .ok () w := fun x n => MapKept.run_checkKey (k := .string s) hk (show MapKept.IsKey .string (.string s) from trivial) x n
  rcases hr.find s 0 with ⟨g1, g2, _⟩ | ⟨x, j, e', g1, g2, g3, g4, g5, _⟩
  · refine .inl ⟨g1, ?_⟩
    simp [Instr.lookup, run_underlying ht, MapKept.run_getObj_map hb, hck, MapKept.run_findKey hk g2, hz, Result.andThen]
  · refine .inr ⟨x, e'.val, g1, g5, ?_⟩
    simp [Instr.lookup, run_underlying ht, MapKept.run_getObj_map hb, hck, MapKept.run_findKey hk g2, Result.andThen]

theorem setBlock_grown {w : World} {b : Nat} {o o' : Obj} (hb : w.heap[b]? = some o) : w.grownBy { w with heap := w.heap.setIfInBounds b o' } (some b) :=
  ⟨rfl, rfl, rfl, by simp, fun i _ hi => (MapKept.heap_set hb).2 i (fun e => hi (by rw [e]))⟩

/-- m[s] = v -/
theorem MapIs.update (h : MapIs R w b l) (ht : P.underlying t = some (.map k e)) (hk : P.underlying k = some .string) (s : ByteArray) (v : Value) (x : α) (hv : R v x) :
    ∃ w', (Instr.mapUpdate t (.map (some b)) (.string s) v).run P w = .ok () w' ∧ MapIs R w' b (putA l s x) ∧ w.grownBy w' (some b) ∧ w'.heap.size = w.heap.size := by
  obtain ⟨es, cl, hb, hr⟩ := h
  have hck : ∀ x n, (Instr.checkKey x (n + 1) k (.string s)).run P w = .ok () w := fun x n => MapKept.run_checkKey (k := .string s) hk (show MapKept.IsKey .string (.string s) from trivial) x n
  rcases hr.find s 0 with ⟨g1, g2, g3⟩ | ⟨y, j, e', g1, g2, g3, g4, g5, g6⟩
  · refine ⟨{ w with heap := w.heap.setIfInBounds b (.map (es.push ⟨.string s, v, cl⟩) (cl + 1)) }, ?_, ⟨_, _, (MapKept.heap_set hb).1, ?_⟩, setBlock_grown hb, by simp⟩
    · simp [Instr.mapUpdate, run_underlying ht, MapKept.run_getObj_map hb, hck, MapKept.run_findKey hk g2, Result.andThen, MapKept.run_setObj_map _ hb]
    · rw [g3, Array.toList_push]
      exact hr.push hv
  · refine ⟨{ w with heap := w.heap.setIfInBounds b (.map (es.modify j fun e => { e with key := .string s, val := v }) cl) }, ?_, ⟨_, _, (MapKept.heap_set hb).1, ?_⟩, setBlock_grown hb, by simp⟩
    · have hsb : Instr.sameBits 10000 (.string s) (.string s) = true := by simp [Instr.sameBits, (MapKept.bytes_beq s s).2 rfl]
      have hg : es[j]? = some e' := by simpa using g3
      simp [Instr.mapUpdate, run_underlying ht, MapKept.run_getObj_map hb, hck, MapKept.run_findKey hk g2, Result.andThen, hg, g4, Instr.keyThatStays, hsb, MapKept.run_setObj_map _ hb]
    · rw [Array.toList_modify]
      exact g6 v x hv
end
end Go.Proofs.Ytgfpncpphpkahaa
