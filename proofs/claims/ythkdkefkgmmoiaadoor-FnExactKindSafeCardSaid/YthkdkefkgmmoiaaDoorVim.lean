/- The program's values: what is one. The program's values: the parts of a record. The program's values: what is one, whole. -/
import Derived.Test.YthkdkefkgmmoiaaDoorImc
import Derived.Test.YthkdkefkgmmoiaaDoorVsp
namespace Go.Proofs.YthkdkefkgmmoiaaDoor
open Go.RowKit

/-- Block b is the whole table of good kinds, their fields read through F. -/
def Table (F : Nat → Prop) (ks : Ks) (b : Nat) (w : World) : Prop := ∃ l, MapIs (RecF F w) w b l ∧ Tab ks ks.length 0 l
theorem RecF.keep {F : Nat → Prop} {w w' : World} {v : Value} {r : Rec} (hk : ∀ b, F b → w'.heap[b]? = w.heap[b]?) (h : RecF F w v r) : RecF F w' v r := by
  obtain ⟨A, c, h1, h2, h3⟩ := h
  exact ⟨A, c, h1, h2.keep hk, h3⟩
theorem Table.keep {F : Nat → Prop} {ks : Ks} {b : Nat} {w w' : World} (h : Table F ks b w) (hk : ∀ b, F b → w'.heap[b]? = w.heap[b]?) (hb : w'.heap[b]? = w.heap[b]?) : Table F ks b w' := by
  obtain ⟨l, h1, h2⟩ := h
  exact ⟨l, (h1.keep hb).imp fun _ _ h => h.keep hk, h2⟩
theorem Table.lt {F : Nat → Prop} {ks : Ks} {b : Nat} {w : World} (h : Table F ks b w) : b < w.heap.size := by
  obtain ⟨l, h1, _⟩ := h
  exact h1.lt
theorem Table.drew {F : Nat → Prop} {ks : Ks} {b : Nat} {w : World} (h : Table F ks b w) : Table F ks b w.drew := h.keep (fun _ _ => rfl) rfl
/-- What the table has under a text. -/
theorem Table.find {F : Nat → Prop} {ks : Ks} {b : Nat} {w : World} (h : Table F ks b w) {P : Program} {t k e : TypeId} (ht : P.underlying t = some (.map k e)) (hk : P.underlying k = some .string) (z : Value) (hz : (zeroValue e).run P w = .ok z w) (s : ByteArray) :
    ((∀ m k, kindOf s = some (m, k) → hasB ks m k = false) ∧ (Instr.lookup t (.map (some b)) (.string s) true).run P w = .ok (.tuple #[z, .bool false]) w) ∨
    (∃ m k A c, kindOf s = some (m, k) ∧ hasB ks m k = true ∧ Cod.str.Sl F w (.slice A (recAt ks m k).fields.length c) (recAt ks m k).fields ∧ I64 (recAt ks m k).able ∧
      (Instr.lookup t (.map (some b)) (.string s) true).run P w = .ok (.tuple #[.agg #[.int .i64 (recAt ks m k).able, .slice A (recAt ks m k).fields.length c], .bool true]) w) := by
  obtain ⟨l, h1, h2⟩ := h
  have htl := h2 s
  unfold tabLook at htl
  rcases h1.lookup ht hk z hz s true with ⟨g1, g2⟩ | ⟨r, x, g1, ⟨A, c, rfl, hS, hI⟩, g2⟩
  · left
    simp only [if_true] at g2
    refine ⟨fun m k hm => ?_, g2⟩
    rw [g1, hm] at htl
    simp only at htl
    cases hh : hasB ks m k with
    | false => rfl
    | true =>
      obtain ⟨hlt, _⟩ := has_at hh
      rw [if_pos ⟨hh, .inl hlt⟩] at htl
      cases htl
  · right
    simp only [if_true] at g2
    rw [g1] at htl
    cases hi : kindOf s with
    | none => rw [hi] at htl; cases htl
    | some mk =>
      obtain ⟨m, k⟩ := mk
      rw [hi] at htl
      simp only at htl
      split at htl
      · rename_i hc
        obtain rfl : r = recAt ks m k := by simpa using htl
        exact ⟨m, k, A, c, rfl, hc.1, hS, hI, g2⟩
      · cases htl

/-- The greatest number of a type that is told by it. -/
def topB (t : ByteArray) : Int := if (t.toList == [110]) = true then 1000000 else if (t.toList == [98]) = true then 1 else if (t.toList == [111]) = true then 3 else -1

theorem okOf_path {ks : Ks} {f : Val → Bool} {v : Val} (h : v.path.length ≠ 0) : okOf ks f v = false := by
  unfold okOf plainV
  rw [decide_eq_false h]
  simp only [Bool.and_false, Bool.false_and]
  split
  · rfl
  · split
    · rfl
    · split
      · rfl
      · split <;> rfl
theorem okOf_no {ks : Ks} {f : Val → Bool} {v : Val} (c1 : (v.ty.toList == [110]) = false) (c2 : (v.ty.toList == [98]) = false) (c3 : (v.ty.toList == [111]) = false) (h : ∀ m k, kindOf v.ty = some (m, k) → hasB ks m k = false) : okOf ks f v = false := by
  unfold okOf
  rw [c1, c2, c3]
  simp only [Bool.false_eq_true, if_false]
  split
  · rfl
  · rename_i m k hk
    rw [h m k hk]
    rfl
theorem okOf_rec {ks : Ks} {f : Val → Bool} {v : Val} (c1 : (v.ty.toList == [110]) = false) (c2 : (v.ty.toList == [98]) = false) (c3 : (v.ty.toList == [111]) = false) {m k : Nat} (hk : kindOf v.ty = some (m, k)) (hh : hasB ks m k = true) (hp : v.path.length = 0) :
    okOf ks f v = ((decide (v.n = 0) && decide (v.parts.length = (recAt ks m k).fields.length)) && (v.parts.zip (recAt ks m k).fields).all (partB f)) := by
  unfold okOf
  rw [c1, c2, c3]
  simp only [Bool.false_eq_true, if_false]
  rw [hk]
  simp only
  rw [hh, decide_eq_true hp, Bool.true_and, Bool.and_true]
  rfl

end Go.Proofs.YthkdkefkgmmoiaaDoor

namespace Go.Proofs.YthkdkefkgmmoiaaDoor
open Go.RowKit

theorem Blk.of2 (w : World) (t u : TypeId) (cs ds : Array Value) : Blk ((w.alloc (.cells cs t)).alloc (.cells ds u)) w.heap.size t cs ∧ Blk ((w.alloc (.cells cs t)).alloc (.cells ds u)) (w.heap.size + 1) u ds := by
  refine ⟨(Blk.new w t cs).alloc _, ?_⟩
  have h := Blk.new (w.alloc (.cells cs t)) u ds
  simpa using h

end Go.Proofs.YthkdkefkgmmoiaaDoor

namespace Go.Proofs.YthkdkefkgmmoiaaDoor
open Go.RowKit

end Go.Proofs.YthkdkefkgmmoiaaDoor
