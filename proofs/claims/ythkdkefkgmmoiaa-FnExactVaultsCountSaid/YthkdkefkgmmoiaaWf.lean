/- The model's l9Copy: a copy of vaults. The model's l9Put: a record put to vaults, in order. -/
import Derived.Test.YthkdkefkgmmoiaaWe
import Derived.Test.YthkdkefkgmmoiaaWc
import Derived.BigQuiet
namespace Go.Proofs.Ythkdkefkgmmoiaa
open Go.RowKit

theorem five_one {o : Int} {a : ByteArray} {n : Int} {A B : Option Addr} {l c l' c' : Nat} : ∀ u ∈ ([.int .i64 o, .string a, .int .i64 n, .slice A l c, .slice B l' c'] : List Value), u.oneCell' = true := fun u hu => by
  simp only [List.mem_cons, List.not_mem_nil, or_false] at hu
  rcases hu with rfl | rfl | rfl | rfl | rfl <;> rfl

/-- append(row, record). -/
theorem push_kept {d base cb : Nat} {w : World} {v : Value} {xs : List KepR} (h : OwnRow (Cod.kept (Cod.val d)) 97 base cb w v xs) (hn : xs.length ≤ 2000000) (hcb : cb ≤ base) (hbase : base ≤ w.heap.size) {G : Nat → Prop} {A B : Option Addr} {cA cB : Nat} (x : KepR) (ho : I64 x.o) (hV : VRd (Cod.val d) G w (.slice A x.v.parts.length cA) (.slice B x.v.path.length cB) x.v)
    (hG : ∀ b, G b → cb ≤ b ∧ b < w.heap.size ∧ v.ownBlock ≠ some b) :
    ∃ g cap w', (Builtin.append_ #[57, 57] 57 #[v, .slice (some ⟨w.heap.size, 0, none⟩) 1 1]).run Try.prog (w.alloc (.cells #[.int .i64 x.o, .string x.v.ty, .int .i64 x.v.n, .slice A x.v.parts.length cA, .slice B x.v.path.length cB] 97)) = .ok (.slice (some ⟨g, 0, none⟩) (xs.length + 1) cap) w' ∧
      OwnRow (Cod.kept (Cod.val d)) 97 base cb w' (.slice (some ⟨g, 0, none⟩) (xs.length + 1) cap) (xs ++ [x]) ∧ Below base w w' := by
  obtain ⟨g, cap, w', h1, h2, h3, h4, h5⟩ := OwnRow.push (P := Try.prog) (c := Cod.kept (Cod.val d)) 57 57 _ 80 Try.underlying57 info_kept rfl (by show 0 < 5; decide) (by omega) h hn hcb hbase 1 [.int .i64 x.o, .string x.v.ty, .int .i64 x.v.n, .slice A x.v.parts.length cA, .slice B x.v.path.length cB] x five_one ⟨_, _, rfl, ho, hV.mono hG⟩
  have hown := h.own_lt5
  exact ⟨g, cap, w', h1, h2, ⟨h3.os, h3.tape, h3.output, h3.size, fun i hi => h3.block i (by omega) fun he => by have := (hown i he.symm).1; omega⟩⟩
theorem OwnRow.noown {α : Type} {c : Cod α} {e : TypeId} {base cb : Nat} {w : World} {v : Value} {xs : List α} (h : OwnRow c e base cb w v xs) {b : Nat} (hb : w.heap.size ≤ b) : v.ownBlock ≠ some b := fun he => by have := (h.own_lt5 b he).2; omega

def CopyKD (d : Nat) (xs : List KepR) (w : World) (e : Ending) (w' : World) : Prop :=
  ∃ g cap, e = .returned (.slice (some ⟨g, 0, none⟩) xs.length cap) ∧ OwnRow (Cod.kept (Cod.val d)) 97 w.heap.size w.heap.size w' (.slice (some ⟨g, 0, none⟩) xs.length cap) xs ∧ Below w.heap.size w w'

end Go.Proofs.Ythkdkefkgmmoiaa

namespace Go.Proofs.Ythkdkefkgmmoiaa
open Go.RowKit

def gtK (x : KepR) (o : Int) (t : ByteArray) : Bool := decide (o < x.o) || ((x.o == o) && !(Go.Op.bytesLess x.v.ty.toList t.toList || x.v.ty.toList == t.toList))
def putK (o : Int) (v : Val) : List KepR → List KepR
  | [] => [⟨o, v⟩]
  | x :: r => if gtK x o v.ty = true then ⟨o, v⟩ :: x :: r else x :: putK o v r
theorem putK_length (o : Int) (v : Val) : ∀ xs : List KepR, (putK o v xs).length = xs.length + 1
  | [] => rfl
  | x :: r => by
    unfold putK
    split
    · rfl
    · rw [List.length_cons, putK_length o v r, List.length_cons]
def PutKD (d M : Nat) (ys : List KepR) (w : World) (e : Ending) (w' : World) : Prop :=
  ∃ g cap, e = .returned (.slice (some ⟨g, 0, none⟩) ys.length cap) ∧ OwnRow (Cod.kept (Cod.val d)) 97 w.heap.size M w' (.slice (some ⟨g, 0, none⟩) ys.length cap) ys ∧ Below w.heap.size w w'

end Go.Proofs.Ythkdkefkgmmoiaa
