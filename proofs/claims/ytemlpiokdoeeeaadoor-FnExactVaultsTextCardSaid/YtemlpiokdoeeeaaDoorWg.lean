/- The model's l9Put: a record put to vaults, in order. -/
import Derived.Test.YtemlpiokdoeeeaaDoorWf
import Derived.BigQuiet
namespace Go.Proofs.YtemlpiokdoeeeaaDoor
open Go.RowKit

def gtK (x : KepR) (o : Int) (t : ByteArray) : Bool := decide (o < x.o) || ((x.o == o) && !(Go.Op.bytesLess x.v.ty.toList t.toList || x.v.ty.toList == t.toList))
def putK (o : Int) (v : Val) : List KepR → List KepR
  | [] => [⟨o, v⟩]
  | x :: r => if gtK x o v.ty = true then ⟨o, v⟩ :: x :: r else x :: putK o v r
theorem putK_length (o : Int) (v : Val) : ∀ xs : List KepR, (putK o v xs).length = xs.length + 1
  | [] => rfl
  | x :: r => by
    unfold putK
    split
    · rfl
    · rw [List.length_cons, putK_length o v r, List.length_cons]
def PutKD (d M : Nat) (ys : List KepR) (w : World) (e : Ending) (w' : World) : Prop :=
  ∃ g cap, e = .returned (.slice (some ⟨g, 0, none⟩) ys.length cap) ∧ OwnRow (Cod.kept (Cod.val d)) 49 w.heap.size M w' (.slice (some ⟨g, 0, none⟩) ys.length cap) ys ∧ Below w.heap.size w w'

end Go.Proofs.YtemlpiokdoeeeaaDoor
