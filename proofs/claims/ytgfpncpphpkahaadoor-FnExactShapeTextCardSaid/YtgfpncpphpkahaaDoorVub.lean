/- The program's texts of values: appendValue. -/
import Derived.Test.YtgfpncpphpkahaaDoorVu
namespace Go.Proofs.YtgfpncpphpkahaaDoor
open Go.RowKit

/-- What appendValue hands back. -/
def ApD (B : Nat) (w0 : World) (n : Nat) (xs : List Value) (s : ByteArray) (e : Ending) (w' : World) : Prop := ∃ v', e = .returned v' ∧ Ap B w0 v' (n + s.size) (xs ++ strC s) w'

theorem ap_int {Bs n : Nat} {w0 w w' : World} {sv v' : Value} {xs : List Value} {i : Int} {nn : Nat} (hi : i = nn) (h : Ap Bs w0 sv n xs w) (ho : w'.ownsRow Bs 5 1 v' (n + (Lib.itoa i).length) (xs ++ Lib.byteCells (Lib.itoa i))) (hb : Below Bs w w') (hk : Lib.OthersKept 5 none w w') :
    Ap Bs w0 v' (n + (decBy i.toNat).size) (xs ++ strC (decBy i.toNat)) w' := by
  subst hi
  obtain ⟨e1, e2⟩ := strC_dec nn
  rw [e1, e2] at ho
  exact ⟨ho, h.below.trans hb, h.kept.trans hk⟩

/-- append of a text, its run known, in a plain region. -/
theorem wpList_append_run2 {P : Program} {ops : Array Oper} {rest : List Oper} {o : Oper} {a : Act} {w w' : World} {Q : Exit → Act → World → Prop} {v x v' : Value} (hgd : o.guard = none) (s y : Operand) (t u : TypeId)
    (ho : o.op = .call { callee := .builtin .append, args := #[s, y], argTypes := #[t, u] }) (hs : a.eval s = v) (hx : a.eval y = x)
    (hr : (Builtin.append_ #[t, u] o.type #[v, x]).run P w = .ok v' w') (h : wpList P ops Q rest (a.put o.dst v') w') : wpList P ops Q (o :: rest) a w :=
  wpList_plain hgd fun _ hK => by
    unfold Oper.wp
    simp [execOp, ho, resolve, invoke, builtin, hs, hx, hr, Result.andThen]
    exact hK _ _ h

end Go.Proofs.YtgfpncpphpkahaaDoor
