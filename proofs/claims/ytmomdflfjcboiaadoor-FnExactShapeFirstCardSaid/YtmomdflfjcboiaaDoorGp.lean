/- The type of a place of a function: of the model and of the program. -/
import Derived.Test.YtmomdflfjcboiaaDoorGd
import Derived.Test.YtmomdflfjcboiaaDoorSp
namespace Go.Proofs.YtmomdflfjcboiaaDoor
open Go.RowKit

def placeAt (x : FunR) (m : Nat) : ByteArray := if m < x.args.length then x.args.getD m ByteArray.empty else x.locals.getD (m - x.args.length) ByteArray.empty
def fplace (x : FunR) (n : Int) : ByteArray × Bool := if 0 ≤ n ∧ n < x.args.length + x.locals.length then (placeAt x n.toNat, true) else (ByteArray.empty, false)
theorem fplace_yes {x : FunR} {m : Nat} (h : m < x.args.length + x.locals.length) : fplace x m = (placeAt x m, true) := by
  unfold fplace
  rw [if_pos (by omega)]
  simp
theorem fplace_no {x : FunR} {n : Int} (h : ¬ (0 ≤ n ∧ n < x.args.length + x.locals.length)) : fplace x n = (ByteArray.empty, false) := by
  unfold fplace
  rw [if_neg h]
theorem l6In_yn (n low high : Int) (w : World) : (low ≤ n ∧ n ≤ high → Calls Tryd.prog 36 #[.int .i64 n, .int .i64 low, .int .i64 high] w fun e w' => e = .returned (.bool true) ∧ w = w') ∧ (¬ (low ≤ n ∧ n ≤ high) → Calls Tryd.prog 36 #[.int .i64 n, .int .i64 low, .int .i64 high] w fun e w' => e = .returned (.bool false) ∧ w = w') :=
  ⟨fun h => (l6In_any n low high w).mono fun _ _ hh => ⟨by rw [hh.1, decide_eq_true h.1, decide_eq_true h.2]; rfl, hh.2⟩,
   fun h => (l6In_any n low high w).mono fun _ _ hh => ⟨by
     rw [hh.1]
     by_cases h1 : low ≤ n
     · rw [decide_eq_false (p := n ≤ high) (fun h2 => h ⟨h1, h2⟩), Bool.and_false]
     · rw [decide_eq_false h1, Bool.false_and], hh.2⟩⟩
theorem ret_sb {a a' : ByteArray} {b b' : Bool} (ha : a = a') (hb : b = b') : Ending.returned (.tuple #[.string a, .bool b]) = .returned (.tuple #[.string a', .bool b']) := by rw [ha, hb]

/-- A function as a value. -/
def funV (x : FunR) (A1 A2 A3 A4 A5 : Option Addr) (c1 c2 c3 c4 c5 : Nat) : Value := .agg #[.int .i64 x.seen, .slice A1 x.args.length c1, .slice A2 x.rets.length c2, .slice A3 x.locals.length c3, .slice A4 x.takes.length c4, .slice A5 x.code.length c5]
def FunIn (F : Nat → Prop) (w : World) (x : FunR) (A1 A2 A3 A4 A5 : Option Addr) (c1 c2 c3 c4 c5 : Nat) : Prop := FunRd F w (.slice A1 x.args.length c1) (.slice A2 x.rets.length c2) (.slice A3 x.locals.length c3) (.slice A4 x.takes.length c4) (.slice A5 x.code.length c5) x
theorem FunIn.keep {F : Nat → Prop} {w w' : World} {x : FunR} {A1 A2 A3 A4 A5 : Option Addr} {c1 c2 c3 c4 c5 : Nat} (hk : ∀ b, F b → w'.heap[b]? = w.heap[b]?) (h : FunIn F w x A1 A2 A3 A4 A5 c1 c2 c3 c4 c5) : FunIn F w' x A1 A2 A3 A4 A5 c1 c2 c3 c4 c5 := FunRd.keep hk h

end Go.Proofs.YtmomdflfjcboiaaDoor
