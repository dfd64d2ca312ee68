/- The model of values: what is one. -/
import Derived.Test.YtjmdhjnfekpklaaDoorSpd
import Derived.Test.YtjmdhjnfekpklaaDoorVal
namespace Go.Proofs.YtjmdhjnfekpklaaDoor
open Go.RowKit

def inB (n lo hi : Int) : Bool := decide (lo ≤ n) && decide (n ≤ hi)
def plainV (v : Val) : Bool := decide (v.parts.length = 0) && decide (v.path.length = 0)
/-- A value is one of kinds, its parts by f. -/
def okOf (ks : Ks) (f : Val → Bool) (v : Val) : Bool :=
  if (v.ty.toList == [110]) = true then plainV v && inB v.n 0 1000000
  else if (v.ty.toList == [98]) = true then plainV v && inB v.n 0 1
  else if (v.ty.toList == [111]) = true then plainV v && inB v.n 0 3
  else match kindOf v.ty with
    | none => false
    | some (m, k) => (hasB ks m k && decide (v.n = 0) && decide (v.path.length = 0) && decide (v.parts.length = (recAt ks m k).fields.length)) && (v.parts.zip (recAt ks m k).fields).all fun x => (x.1.ty.toList == x.2.toList) && f x.1
def okV (ks : Ks) : Nat → Val → Bool
  | 0 => fun _ => false
  | d + 1 => okOf ks (okV ks d)

set_option maxHeartbeats 400000 in
theorem l2Plain_any {c : Cod Val} (F : Nat → Prop) (A B : Option Addr) (n m cA cB : Nat) (v : Val) (w : World) (h : VRd c F w (.slice A n cA) (.slice B m cB) v) :
    Calls Tryd.prog 36 #[.agg #[.string v.ty, .int .i64 v.n, .slice A n cA, .slice B m cB]] w fun e w' => e = .returned (.bool (plainV v)) ∧ w.alloc (.cells #[.string v.ty, .int .i64 v.n, .slice A n cA, .slice B m cB] 34) = w' := by
  obtain ⟨A', cA', hA, hA1, hA2, _⟩ := h.parts
  obtain ⟨B', cB', hB, hB1, hB2, _⟩ := h.path
  simp only [Value.slice.injEq] at hA hB
  obtain ⟨rfl, rfl, rfl⟩ := hA
  obtain ⟨rfl, rfl, rfl⟩ := hB
  unfold maxLen at hA2 hB2
  clear h
  by_cases h1 : v.parts.length = 0
  · by_cases h2 : v.path.length = 0
    · have HP : Hid (plainV v = true) := by show _ = _; unfold plainV; rw [h1, h2]; rfl
      have b1 : ((v.parts.length : Int) == 0) = true := by rw [beq_iff_eq]; omega
      have b2 : ((v.path.length : Int) == 0) = true := by rw [beq_iff_eq]; omega
      clear h1 h2
      go_enter Tryd.func36, Tryd.ntmps36
      go_wp2
      go_ret
      exact ⟨ret_bool HP.out.symm, rfl⟩
    · have HP : Hid (plainV v = false) := by show _ = _; unfold plainV; rw [decide_eq_false h2, Bool.and_false]
      have b1 : ((v.parts.length : Int) == 0) = true := by rw [beq_iff_eq]; omega
      have b2 : ((v.path.length : Int) == 0) = false := by rw [beq_eq_false_iff_ne]; omega
      clear h1 h2
      go_enter Tryd.func36, Tryd.ntmps36
      go_wp2
      go_ret
      exact ⟨ret_bool HP.out.symm, rfl⟩
  · have HP : Hid (plainV v = false) := by show _ = _; unfold plainV; rw [decide_eq_false h1, Bool.false_and]
    have b1 : ((v.parts.length : Int) == 0) = false := by rw [beq_eq_false_iff_ne]; omega
    clear h1
    go_enter Tryd.func36, Tryd.ntmps36
    go_wp2
    go_ret
    exact ⟨ret_bool HP.out.symm, rfl⟩

def OkC (ks : Ks) (c : Cod Val) (f : Val → Bool) : Prop := ∀ (F : Nat → Prop) (kv : Value) (A B : Option Addr) (n m cA cB : Nat) (v : Val) (w : World), Cod.recs.Sl F w kv ks → VRd c F w (.slice A n cA) (.slice B m cB) v → (∀ b, F b → b < w.heap.size) →
    Calls Tryd.prog 27 #[kv, .agg #[.string v.ty, .int .i64 v.n, .slice A n cA, .slice B m cB]] w fun e w' => e = .returned (.bool (okOf ks f v)) ∧ Below w.heap.size w w'

end Go.Proofs.YtjmdhjnfekpklaaDoor
