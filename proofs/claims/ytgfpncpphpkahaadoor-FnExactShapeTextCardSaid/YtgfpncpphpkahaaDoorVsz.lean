/- The functions that reckon sizes, at values. -/
import Derived.Test.YtgfpncpphpkahaaDoorSz
import Derived.Test.YtgfpncpphpkahaaDoorVal
namespace Go.Proofs.YtgfpncpphpkahaaDoor
open Go.RowKit

def szI (xs : List Int) (l : Int) : Int := if l - xs.length < 0 then -1 else l - xs.length
/-- The size of a value, its parts reckoned by f. -/
def szOf (f : Val → Int → Int) (v : Val) (l : Int) : Int :=
  if l - v.ty.size < 0 then -1 else if szS f v.parts (l - v.ty.size) < 0 then -1 else szI v.path (szS f v.parts (l - v.ty.size))
def szVal : Nat → Val → Int → Int
  | 0 => fun _ _ => -1
  | d + 1 => szOf (szVal d)

theorem szI_le (xs : List Int) (l : Int) (_ : 0 ≤ l) : szI xs l ≤ l := by unfold szI; split <;> omega
theorem szOf_le {f : Val → Int → Int} (hf : ∀ x l, 0 ≤ l → f x l ≤ l) (v : Val) (l : Int) (h : 0 ≤ l) : szOf f v l ≤ l := by
  unfold szOf
  split
  · omega
  · split
    · omega
    · have h1 := szS_le hf v.parts (l - v.ty.size) (by omega)
      have h2 := szI_le v.path (szS f v.parts (l - v.ty.size)) (by omega)
      omega
theorem szVal_le : ∀ (d : Nat) (v : Val) (l : Int), 0 ≤ l → szVal d v l ≤ l
  | 0, _, _, h => by unfold szVal; omega
  | d + 1, v, l, h => szOf_le (szVal_le d) v l h

set_option maxHeartbeats 400000 in
theorem szIntS_any (F : Nat → Prop) (v : Value) (xs : List Int) (left : Int) (w : World) (h : Cod.i64.Sl F w v xs) (h0 : 0 ≤ left) (h1 : left ≤ 2000000) :
    Calls Tryd.prog 47 #[v, .int .i64 left] w fun e w' => e = .returned (.int .i64 (szI xs left)) ∧ w = w' := by
  obtain ⟨A, cap, rfl, hlc, hcm, _⟩ := h
  unfold maxLen at hcm
  by_cases ht : left - xs.length < 0
  · have HR : Hid (szI xs left = -1) := by show _ = _; unfold szI; rw [if_pos ht]
    go_enter Tryd.func47, Tryd.ntmps47
    go_wp2
    go_ret
    exact ⟨ret_int HR.out.symm, rfl⟩
  · have HR : Hid (szI xs left = left - xs.length) := by show _ = _; unfold szI; rw [if_neg ht]
    go_enter Tryd.func47, Tryd.ntmps47
    go_wp2
    go_ret
    exact ⟨ret_int HR.out.symm, rfl⟩

end Go.Proofs.YtgfpncpphpkahaaDoor
