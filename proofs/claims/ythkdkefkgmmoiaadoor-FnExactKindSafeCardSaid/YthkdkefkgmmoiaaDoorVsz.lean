/- The functions that reckon sizes, at values. The functions that copy arguments, at values: what they hand back is new, and reads as what came in. The functions that compare, at values: where both sides read as the same, they answer true. -/
import Derived.Test.YthkdkefkgmmoiaaDoorSz
import Derived.Test.YthkdkefkgmmoiaaDoorVal
import Derived.Test.YthkdkefkgmmoiaaDoorTo
import Derived.Test.YthkdkefkgmmoiaaDoorEq
namespace Go.Proofs.YthkdkefkgmmoiaaDoor
open Go.RowKit

def szI (xs : List Int) (l : Int) : Int := if l - xs.length < 0 then -1 else l - xs.length
/-- The size of a value, its parts reckoned by f. -/
def szOf (f : Val → Int → Int) (v : Val) (l : Int) : Int :=
  if l - v.ty.size < 0 then -1 else if szS f v.parts (l - v.ty.size) < 0 then -1 else szI v.path (szS f v.parts (l - v.ty.size))
def szVal : Nat → Val → Int → Int
  | 0 => fun _ _ => -1
  | d + 1 => szOf (szVal d)

theorem szI_le (xs : List Int) (l : Int) (_ : 0 ≤ l) : szI xs l ≤ l := by unfold szI; split <;> omega
theorem szOf_le {f : Val → Int → Int} (hf : ∀ x l, 0 ≤ l → f x l ≤ l) (v : Val) (l : Int) (h : 0 ≤ l) : szOf f v l ≤ l := by
  unfold szOf
  split
  · omega
  · split
    · omega
    · have h1 := szS_le hf v.parts (l - v.ty.size) (by omega)
      have h2 := szI_le v.path (szS f v.parts (l - v.ty.size)) (by omega)
      omega
theorem szVal_le : ∀ (d : Nat) (v : Val) (l : Int), 0 ≤ l → szVal d v l ≤ l
  | 0, _, _, h => by unfold szVal; omega
  | d + 1, v, l, h => szOf_le (szVal_le d) v l h

set_option maxHeartbeats 400000 in
theorem szIntS_any (F : Nat → Prop) (v : Value) (xs : List Int) (left : Int) (w : World) (h : Cod.i64.Sl F w v xs) (h0 : 0 ≤ left) (h1 : left ≤ 2000000) :
    Calls Tryd.prog 22 #[v, .int .i64 left] w fun e w' => e = .returned (.int .i64 (szI xs left)) ∧ w = w' := by
  obtain ⟨A, cap, rfl, hlc, hcm, _⟩ := h
  unfold maxLen at hcm
  by_cases ht : left - xs.length < 0
  · have HR : Hid (szI xs left = -1) := by show _ = _; unfold szI; rw [if_pos ht]
    go_enter Tryd.func22, Tryd.ntmps22
    go_wp2
    go_ret
    exact ⟨ret_int HR.out.symm, rfl⟩
  · have HR : Hid (szI xs left = left - xs.length) := by show _ = _; unfold szI; rw [if_neg ht]
    go_enter Tryd.func22, Tryd.ntmps22
    go_wp2
    go_ret
    exact ⟨ret_int HR.out.symm, rfl⟩

end Go.Proofs.YthkdkefkgmmoiaaDoor

namespace Go.Proofs.YthkdkefkgmmoiaaDoor
open Go.RowKit

theorem info_int : (Tryd.prog.info? 3).map (fun i => (i.zero, i.size, i.bytes)) = some (some (.int .i64 0), 1, 8) := by kernel_rfl
set_option maxHeartbeats 400000 in
theorem toIntS_any (F : Nat → Prop) (v : Value) (xs : List Int) (w : World) (h : Cod.i64.Sl F w v xs) (hF : ∀ b, F b → b < w.heap.size) (hn : xs.length ≤ 2000000) :
    Calls Tryd.prog 31 #[v] w fun e w' => ∃ A' c', e = .returned (.slice A' xs.length c') ∧ Made Cod.i64 w w' (.slice A' xs.length c') xs := by
  have HS := Lib.hid h
  obtain ⟨A, cap, rfl, hlc, hcm, _⟩ := h
  unfold maxLen at hcm
  have hmk := make_len (P := Tryd.prog) 32 3 _ 1 8 Tryd.underlying32 info_int (by omega) xs.length hn
  go_enter Tryd.func31, Tryd.ntmps31
  go_wp2
  go_loopw [4] (fun i wr => ∃ (k : Nat) (cs : Array Value), k ≤ xs.length ∧ i = .int .i64 k ∧ Blk wr w.heap.size 3 cs ∧ cs.size = xs.length ∧ Cod.i64.Part NoB wr cs k xs ∧ Below w.heap.size w wr) (fun i _ => xs.length - (intOf i).toNat)
  case atStart => exact ⟨0, _, Nat.zero_le _, rfl, Blk.new _ _ _, by simp [madeCells], Cod.Part.zero, (Below.refl _ _).alloc (Nat.le_refl _) _⟩
  case round =>
    obtain ⟨k, cs, hk, rfl, HB, hsz, HP, hb⟩ := hrel
    have HBl := HB.lt
    by_cases hlt : k < xs.length
    · have HSr := Lib.hid (HS.out.keep (below_keeps hb hF))
      obtain ⟨b, off, cap', hv, hFb, _, _, hc0, hi0⟩ := HSr.out.i64_at hlt
      obtain ⟨rfl, rfl⟩ : A = some ⟨b, off, none⟩ ∧ cap = cap' := by simpa using hv
      obtain ⟨d0, hd0⟩ := HB.holds hsz hlt
      have hf0 := HB.frozen k
      have HB' := Lib.hid HB
      have HP' := Lib.hid HP
      have Hsz := Lib.hid hsz
      have HI := Lib.hid hi0
      clear hv HB HP hsz hmk hi0
      go_wp2
      go_roundw
      case rel => exact ⟨k + 1, _, by omega, by go_num, HB'.out.set_ k _, by rw [Array.size_setIfInBounds, Hsz.out], (HP'.out.keep fun b hb' => hb'.elim).one rfl hlt Hsz.out ⟨rfl, HI.out⟩, hb.setCell (by simp) _⟩
      case measure => simp [intOf]; omega
    · obtain rfl : k = xs.length := by omega
      have HM : Made Cod.i64 w wr (.slice (some ⟨w.heap.size, 0, none⟩) xs.length xs.length) xs := ⟨(HP.mono fun _ h => h.elim).sl HB ⟨Nat.le_refl _, HBl⟩ (Nat.le_refl _) (by unfold maxLen; omega), hb⟩
      clear hmk HB HP
      go_wp2
      go_ret
      exact ⟨_, _, rfl, HM⟩

/-- No slice in it is long. -/
def Smol (P : Val → Prop) (v : Val) : Prop := v.parts.length ≤ 2000000 ∧ v.path.length ≤ 2000000 ∧ ∀ x ∈ v.parts, P x
def SmolD : Nat → Val → Prop
  | 0 => fun _ => True
  | d + 1 => Smol (SmolD d)

/-- The first of three new blocks. -/
theorem Blk.of3a (w : World) (o o' : Obj) (t : TypeId) (cs : Array Value) : Blk (((w.alloc (.cells cs t)).alloc o).alloc o') w.heap.size t cs := ((Blk.new w t cs).alloc o).alloc o'

end Go.Proofs.YthkdkefkgmmoiaaDoor

namespace Go.Proofs.YthkdkefkgmmoiaaDoor
open Go.RowKit

set_option maxHeartbeats 400000 in
theorem eqIntS_any (F : Nat → Prop) (v v' : Value) (xs : List Int) (w : World) (h : Cod.i64.Sl F w v xs) (h' : Cod.i64.Sl F w v' xs) :
    Calls Tryd.prog 38 #[v, v'] w fun e w' => e = .returned (.bool true) ∧ Below w.heap.size w w' := by
  have HS := Lib.hid h
  have HS' := Lib.hid h'
  obtain ⟨A, cap, rfl, hlc, hcm, _⟩ := h
  obtain ⟨A', cap', rfl, hlc', hcm', _⟩ := h'
  unfold maxLen at hcm hcm'
  go_enter Tryd.func38, Tryd.ntmps38
  go_wp2
  go_loopw [5] (fun i wr => ∃ (k n : Nat), k ≤ xs.length ∧ i = .int .i64 k ∧ wr = w.drewN n) (fun i _ => xs.length - (intOf i).toNat)
  case atStart => exact ⟨0, 0, Nat.zero_le _, rfl, rfl⟩
  case round =>
    obtain ⟨k, n, hk, rfl, rfl⟩ := hrel
    by_cases hlt : k < xs.length
    · obtain ⟨b, off, c1, hv, _, _, _, hc0, _⟩ := HS.out.i64_at hlt
      obtain ⟨rfl, rfl⟩ : A = some ⟨b, off, none⟩ ∧ cap = c1 := by simpa using hv
      obtain ⟨b', off', c1', hv', _, _, _, hc0', _⟩ := HS'.out.i64_at hlt
      obtain ⟨rfl, rfl⟩ : A' = some ⟨b', off', none⟩ ∧ cap' = c1' := by simpa using hv'
      clear hv hv'
      have i0 : (0 : Int) ≤ k := by omega
      have i1 : (k : Int) < xs.length := by omega
      generalize xs[k] = x at hc0 hc0'
      go_wp2
      go_quiet (fail)
      go_wp2
      go_roundw
      case rel => exact ⟨k + 1, _, by omega, by go_num, rfl⟩
      case measure => simp [intOf]; omega
    · go_wp2
      go_ret
      exact ⟨rfl, below_drewN (Below.refl _ _) _⟩

end Go.Proofs.YthkdkefkgmmoiaaDoor
