/- Instructions: the model's table, what a word needs, and which instructions are ones. -/
import Derived.Test.YtbjnjdhkillbiaaDoorItb
import Derived.Test.YtbjnjdhkillbiaaDoorOpen
namespace Go.Proofs.YtbjnjdhkillbiaaDoor
open Go.RowKit

theorem Blk.c3 {a b c : Value} {w : World} {g : Nat} {t : TypeId} (h : Blk w g t #[a, b, c]) : w.cell? ⟨g, 0, none⟩ = some a ∧ w.cell? ⟨g, 1, none⟩ = some b ∧ w.cell? ⟨g, 2, none⟩ = some c := ⟨h.cell 0, h.cell 1, h.cell 2⟩
theorem Blk.f3 {w : World} {g : Nat} {t : TypeId} {cs : Array Value} (h : Blk w g t cs) : w.frozen? ⟨g, 0, none⟩ = false ∧ w.frozen? ⟨g, 1, none⟩ = false ∧ w.frozen? ⟨g, 2, none⟩ = false := ⟨h.frozen 0, h.frozen 1, h.frozen 2⟩

/-- An instruction as an element. -/
def Cod.ins : Cod (ByteArray × Int × Int) where
  size := 3
  rd _ _ cs x := cs = [.string x.1, .int .i64 x.2.1, .int .i64 x.2.2]
  len h := by rw [h]; rfl
  keep _ h := h
  mono _ h := h
theorem Cod.Sl.ins_at {F : Nat → Prop} {w : World} {v : Value} {xs : List (ByteArray × Int × Int)} (h : Cod.ins.Sl F w v xs) {k : Nat} (hk : k < xs.length) : ∃ b off cap, v = .slice (some ⟨b, off, none⟩) xs.length cap ∧ F b ∧ xs.length ≤ cap ∧ cap ≤ maxLen ∧
    w.cell? ⟨b, off + k * 3, none⟩ = some (.string (xs[k]).1) ∧ w.cell? ⟨b, off + k * 3 + 1, none⟩ = some (.int .i64 (xs[k]).2.1) ∧ w.cell? ⟨b, off + k * 3 + 2, none⟩ = some (.int .i64 (xs[k]).2.2) := by
  obtain ⟨b, off, cap, cs, hv, hF, h1, h2, hcell, rfl⟩ := h.get hk
  exact ⟨b, off, cap, hv, hF, h1, h2, by simpa [Cod.ins] using hcell 0 _ rfl, by simpa [Cod.ins] using hcell 1 _ rfl, by simpa [Cod.ins] using hcell 2 _ rfl⟩

def insCells : List (ByteArray × Int × Int) → List Value
  | [] => []
  | x :: r => .string x.1 :: .int .i64 x.2.1 :: .int .i64 x.2.2 :: insCells r
theorem insCells_at : ∀ (xs : List (ByteArray × Int × Int)) (i : Nat) (x : ByteArray × Int × Int), xs[i]? = some x → ∀ j u, [Value.string x.1, .int .i64 x.2.1, .int .i64 x.2.2][j]? = some u → (insCells xs)[i * 3 + j]? = some u
  | [], i, x, h, _, _, _ => by simp at h
  | y :: r, 0, x, h, j, u, hu => by
    obtain rfl : y = x := by simpa using h
    match j, hu with
    | 0, hu => simpa [insCells] using hu
    | 1, hu => simpa [insCells] using hu
    | 2, hu => simpa [insCells] using hu
    | j + 3, hu => simp at hu
  | y :: r, i + 1, x, h, j, u, hu => by
    have ih := insCells_at r i x (by simpa using h) j u hu
    rw [show (i + 1) * 3 + j = i * 3 + j + 3 by omega]
    simpa [insCells] using ih

theorem ins_made (w : World) (t : TypeId) (xs : List (ByteArray × Int × Int)) (hm : xs.length ≤ maxLen) : Made Cod.ins w (w.alloc (.cells (insCells xs).toArray t)) (.slice (some ⟨w.heap.size, 0, none⟩) xs.length xs.length) xs := by
  refine ⟨⟨_, _, rfl, Nat.le_refl _, hm, fun _ => ⟨_, 0, rfl, ⟨Nat.le_refl _, by simp⟩, fun i x hi => ⟨_, fun j u hu => ?_, rfl⟩⟩⟩, (Below.refl _ _).alloc (Nat.le_refl _) _⟩
  rw [(Blk.new w t (insCells xs).toArray).cell, Nat.zero_add]
  have := insCells_at xs i x hi j u hu
  simpa [Cod.ins] using this
theorem tab_cells : (insCells tabM).length = 111 := by decide

set_option maxRecDepth 100000 in
set_option maxHeartbeats 2000000 in
theorem l3Table_any (w : World) : Calls Tryd.prog 59 #[] w fun e w' => ∃ b off, e = .returned (.slice (some ⟨b, off, none⟩) 37 37) ∧ Made Cod.ins w w' (.slice (some ⟨b, off, none⟩) 37 37) tabM := by
  have HM := Lib.hid (ins_made w 34 tabM (by decide))
  go_enter Tryd.func59, Tryd.ntmps59
  go_wp2
  go_ret
  exact ⟨_, _, rfl, HM.out⟩

theorem findM_step {op : ByteArray} {xs : List (ByteArray × Int × Int)} {k : Nat} {r : Option (Int × Int)} (hk : k < xs.length) (h : findM op (xs.drop k) = r) (hn : ((xs[k]).1.toList == op.toList) = false) : findM op (xs.drop (k + 1)) = r := by
  rw [drop_cons hk, findM, if_neg (by rw [hn]; decide)] at h
  exact h
theorem findM_hit {op : ByteArray} {xs : List (ByteArray × Int × Int)} {k : Nat} {r : Option (Int × Int)} (hk : k < xs.length) (h : findM op (xs.drop k) = r) (hn : ((xs[k]).1.toList == op.toList) = true) : r = some (xs[k]).2 ∧ (xs[k]).1 = op := by
  rw [drop_cons hk, findM, if_pos hn] at h
  exact ⟨h.symm, ext_toList (by simpa using hn)⟩
theorem findM_end {op : ByteArray} {xs : List (ByteArray × Int × Int)} {k : Nat} {r : Option (Int × Int)} (hk : k = xs.length) (h : findM op (xs.drop k) = r) : r = none := by
  rw [hk, List.drop_length, findM] at h
  exact h.symm

end Go.Proofs.YtbjnjdhkillbiaaDoor
