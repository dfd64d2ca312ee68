/- The program's texts of values: bytes appended to a row of the call's own. -/
import Derived.Test.YtgfpncpphpkahaaDoorVtb
import Derived.Test.YtgfpncpphpkahaaDoorShelf
import Derived.Test.YtgfpncpphpkahaaDoorApp
import Derived.Lib.AppendStr
import Derived.Lib.OthersKept
import Derived.Lib.SlBytesRow
import Derived.Lib.BufferRead
namespace Go.Proofs.YtgfpncpphpkahaaDoor
open Go.RowKit

theorem info_u8 : (Tryd.prog.info? 5).map (fun i => (i.zero, i.size, i.bytes)) = some (some (.int .u8 0), 1, 1) := by kernel_rfl

/-- The cells of a text. -/
abbrev strC (s : ByteArray) : List Value := Lib.strCells s
theorem strC_append (a b : ByteArray) : strC (a ++ b) = strC a ++ strC b := by
  unfold strC Lib.strCells
  rw [ByteArray.data_append, Array.toList_append, List.map_append]
theorem strC_dec (n : Nat) : Lib.byteCells (Lib.itoa (n : Int)) = strC (decBy n) ∧ (Lib.itoa (n : Int)).length = (decBy n).size := by
  have e : Lib.itoa (n : Int) = Lib.decDigits n := by unfold Lib.itoa; rw [if_neg (by omega)]; simp
  rw [e]
  refine ⟨rfl, ?_⟩
  rw [← length_toList, toList_data]
  rfl

/-- A row of bytes that grows: what it has, and what has turned since. -/
structure Ap (B : Nat) (w0 : World) (sv : Value) (n : Nat) (xs : List Value) (w : World) : Prop where
  own : w.ownsRow B 5 1 sv n xs
  below : Below B w0 w
  kept : Lib.OthersKept 5 none w0 w

theorem own_kind {w : World} {B : Nat} {e : TypeId} {v : Value} {n : Nat} {xs : List Value} (h : w.ownsRow B e 1 v n xs) : ∀ g, v.ownBlock = some g → (B ≤ g) ∧ ∃ c fz, w.heap[g]? = some (.cells c e fz) := by
  intro g hg
  rcases h.2 with ⟨rfl, _⟩ | ⟨g', cap, cur, rfl, hb, hgg, _⟩
  · simp [Value.ownBlock] at hg
  · simp [Value.ownBlock] at hg
    subst hg
    exact ⟨hb, cur, _, hgg⟩
section
variable {B n : Nat} {w0 w : World} {sv : Value} {xs : List Value}
theorem Ap.start (h : w.ownsRow B 5 1 sv n xs) : Ap B w sv n xs w := ⟨h, Below.refl _ _, Lib.OthersKept.refl _ _ _⟩
theorem Ap.alloc (h : Ap B w0 sv n xs w) (hB : B ≤ w.heap.size) (o : Obj) : Ap B w0 sv n xs (w.alloc o) := ⟨h.own.alloc o, h.below.alloc hB o, h.kept.alloc o⟩
theorem Ap.drew (h : Ap B w0 sv n xs w) : Ap B w0 sv n xs w.drew := ⟨h.own, h.below.drew, h.kept.drew⟩
theorem Ap.on {w1 w2 : World} {sv2 : Value} {n2 : Nat} {xs2 : List Value} (h : Ap B w0 sv n xs w1) (k : Ap B w1 sv2 n2 xs2 w2) : Ap B w0 sv2 n2 xs2 w2 := ⟨k.own, h.below.trans k.below, h.kept.trans k.kept⟩
theorem Ap.up {w' : World} {sv' : Value} {n' : Nat} {xs' : List Value} (h : Ap B w0 sv n xs w) (ho : w'.ownsRow B 5 1 sv' n' xs') (hg : w.grownBy w' sv.ownBlock) (hB : B ≤ w.heap.size) : Ap B w0 sv' n' xs' w' :=
  ⟨ho, h.below.trans ⟨hg.os, hg.tape, hg.output, hg.size, fun i hi => hg.block i (by omega) fun he => by have := (own_kind h.own i he.symm).1; omega⟩,
    h.kept.grown hg fun g hgg => (own_kind h.own g hgg).2⟩
/-- A block of another type stays. -/
theorem Ap.blk {g : Nat} {t : TypeId} {cs : Array Value} (h : Ap B w0 sv n xs w) (hb : Blk w0 g t cs) (ht : t ≠ 5) : Blk w g t cs :=
  h.kept g _ hb (by simp) fun c fz he => by
    simp only [Obj.cells.injEq] at he
    exact ht he.2.1

/-- append(v, s...) -/
theorem Ap.str (h : Ap B w0 sv n xs w) (hB : B ≤ w.heap.size) (s : ByteArray) (hn : n + s.size ≤ 200000000) :
    ∃ v' w', (Builtin.append_ #[120, 9] 120 #[sv, .string s]).run Tryd.prog w = .ok v' w' ∧ Ap B w0 v' (n + s.size) (xs ++ strC s) w' ∧ w.heap.size ≤ w'.heap.size := by
  obtain ⟨i, hi0, hz0, hz1, hz2⟩ := info_parts info_u8
  obtain ⟨v', w', hr, ho, hg, _⟩ := Lib.run_append_own_string (P := Tryd.prog) w B 120 9 120 5 i Tryd.underlying120 Tryd.underlying9 hi0 hz0 hz1 hz2 sv n xs h.own s (by unfold maxLen; omega) (by omega) hB
  exact ⟨v', w', hr, h.up ho hg hB, hg.size⟩
/-- append(v, c), c laid in a block of its own. -/
theorem Ap.byte (h : Ap B w0 sv n xs w) (hB : B ≤ w.heap.size) (c : UInt8) (hn : n ≤ 200000000) (b cp : Nat) (hb : Blk w b 5 #[.int .u8 (c.toNat : Int)]) :
    ∃ v' w', (Builtin.append_ #[120, 120] 120 #[sv, .slice (some ⟨b, 0, none⟩) 1 cp]).run Tryd.prog w = .ok v' w' ∧ Ap B w0 v' (n + 1) (xs ++ strC ⟨#[c]⟩) w' ∧ w.heap.size ≤ w'.heap.size := by
  obtain ⟨i, hi0, hz0, hz1, hz2⟩ := info_parts info_u8
  obtain ⟨v', w', hr, ho, hg, _⟩ := run_append_own (P := Tryd.prog) w B 120 120 5 i _ 1 1 Tryd.underlying120 hi0 hz0 hz1 hz2 rfl (by omega) sv n xs h.own ⟨b, 0, none⟩ 1 cp [.int .u8 (c.toNat : Int)] rfl
    (fun j u hu => by rw [plain_add, hb.cell]; simpa using hu) (fun u hu => by simp at hu; subst hu; rfl) (by unfold maxLen; omega) (by omega) hB
  exact ⟨v', w', hr, h.up ho hg hB, hg.size⟩
end
/-- string(row), the row one of the call's own. -/
theorem run_convert_own {P : Program} {w : World} {B : Nat} {v : Value} {s : ByteArray} (src e dst : TypeId) (hs : P.underlying src = some (.slice e)) (he : P.underlying e = some (.int .u8)) (hd : P.underlying dst = some .string)
    (h : w.ownsRow B e 1 v s.size (strC s)) : (convert src dst v).run P w = .ok (.string s) w := by
  obtain ⟨hl, h⟩ := h
  rcases h with ⟨rfl, hn⟩ | ⟨g, cap, cur, rfl, hb, hg, hc, hm, hcs, htk⟩
  · rw [Lib.run_convert_nil_bytes w src dst e 0 hs he hd]
    congr 2
    apply ByteArray.ext
    apply Array.toList_inj.1
    have : s.data.toList.length = 0 := by rw [Array.length_toList]; exact hn
    rw [List.eq_nil_of_length_eq_zero this]
  · refine Lib.run_convert_whole w src e dst hs he hd g 0 s (fun i hi => ?_) cap
    have h1 := cell_of_row w g (0 + i) cur e (0, 0) hg
    rw [h1, Nat.zero_add]
    have h2 : cur.toList[i]? = (cur.toList.take (s.size * 1))[i]? := by rw [List.getElem?_take_of_lt (by omega)]
    rw [← Array.getElem?_toList, h2, htk]
    unfold strC Lib.strCells
    rw [List.getElem?_map, Array.getElem?_toList, Array.getElem?_eq_getElem (by exact hi)]
    rfl

/-- The table of powers of ten, further on. -/
theorem tab_up {P : Program} {B B' : Nat} {w w' : World} {name : String} {k : IntKind} {zs : List Int} (h : Lib.TabBelow P B w name k zs) (hb : Below B w w') (hB : B ≤ B') : Lib.TabBelow P B' w' name k zs := fun w'' h'' => h w'' (hb.trans (h''.mono hB))
end Go.Proofs.YtgfpncpphpkahaaDoor
