/- Rows of bytes of one's own, whether a conversion made them or not: appended to, also by strconv.AppendInt. No cell of such a row is frozen; behind its last cell there may be the mark of a conversion. The text of a mark: of the program. -/
import Derived.Test.YtgfpncpphpkahaaDoorVu
import Derived.Test.YtgfpncpphpkahaaDoorVub
import Derived.Test.YtgfpncpphpkahaaDoorShelj
import Derived.Lib.ConvBytes
import Derived.Lib.SlBytesConst
import Derived.Lib.ItoaMem
import Derived.Lib.AppendIntMem
import Derived.CellFam
import Derived.Test.YtgfpncpphpkahaaDoorJl
namespace Go.Proofs.YtgfpncpphpkahaaDoor
open Go.RowKit

structure OwnM (w : World) (B g cap n : Nat) (xs : List Value) (cur : Array Value) (fz : Nat × Nat) : Prop where
  len : xs.length = n
  base : B ≤ g
  blk : w.heap[g]? = some (.cells cur 5 fz)
  free : ∀ i, i < cur.size → ¬ (fz.1 ≤ i ∧ i < fz.2)
  room : n ≤ cap
  small : cap ≤ maxLen
  size : cur.size = cap
  head : cur.toList.take n = xs
/-- A row of bytes: a slice of the call's own with n bytes. -/
def BRow (w : World) (B : Nat) (v : Value) (n : Nat) (xs : List Value) : Prop := ∃ g cap cur fz, v = .slice (some ⟨g, 0, none⟩) n cap ∧ OwnM w B g cap n xs cur fz

theorem BRow.form {w : World} {B n : Nat} {v : Value} {xs : List Value} (h : BRow w B v n xs) : ∃ g cap, v = .slice (some ⟨g, 0, none⟩) n cap := by
  obtain ⟨g, cap, _, _, rfl, _⟩ := h; exact ⟨g, cap, rfl⟩
theorem BRow.keep {w w' : World} {B n : Nat} {v : Value} {xs : List Value} (h : BRow w B v n xs) (hk : ∀ b, b < w.heap.size → w'.heap[b]? = w.heap[b]?) : BRow w' B v n xs := by
  obtain ⟨g, cap, cur, fz, rfl, h⟩ := h
  exact ⟨g, cap, cur, fz, rfl, h.len, h.base, (hk g (Array.getElem?_eq_some_iff.1 h.blk).1).trans h.blk, h.free, h.room, h.small, h.size, h.head⟩
theorem BRow.alloc {w : World} {B n : Nat} {v : Value} {xs : List Value} (h : BRow w B v n xs) (o : Obj) : BRow (w.alloc o) B v n xs := h.keep fun b hb => Below.heap_alloc w o b hb

theorem storeM (P : Program) (g : Nat) (t : TypeId) (fz : Nat × Nat) : ∀ (vs : List Value) (o i : Nat) (cur : Array Value) (w : World), w.heap[g]? = some (.cells cur t fz) → (∀ j, j < cur.size → ¬ (fz.1 ≤ j ∧ j < fz.2)) → o + i + vs.length ≤ cur.size → (∀ v ∈ vs, v.oneCell' = true) →
    (storeCells ⟨g, o, none⟩ vs i).run P w = .ok () (w.setRow g (cur.toList.take (o + i) ++ vs ++ cur.toList.drop (o + i + vs.length)).toArray) := by
  intro vs
  induction vs with
  | nil =>
    intro o i cur w hg _ _ _
    rw [List.append_nil, List.length_nil, Nat.add_zero, List.take_append_drop, Array.toArray_toList, setRow_self w g cur t fz hg]
    rfl
  | cons v rest ih =>
    intro o i cur w hg hf hl h1
    rw [List.length_cons] at hl
    have hi : o + i < cur.size := by omega
    have e1 : (⟨g, o, none⟩ : Addr).add i = ⟨g, o + i, none⟩ := by unfold Addr.add; split <;> simp_all
    have e2 : w.cell? ⟨g, o + i, none⟩ = some cur[o + i] := by rw [cell_of_row w g _ cur t fz hg, Array.getElem?_eq_getElem hi]
    have e3 : w.frozen? ⟨g, o + i, none⟩ = false := by
      have := hf _ hi
      simp only [World.frozen?, hg, Bool.and_eq_false_iff, decide_eq_false_iff_not]
      omega
    have e4 : (store ((⟨g, o, none⟩ : Addr).add i) v).run P w = .ok () (w.setRow g (cur.setIfInBounds (o + i) v)) := by
      rw [e1, run_store P w _ v _ (h1 v List.mem_cons_self), e2]
      simp [e3, setCell_eq_setRow w g (o + i) cur t fz v hg]
    have e5 := ih o (i + 1) (cur.setIfInBounds (o + i) v) (w.setRow g (cur.setIfInBounds (o + i) v)) (setRow_heap w g cur _ t fz hg) (by rw [Array.size_setIfInBounds]; exact hf) (by rw [Array.size_setIfInBounds]; omega) (fun x hx => h1 x (List.mem_cons_of_mem _ hx))
    have e6 := list_seg_step cur.toList (o + i) v rest (by rw [Array.length_toList]; omega)
    simp only [storeCells, Sem.run_bind, e4, Result.andThen_ok, e5, setRow_setRow, Array.toList_setIfInBounds, ← Nat.add_assoc]
    rw [List.length_cons, ← e6]

section
variable {w : World} {B n : Nat} {v : Value} {xs : List Value}
/-- A new row behind an append that had no room. -/
theorem BRow.grown (hx : xs.length = n) (hB : B ≤ w.heap.size) (news : List Value) (old m : Nat) (hm : news.length = m) (hn : n + m ≤ 400000000) :
    BRow (w.drew.alloc (.cells (xs.toArray ++ news.toArray ++ Builtin.zeroCells (Value.int .u8 0).cells (grownCap w (n + m) old 5 - (n + m))) 5)) B (.slice (some ⟨w.heap.size, 0, none⟩) (n + m) (grownCap w (n + m) old 5)) (n + m) (xs ++ news) := by
  have hge := grownCap_ge w (n + m) old 5
  have hle := grownCap_le_maxLen w (n + m) old 5 (by unfold maxLen; omega)
  refine ⟨w.heap.size, _, _, (0, 0), rfl, by rw [List.length_append]; omega, hB, heap_alloc_new w.drew _, fun i _ h => by have := h.2; omega, hge, hle, ?_, ?_⟩
  · simp only [Array.size_append, List.size_toArray, size_zeroCells, hx, hm]
    show n + m + (_ - (n + m)) * 1 = _
    omega
  · simp only [Array.toList_append, List.append_assoc]
    rw [← List.append_assoc]
    exact List.take_left' (by rw [List.length_append]; omega)
theorem below_grow (w : World) (cs : Array Value) (hB : B ≤ w.heap.size) : Below B w (w.drew.alloc (.cells cs 5)) := ((Below.refl B w).drew).alloc hB _
/-- The row behind an append that had room. -/
theorem OwnM.more {g cap : Nat} {cur : Array Value} {fz : Nat × Nat} (h : OwnM w B g cap n xs cur fz) (news : List Value) (m : Nat) (hm : news.length = m) (hr : n + m ≤ cap) :
    BRow (w.setRow g (cur.toList.take n ++ news ++ cur.toList.drop (n + news.length)).toArray) B (.slice (some ⟨g, 0, none⟩) (n + m) cap) (n + m) (xs ++ news) := by
  have hsz := h.size
  have hl := h.len
  have hs : (cur.toList.take n ++ news ++ cur.toList.drop (n + news.length)).toArray.size = cap := by
    simp only [List.size_toArray, List.length_append, List.length_take, List.length_drop, Array.length_toList]; omega
  refine ⟨g, cap, _, fz, rfl, by rw [List.length_append]; omega, h.base, setRow_heap w g cur _ _ fz h.blk, fun i hi => h.free i (by rw [hs] at hi; omega), hr, h.small, hs, ?_⟩
  rw [h.head]
  exact List.take_left' (by rw [List.length_append]; omega)
theorem below_row {g : Nat} (cs : Array Value) (hg : B ≤ g) : Below B w (w.setRow g cs) := ⟨rfl, rfl, rfl, by simp [World.setRow], fun k hk => setRow_other w g k _ (by omega)⟩
theorem BRow.cells_ {g cap : Nat} {cur : Array Value} {fz : Nat × Nat} (h : OwnM w B g cap n xs cur fz) : ∀ j u, xs[j]? = some u → w.cell? ((⟨g, 0, none⟩ : Addr).add j) = some u := by
  intro j u hu
  rw [plain_add, cell_of_row w g _ cur _ fz h.blk, ← Array.getElem?_toList]
  rw [← h.head, List.getElem?_take] at hu
  split at hu
  · exact hu
  · cases hu

/-- append(v, s...), s a text. -/
theorem BRow.str (h : BRow w B v n xs) (hB : B ≤ w.heap.size) (s : ByteArray) (hn : n + s.size ≤ 400000000) :
    ∃ v' w', (Builtin.append_ #[120, 9] 120 #[v, .string s]).run Tryd.prog w = .ok v' w' ∧ BRow w' B v' (n + s.size) (xs ++ strC s) ∧ Below B w w' := by
  obtain ⟨i, hi0, hz0, hz1, hz2⟩ := info_parts info_u8
  obtain ⟨g, cap, cur, fz, rfl, h⟩ := h
  have hsl : (strC s).length = s.size := by unfold strC Lib.strCells; simp
  by_cases hr : n + s.size ≤ cap
  · have hst := storeM Tryd.prog g 5 fz (strC s) n 0 cur w h.blk h.free (by rw [hsl, h.size]; omega) (Lib.strCells_oneCell s)
    have hf := Lib.run_firstCells_string (P := Tryd.prog) w 1 s
    simp only [Nat.add_zero] at hst
    refine ⟨_, _, ?_, h.more (strC s) s.size hsl hr, below_row _ h.base⟩
    simp [Builtin.append_, run_underlying Tryd.underlying120, run_underlying Tryd.underlying9, sizeOf, typeInfo, hi0, hz1, Builtin.lenOf, hr, hf, Addr.add_lit, hst]
  · have hrn := Lib.run_append_grow_string (P := Tryd.prog) w 120 9 120 5 i _ Tryd.underlying120 Tryd.underlying9 hi0 hz0 ⟨g, 0, none⟩ n cap xs (by rw [hz1, h.len, Nat.mul_one]) (BRow.cells_ h) s (by omega) (by omega) (by rw [hz2]; exact growslice_fits (by omega) (by omega))
    exact ⟨_, _, hrn, BRow.grown h.len hB (strC s) cap s.size hsl hn, below_grow w _ hB⟩
/-- append(v, bs...), bs laid elsewhere. -/
theorem BRow.row (h : BRow w B v n xs) (hB : B ≤ w.heap.size) (a : Addr) (m c : Nat) (news : List Value) (hl : news.length = m) (hnews : ∀ j u, news[j]? = some u → w.cell? (a.add j) = some u) (h1 : ∀ u ∈ news, u.oneCell' = true) (hn : n + m ≤ 400000000) :
    ∃ v' w', (Builtin.append_ #[120, 120] 120 #[v, .slice (some a) m c]).run Tryd.prog w = .ok v' w' ∧ BRow w' B v' (n + m) (xs ++ news) ∧ Below B w w' := by
  obtain ⟨i, hi0, hz0, hz1, hz2⟩ := info_parts info_u8
  obtain ⟨g, cap, cur, fz, rfl, h⟩ := h
  by_cases hr : n + m ≤ cap
  · have hst := storeM Tryd.prog g 5 fz news n 0 cur w h.blk h.free (by rw [hl, h.size]; omega) h1
    have hf := run_firstCells_some (P := Tryd.prog) w 1 m a m c news (by omega) hnews
    simp only [Nat.add_zero] at hst
    refine ⟨_, _, ?_, h.more news m hl hr, below_row _ h.base⟩
    simp [Builtin.append_, run_underlying Tryd.underlying120, sizeOf, typeInfo, hi0, hz1, Builtin.lenOf, hr, hf, Addr.add_lit, hst]
  · have hrn := run_append_grow (P := Tryd.prog) w 120 120 5 i _ Tryd.underlying120 hi0 hz0 ⟨g, 0, none⟩ n cap xs (by rw [hz1, h.len, Nat.mul_one]) (BRow.cells_ h) a m c news (by rw [hz1]; omega) hnews (by omega) (by omega) (by rw [hz2]; exact growslice_fits (by omega) (by omega))
    exact ⟨_, _, hrn, BRow.grown h.len hB news cap m hl hn, below_grow w _ hB⟩
end

theorem dec_len20 {u : Nat} (h : u < 18446744073709551616) : (Lib.decDigits u).length ≤ 20 := by
  rw [Lib.decDigits_length]
  by_cases h0 : u = 0
  · subst h0; rw [Lib.nDigits_small (by omega)]; omega
  · have := Lib.numDigits_eq u (by omega) h
    split at this <;> omega
theorem strC_digits (l : List UInt8) : strC ⟨l.toArray⟩ = Lib.byteCells l := rfl
theorem size_digits (l : List UInt8) : (⟨l.toArray⟩ : ByteArray).size = l.length := by simp [ByteArray.size]

/-- What an append of some bytes hands back. -/
def BApD (w : World) (B n : Nat) (xs : List Value) (l : List UInt8) (e : Ending) (w' : World) : Prop := ∃ v', e = .returned v' ∧ BRow w' B v' (n + l.length) (xs ++ Lib.byteCells l) ∧ Below B w w'

set_option maxRecDepth 100000 in
set_option maxHeartbeats 4000000 in
theorem appendUintM_small {w : World} {B n : Nat} {v : Value} {xs : List Value} (h : BRow w B v n xs) (hB : B ≤ w.heap.size) (u : Nat) (hu : u < 100) (hn : n ≤ 300000000) :
    Calls Tryd.prog 112 #[v, .int .u64 u, .int .i64 10] w (BApD w B n xs (Lib.decDigits u)) := by
  have hl := dec_len20 (u := u) (by omega)
  obtain ⟨v', w', happ, hr, hb⟩ := h.str hB ⟨(Lib.decDigits u).toArray⟩ (by rw [size_digits]; omega)
  rw [size_digits, strC_digits] at hr
  have HQ := Lib.hid (show BApD w B n xs (Lib.decDigits u) (.returned v') w' from ⟨v', rfl, hr, hb⟩)
  obtain ⟨g, cap, rfl⟩ := h.form
  clear hr hb
  go_enter Tryd.func112, Tryd.ntmps112
  go_wp2_with (first
    | (go_at_call 130; refine (small_any u hu _).mono ?_; rintro e w' ⟨rfl, rfl⟩)
    | (at_builtin; refine wpList_append_run2 rfl _ _ _ _ rfl rfl rfl happ ?_))
  go_ret
  exact HQ.out

open Go.Sort in
set_option maxRecDepth 100000 in
set_option maxHeartbeats 12000000 in
theorem appendUintM_big {w : World} {B n : Nat} {v : Value} {xs : List Value} (h : BRow w B v n xs) (hB : B ≤ w.heap.size) (u : Nat) (hu : 100 ≤ u) (hu64 : u < 18446744073709551616) (hn : n ≤ 300000000) (htab : Lib.TabIs Tryd.prog w tabN .u64 Lib.pow10Tab) :
    Calls Tryd.prog 112 #[v, .int .u64 u, .int .i64 10] w (BApD w B n xs (Lib.decDigits u)) := by
  have hnd : Lib.nDigits u ≤ 20 := by rw [← Lib.decDigits_length]; exact dec_len20 hu64
  have hal : Tryd.prog.arrayLen 181 = 24 := by kernel_rfl
  have hsl : ∀ W, (Instr.sliceAt 181 (.pointer (some ⟨w.heap.size, 0, none⟩)) none (some (.int .i64 (Lib.nDigits u : Int))) none).run Tryd.prog W = .ok (.slice (some ⟨w.heap.size, 0, none⟩) (Lib.nDigits u) 24) W := fun W => by
    rw [run_sliceAt_array_h W 181 ⟨w.heap.size, 0, none⟩ (by simp [Program.arrayLen, Program.elem, Tryd.underlying181]) .i64 (Lib.nDigits u : Int) (by omega) (by rw [hal]; omega)]
    go_simp
  have hH0 := Lib.holds_zero0 w 181 (Lib.nDigits u) (by omega)
  have hfmt := format_any w.heap.size 0 24 u (Array.replicate (Lib.nDigits u) 0) (w.alloc (.cells Lib.zeros24 181)) hH0 (by rw [Array.size_replicate]; exact Lib.lt_pow_nDigits u) hu64 (by rw [Array.size_replicate]; omega)
  rw [Array.size_replicate] at hfmt
  have HH0 := Lib.hid hH0
  have HR := Lib.hid h
  have HT := Lib.hid (Lib.tabIs_alloc htab (.cells Lib.zeros24 181))
  have HFm := Lib.hid hfmt
  have iu : (100 : Int) ≤ (u : Int) := by omega
  obtain ⟨g, cap, rfl⟩ := h.form
  clear hH0 hal hfmt htab h
  go_enter Tryd.func112, Tryd.ntmps112
  go_wp2_with (first
    | (go_at_call 131; refine (digits_any u (by omega) hu64 _ HT.out).mono ?_; rintro e w' ⟨rfl, rfl⟩))
  go_at_call 132
  refine HFm.out.mono ?_
  rintro e w' ⟨rfl, k, v', dk, rfl, hF⟩
  have hcells : ∀ j u', (Lib.byteCells (Lib.decDigits u))[j]? = some u' → ((putRow (fun (b : UInt8) => Value.int .u8 (b.toNat : Int)) (w.alloc (.cells Lib.zeros24 181)) w.heap.size 0 dk).drewN k).cell? ((⟨w.heap.size, 0, none⟩ : Addr).add j) = some u' := by
    intro j u' hj
    have hjl : j < (Lib.decDigits u).length := by
      have h5 := (List.getElem?_eq_some_iff.1 hj).1
      rwa [Lib.byteCells_length] at h5
    have e5 : (Lib.byteCells (Lib.decDigits u))[j]? = some (Value.int .u8 ((Lib.decDigits u)[j].toNat : Int)) := by simp [Lib.byteCells, hjl]
    rw [e5] at hj
    cases hj
    rw [Lib.row_is_numeral hF j hjl, Lib.add_plain, World.cell?_drewN]
    exact cell?_putRow (fun (b : UInt8) => Value.int .u8 (b.toNat : Int)) _ w.heap.size 0 _ dk HH0.out (by rw [hF.size, Array.size_replicate]) j (by rw [hF.size]; rw [Lib.decDigits_length] at hjl; exact hjl)
  obtain ⟨os, eo⟩ := Lib.fin_at w (.cells Lib.zeros24 181) dk k 0
  have hb2 : Below w.heap.size w ((putRow (fun (b : UInt8) => Value.int .u8 (b.toNat : Int)) (w.alloc (.cells Lib.zeros24 181)) w.heap.size 0 dk).drewN k) := by rw [eo]; exact Lib.below_grow w.heap.size w (Nat.le_refl _) k os
  generalize (putRow (fun (b : UInt8) => Value.int .u8 (b.toNat : Int)) (w.alloc (.cells Lib.zeros24 181)) w.heap.size 0 dk).drewN k = W2 at hcells hb2 ⊢
  have hr2 : BRow W2 B (.slice (some ⟨g, 0, none⟩) n cap) n xs := HR.out.keep fun b hb => hb2.block b hb
  obtain ⟨v3, w3, happ, hr3, hb3⟩ := hr2.row (Nat.le_trans hB hb2.size) ⟨w.heap.size, 0, none⟩ (Lib.nDigits u) 24 (Lib.byteCells (Lib.decDigits u)) (by rw [Lib.byteCells_length, Lib.decDigits_length]) hcells (fun u' hu' => by simp only [Lib.byteCells, List.mem_map] at hu'; obtain ⟨b, _, rfl⟩ := hu'; rfl) (by omega)
  have HQ := Lib.hid (show BApD w B n xs (Lib.decDigits u) (.returned v3) w3 from ⟨v3, rfl, by rw [Lib.decDigits_length]; exact hr3, (hb2.mono hB).trans hb3⟩)
  clear eo HH0 HFm hr2 hr3 hb3 hb2 hcells hF
  go_wp2_with (at_builtin; refine wpList_append_run rfl _ _ _ rfl rfl rfl happ ?_)
  go_ret
  exact HQ.out

theorem appendUintM_any {w : World} {B n : Nat} {v : Value} {xs : List Value} (h : BRow w B v n xs) (hB : B ≤ w.heap.size) (u : Nat) (hu64 : u < 18446744073709551616) (hn : n ≤ 300000000) (htab : Lib.TabIs Tryd.prog w tabN .u64 Lib.pow10Tab) :
    Calls Tryd.prog 112 #[v, .int .u64 u, .int .i64 10] w (BApD w B n xs (Lib.decDigits u)) := by
  by_cases hu : u < 100
  · exact appendUintM_small h hB u hu hn
  · exact appendUintM_big h hB u (by omega) hu64 hn htab

set_option maxRecDepth 100000 in
set_option maxHeartbeats 4000000 in
theorem appendIntIM_any {w : World} {B n : Nat} {v : Value} {xs : List Value} (h : BRow w B v n xs) (hB : B ≤ w.heap.size) (i : Int) (hi : I64 i) (hn : n ≤ 200000000) (htab : Lib.TabBelow Tryd.prog B w tabN .u64 Lib.pow10Tab) :
    Calls Tryd.prog 95 #[v, .int .i64 i, .int .i64 10] w (BApD w B n xs (Lib.itoa i)) := by
  unfold I64 at hi
  by_cases hneg : i < 0
  · obtain ⟨u, rfl⟩ : ∃ u : Nat, i = -(u : Int) := ⟨i.natAbs, by omega⟩
    have hwr : IntKind.u64.wrap (-IntKind.u64.wrap (-(u : Int))) = (u : Int) := by rw [IntKind.wrap_u64, IntKind.wrap_u64]; omega
    rw [Lib.itoa_neg u (by omega)]
    have hA := (h.alloc (.cells #[.int .u8 45] 5))
    obtain ⟨v1, w1, happ, hr1, hb1⟩ := hA.row (by simp; omega) ⟨w.heap.size, 0, none⟩ 1 1 [.int .u8 45] rfl (fun j u' hj => by match j, hj with | 0, hj => simp at hj; subst hj; simp [Addr.add]) (fun u' hu' => by simp at hu'; subst hu'; rfl) (by omega)
    have hbb : Below B w w1 := ((Below.refl B w).alloc hB _).trans hb1
    have HC := Lib.hid (appendUintM_any hr1 (by have := hbb.size; omega) u (by omega) (by omega) (htab w1 hbb))
    have HB1 := Lib.hid hbb
    obtain ⟨g, cap, rfl⟩ := h.form
    obtain ⟨g1, cap1, rfl⟩ := hr1.form
    clear hA hr1 hb1 hbb h htab
    go_enter Tryd.func95, Tryd.ntmps95
    go_wp2_with (first
      | (at_builtin; refine wpList_append_run rfl _ _ _ rfl rfl rfl happ ?_)
      | (go_at_call 112; (with_reducible refine HC.out.mono ?_); rintro e w2 ⟨v2, rfl, hr2, hb2⟩))
    go_ret
    refine ⟨v2, rfl, ?_, HB1.out.trans hb2⟩
    rw [List.append_assoc] at hr2
    rw [List.length_cons, show n + ((Lib.decDigits u).length + 1) = n + 1 + (Lib.decDigits u).length by omega]
    exact hr2
  · obtain ⟨u, rfl⟩ : ∃ u : Nat, i = (u : Int) := ⟨i.toNat, by omega⟩
    have e0 : Lib.itoa (u : Int) = Lib.decDigits u := by unfold Lib.itoa; rw [if_neg (by omega)]; simp
    rw [e0]
    have HC := Lib.hid (appendUintM_any h hB u (by omega) (by omega) (htab w (Below.refl _ _)))
    have hwr : IntKind.u64.wrap (u : Int) = (u : Int) := by rw [IntKind.wrap_u64]; omega
    obtain ⟨g, cap, rfl⟩ := h.form
    clear h htab
    go_enter Tryd.func95, Tryd.ntmps95
    go_wp2_with (go_at_call 112; (with_reducible refine HC.out.mono ?_); rintro e w2 ⟨v2, rfl, hr2, hb2⟩)
    go_ret
    exact ⟨v2, rfl, hr2, hb2⟩

set_option maxRecDepth 100000 in
theorem appendIntM_any {w : World} {B n : Nat} {v : Value} {xs : List Value} (h : BRow w B v n xs) (hB : B ≤ w.heap.size) (i : Int) (hi : I64 i) (hn : n ≤ 200000000) (htab : Lib.TabBelow Tryd.prog B w tabN .u64 Lib.pow10Tab) :
    Calls Tryd.prog 78 #[v, .int .i64 i, .int .i64 10] w (BApD w B n xs (Lib.itoa i)) := by
  have HC := Lib.hid (appendIntIM_any h hB i hi hn htab)
  obtain ⟨g, cap, rfl⟩ := h.form
  clear h htab
  go_enter Tryd.func78, Tryd.ntmps78
  go_wp2_with (go_at_call 95; (with_reducible refine HC.out.mono ?_); rintro e w2 ⟨v2, rfl, hr2, hb2⟩)
  go_ret
  exact ⟨v2, rfl, hr2, hb2⟩
end Go.Proofs.YtgfpncpphpkahaaDoor

namespace Go.Proofs.YtgfpncpphpkahaaDoor
open Go.RowKit

/-- string(row). -/
theorem BRow.text {w : World} {B : Nat} {v : Value} {s : ByteArray} (h : BRow w B v s.size (strC s)) : (convert 120 9 v).run Tryd.prog w = .ok (.string s) w := by
  obtain ⟨g, cap, cur, fz, rfl, h⟩ := h
  refine Lib.run_convert_whole w 120 5 9 Tryd.underlying120 Tryd.underlying5 Tryd.underlying9 g 0 s (fun i hi => ?_) cap
  have h1 := cell_of_row w g (0 + i) cur _ fz h.blk
  rw [h1, Nat.zero_add]
  have h2 : cur.toList[i]? = (cur.toList.take s.size)[i]? := by rw [List.getElem?_take_of_lt (by omega)]
  rw [← Array.getElem?_toList, h2, h.head]
  unfold strC Lib.strCells
  rw [List.getElem?_map, Array.getElem?_toList, Array.getElem?_eq_getElem (by exact hi)]
  rfl
/-- []byte(s). -/
theorem BRow.of_text (w : World) (s : ByteArray) (hs : s.size ≤ 200000000) :
    ∃ v w', (convert 9 120 (.string s)).run Tryd.prog w = .ok v w' ∧ BRow w' w.heap.size v s.size (strC s) ∧ Below w.heap.size w w' ∧ w'.heap.size = w.heap.size + 1 := by
  have hr := Lib.run_convert_string_bytes (P := Tryd.prog) w 9 120 5 s Tryd.underlying9 Tryd.underlying120 Tryd.underlying5
  have hge := grownCap_ge w s.size 0 5
  have hle := grownCap_le_maxLen w s.size 0 5 (by unfold maxLen; omega)
  have hsz : (Lib.bytesCells w 5 s).size = grownCap w s.size 0 5 := by
    unfold Lib.bytesCells
    rw [Array.size_append, Array.size_map, Array.size_replicate]
    show s.size + _ = _
    omega
  refine ⟨_, _, hr, ⟨w.heap.size, _, _, _, rfl, by unfold strC Lib.strCells; simp, Nat.le_refl _, Lib.bytesWorld_at_new w 5 s, fun i hi h => by have := h.1; simp only at this; omega, hge, hle, hsz, ?_⟩, ⟨?_, ?_, ?_, by rw [Lib.bytesWorld_size]; omega, fun b hb => Lib.bytesWorld_at_old w 5 s b hb⟩, Lib.bytesWorld_size w 5 s⟩
  · unfold Lib.bytesCells
    rw [Array.toList_append]
    refine (List.take_left' (by rw [Array.length_toList, Array.size_map]; rfl)).trans ?_
    unfold strC Lib.strCells
    rw [Array.toList_map]
  · unfold Lib.bytesWorld; rfl
  · unfold Lib.bytesWorld; rfl
  · unfold Lib.bytesWorld; rfl
/-- []byte of a constant's row. -/
theorem BRow.of_const (w : World) (c : UInt8) :
    ∃ w', (convert 120 120 (.slice (some ⟨w.heap.size, 0, none⟩) 1 1)).run Tryd.prog (w.alloc (.cells #[.int .u8 (c.toNat : Int)] 5)) = .ok (.slice (some ⟨w.heap.size, 0, none⟩) 1 1) w' ∧ BRow w' w.heap.size (.slice (some ⟨w.heap.size, 0, none⟩) 1 1) 1 (strC ⟨#[c]⟩) ∧ Below w.heap.size w w' := by
  have hr := Lib.run_convert_bytes_const (P := Tryd.prog) w 120 5 #[.int .u8 (c.toNat : Int)] 1 1 Tryd.underlying120 Tryd.underlying5
  refine ⟨_, hr, ⟨w.heap.size, 1, _, _, rfl, rfl, Nat.le_refl _, heap_alloc_new w _, fun i hi h => ?_, Nat.le_refl _, by unfold maxLen; omega, rfl, rfl⟩, (Below.refl _ _).alloc (Nat.le_refl _) _⟩
  have h1 := h.1
  have h2 : i < 1 := hi
  have h3 : 1 ≤ i := h1
  omega

theorem strC_num {B n : Nat} {w w' : World} {xs : List Value} {t : ByteArray} {i : Int} {e : Ending} (h : BApD w B n xs (Lib.itoa i) e w') (hn : n = (t ++ ⟨#[46]⟩ : ByteArray).size) (hx : xs = strC (t ++ ⟨#[46]⟩)) :
    ∃ v, e = .returned v ∧ BRow w' B v ((t ++ ⟨#[46]⟩) ++ decZ i).size (strC ((t ++ ⟨#[46]⟩) ++ decZ i)) ∧ Below B w w' := by
  obtain ⟨v, he, hr, hb⟩ := h
  refine ⟨v, he, ?_, hb⟩
  rw [ByteArray.size_append (b := decZ i), strC_append, ← hn, ← hx]
  rw [show (decZ i).size = (Lib.itoa i).length by unfold decZ; exact size_digits _]
  exact hr

set_option maxRecDepth 100000 in
set_option maxHeartbeats 8000000 in
theorem implMarkText_any (F : Nat → Prop) (A1 : Option Addr) (c1 : Nat) (x : MarkR) (w : World) (h : MarkRd F w (.slice A1 x.fr.length c1) x) (hF : ∀ b, F b → b < w.heap.size) (hw : markW x ≤ 2000000) (htab : Lib.TabBelow Tryd.prog w.heap.size w tabN .u64 Lib.pow10Tab) :
    Calls Tryd.prog 42 #[.agg #[.string x.ty, .slice A1 x.fr.length c1]] w fun e w' => e = .returned (.string (markT x)) ∧ Below w.heap.size w w' := by
  obtain ⟨w0, hw0⟩ : ∃ w0, w0 = w.alloc (.cells #[.string x.ty, .slice A1 x.fr.length c1] 65) := ⟨_, rfl⟩
  have hb0 : Below w.heap.size w w0 := by rw [hw0]; exact (Below.refl _ _).alloc (Nat.le_refl _) _
  have hs0 : w0.heap.size = w.heap.size + 1 := by rw [hw0]; simp
  have HB0 := Lib.hid (show Blk w0 w.heap.size 65 #[.string x.ty, .slice A1 x.fr.length c1] by rw [hw0]; exact Blk.new _ _ _)
  unfold markW at hw
  obtain ⟨v1, w1, hcv, hr1, hb1, hs1⟩ := BRow.of_text w0 x.ty (by omega)
  have HV := Lib.hid (h.fr.keep (below_keeps hb0 hF))
  have HF0 := Lib.hid (show ∀ b, F b → b < w0.heap.size from fun b hb => Nat.lt_of_lt_of_le (hF b hb) hb0.size)
  have hi64 := h.fr.i64s
  have hdz := dotsA_size x.fr (headT x.ty) hi64
  have hhz := headT_size x.ty
  have hmz : (markT x).size ≤ 100000000 := by unfold markT; omega
  have HI := Lib.hid hi64
  have HT := Lib.hid htab
  have HE := Lib.hid hb0
  have Hw0 := Lib.hid hw0
  have HR1 := Lib.hid hr1
  have HE1 := Lib.hid hb1
  have Hs0 := Lib.hid hs0
  obtain ⟨g1, cp1, rfl⟩ := hr1.form
  obtain ⟨x0, x1⟩ := HB0.out.g2
  obtain ⟨y0, y1⟩ := (HB0.out.below hb1 (by omega)).g2
  have Hs1 := Lib.hid hs1
  clear h hF hw0 hb0 hs0 htab hi64 hdz hhz hr1 hb1 hs1
  go_enter Tryd.func42, Tryd.ntmps42
  go_upto_region 1 with fail
  rw [← Hw0.out]
  by_cases he : x.ty.size = 0
  · obtain ⟨w2, hcc, hr2, hb2⟩ := BRow.of_const w1 45
    have hcc' : (convert 120 120 (.slice (some ⟨w1.heap.size, 0, none⟩) 1 1)).run Tryd.prog (w1.alloc (.cells #[.int .u8 45] 5)) = .ok (.slice (some ⟨w1.heap.size, 0, none⟩) 1 1) w2 := hcc
    have hBB : Below w0.heap.size w0 w2 := HE1.out.trans (hb2.mono (by have := Hs1.out; omega))
    have HR2 : Hid (BRow w2 w0.heap.size (.slice (some ⟨w1.heap.size, 0, none⟩) (⟨#[45]⟩ : ByteArray).size 1) (⟨#[45]⟩ : ByteArray).size (strC ⟨#[45]⟩)) := by
      obtain ⟨g, cp, cur, fz, hv, h⟩ := hr2
      exact ⟨g, cp, cur, fz, hv, ⟨h.len, by have := h.base; have := Hs1.out; omega, h.blk, h.free, h.room, h.small, h.size, h.head⟩⟩
    have HB2 := Lib.hid hBB
    obtain ⟨z0, z1⟩ := (HB0.out.below hBB (by have := Hs0.out; omega)).g2
    clear hcc hr2 hb2 hBB
    --DBG
    have HD0 : Hid (dotsA (x.fr.drop 0) (⟨#[45]⟩) = markT x) := by show _ = _; unfold markT headT; rw [if_pos he]; rfl
    have t1 : (x.ty.toList == []) = true := by rw [empty_list he]; rfl
    have t2 : x.ty.toList.isEmpty = true := by rw [empty_list he]; rfl
    clear he
    go_wp2
    go_loopw [3, 17] (fun t i wr => ∃ (q g cap : Nat) (tx : ByteArray), q ≤ x.fr.length ∧ i = .int .i64 q ∧ t = .slice (some ⟨g, 0, none⟩) tx.size cap ∧ Hid (BRow wr w0.heap.size (.slice (some ⟨g, 0, none⟩) tx.size cap) tx.size (strC tx)) ∧ Hid (dotsA (x.fr.drop q) tx = markT x) ∧ Hid (Below w0.heap.size w0 wr)) (fun _ i _ => x.fr.length - (intOf i).toNat)
    case atStart => exact ⟨0, _, _, ⟨#[45]⟩, Nat.zero_le _, rfl, rfl, HR2, HD0, HB2⟩
    case round =>
      obtain ⟨q, g, cap, tx, hq, rfl, rfl, HRr, HD, HBr⟩ := hrel
      have hs2 := HBr.out.size
      by_cases hlt : q < x.fr.length
      · have HVr := Lib.hid (HV.out.keep (below_keeps HBr.out HF0.out))
        obtain ⟨b3, off3, c3, hv3, _, hl3, hm3, hg0, hgi⟩ := HVr.out.i64_at hlt
        obtain ⟨rfl, rfl⟩ : A1 = some ⟨b3, off3, none⟩ ∧ c1 = c3 := by simpa using hv3
        unfold maxLen at hm3
        have HN := Lib.hid (dots_step hlt HD.out)
        have hsn := (dotsA_size (x.fr.drop (q + 1)) ((tx ++ ⟨#[46]⟩) ++ decZ (x.fr[q])) fun i hi => HI.out i (List.mem_of_mem_drop hi)).1
        rw [HN.out, ByteArray.size_append, ByteArray.size_append, show (⟨#[46]⟩ : ByteArray).size = 1 from rfl] at hsn
        obtain ⟨v2, w2, happ, hr2, hb2⟩ := (HRr.out.alloc (.cells #[.int .u8 46] 5)).row (by simp; omega) ⟨wr.heap.size, 0, none⟩ 1 1 [.int .u8 46] rfl (fun j u' hj => by match j, hj with | 0, hj => simp at hj; subst hj; simp [Addr.add]) (fun u' hu' => by simp at hu'; subst hu'; rfl) (by omega)
        have hbb : Below w0.heap.size w0 w2 := (HBr.out.alloc hs2 _).trans hb2
        have HC := Lib.hid (appendIntM_any hr2 hbb.size (x.fr[q]) hgi (by omega) (tab_up HT.out (HE.out.trans (hbb.mono (by have := Hs0.out; omega))) (by have := Hs0.out; omega)))
        have HBB := Lib.hid hbb
        obtain ⟨g2, cp2, rfl⟩ := hr2.form
        unfold I64 at hgi
        have j0 : (0 : Int) ≤ q := by omega
        have j1 : (q : Int) < x.fr.length := by omega
        clear hv3 hr2 hbb hb2 hsn
        go_wp2_with (first
          | (at_builtin; refine wpList_append_run rfl _ _ _ rfl rfl rfl happ ?_)
          | (go_at_call 78; (with_reducible refine HC.out.mono ?_); intro e w3 hA; go_must (obtain ⟨v3, rfl, hr3, hb3⟩ := strC_num (t := tx) hA (by rw [ByteArray.size_append]; rfl) (by rw [strC_append]; rfl); have HR3 := Lib.hid hr3; have HB3 := Lib.hid (HBB.out.trans hb3); obtain ⟨g3, cp3, rfl⟩ := hr3.form; clear hA hr3 hb3)))
        go_roundw
        case rel => exact ⟨q + 1, g3, cp3, _, by omega, by go_num, by rw [ByteArray.size_append, ByteArray.size_append]; rfl, HR3, HN, HB3⟩
        case measure => simp [intOf]; omega
      · have HX := Lib.hid (dots_end (by omega) HD.out)
        have hcv2 := HRr.out.text
        have j2 : ¬ (q : Int) < x.fr.length := by omega
        go_wp2
        go_ret
        exact ⟨ret_str HX.out, HE.out.trans (HBr.out.mono (by have := Hs0.out; omega))⟩
  ·
    have HD0 : Hid (dotsA (x.fr.drop 0) (x.ty) = markT x) := by show _ = _; unfold markT headT; rw [if_neg he]; rfl
    have t1 : (x.ty.toList == []) = false := by rw [beq_eq_false_iff_ne]; exact nonempty_list he
    have t2 : x.ty.toList.isEmpty = false := by rw [List.isEmpty_eq_false_iff]; exact nonempty_list he
    clear he
    go_wp2
    go_loopw [3, 17] (fun t i wr => ∃ (q g cap : Nat) (tx : ByteArray), q ≤ x.fr.length ∧ i = .int .i64 q ∧ t = .slice (some ⟨g, 0, none⟩) tx.size cap ∧ Hid (BRow wr w0.heap.size (.slice (some ⟨g, 0, none⟩) tx.size cap) tx.size (strC tx)) ∧ Hid (dotsA (x.fr.drop q) tx = markT x) ∧ Hid (Below w0.heap.size w0 wr)) (fun _ i _ => x.fr.length - (intOf i).toNat)
    case atStart => exact ⟨0, _, _, x.ty, Nat.zero_le _, rfl, rfl, HR1, HD0, HE1⟩
    case round =>
      obtain ⟨q, g, cap, tx, hq, rfl, rfl, HRr, HD, HBr⟩ := hrel
      have hs2 := HBr.out.size
      by_cases hlt : q < x.fr.length
      · have HVr := Lib.hid (HV.out.keep (below_keeps HBr.out HF0.out))
        obtain ⟨b3, off3, c3, hv3, _, hl3, hm3, hg0, hgi⟩ := HVr.out.i64_at hlt
        obtain ⟨rfl, rfl⟩ : A1 = some ⟨b3, off3, none⟩ ∧ c1 = c3 := by simpa using hv3
        unfold maxLen at hm3
        have HN := Lib.hid (dots_step hlt HD.out)
        have hsn := (dotsA_size (x.fr.drop (q + 1)) ((tx ++ ⟨#[46]⟩) ++ decZ (x.fr[q])) fun i hi => HI.out i (List.mem_of_mem_drop hi)).1
        rw [HN.out, ByteArray.size_append, ByteArray.size_append, show (⟨#[46]⟩ : ByteArray).size = 1 from rfl] at hsn
        obtain ⟨v2, w2, happ, hr2, hb2⟩ := (HRr.out.alloc (.cells #[.int .u8 46] 5)).row (by simp; omega) ⟨wr.heap.size, 0, none⟩ 1 1 [.int .u8 46] rfl (fun j u' hj => by match j, hj with | 0, hj => simp at hj; subst hj; simp [Addr.add]) (fun u' hu' => by simp at hu'; subst hu'; rfl) (by omega)
        have hbb : Below w0.heap.size w0 w2 := (HBr.out.alloc hs2 _).trans hb2
        have HC := Lib.hid (appendIntM_any hr2 hbb.size (x.fr[q]) hgi (by omega) (tab_up HT.out (HE.out.trans (hbb.mono (by have := Hs0.out; omega))) (by have := Hs0.out; omega)))
        have HBB := Lib.hid hbb
        obtain ⟨g2, cp2, rfl⟩ := hr2.form
        unfold I64 at hgi
        have j0 : (0 : Int) ≤ q := by omega
        have j1 : (q : Int) < x.fr.length := by omega
        clear hv3 hr2 hbb hb2 hsn
        go_wp2_with (first
          | (at_builtin; refine wpList_append_run rfl _ _ _ rfl rfl rfl happ ?_)
          | (go_at_call 78; (with_reducible refine HC.out.mono ?_); intro e w3 hA; go_must (obtain ⟨v3, rfl, hr3, hb3⟩ := strC_num (t := tx) hA (by rw [ByteArray.size_append]; rfl) (by rw [strC_append]; rfl); have HR3 := Lib.hid hr3; have HB3 := Lib.hid (HBB.out.trans hb3); obtain ⟨g3, cp3, rfl⟩ := hr3.form; clear hA hr3 hb3)))
        go_roundw
        case rel => exact ⟨q + 1, g3, cp3, _, by omega, by go_num, by rw [ByteArray.size_append, ByteArray.size_append]; rfl, HR3, HN, HB3⟩
        case measure => simp [intOf]; omega
      · have HX := Lib.hid (dots_end (by omega) HD.out)
        have hcv2 := HRr.out.text
        have j2 : ¬ (q : Int) < x.fr.length := by omega
        go_wp2
        go_ret
        exact ⟨ret_str HX.out, HE.out.trans (HBr.out.mono (by have := Hs0.out; omega))⟩
end Go.Proofs.YtgfpncpphpkahaaDoor
