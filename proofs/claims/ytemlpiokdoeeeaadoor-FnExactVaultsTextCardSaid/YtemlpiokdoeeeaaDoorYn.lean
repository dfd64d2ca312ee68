/- Rows of bytes of one's own that grow and leave other blocks alone: K says which blocks; strconv.AppendInt onto them. -/
import Derived.Test.YtemlpiokdoeeeaaDoorVu
import Derived.Test.YtemlpiokdoeeeaaDoorShelk
import Derived.Lib.ItoaMem
import Derived.Lib.AppendIntMem
import Derived.CellFam
namespace Go.Proofs.YtemlpiokdoeeeaaDoor
open Go.RowKit

/-- A row of bytes of one's own, in none of the blocks of K. -/
structure QRow (K : Nat → Prop) (w : World) (B : Nat) (v : Value) (n : Nat) (xs : List Value) : Prop where
  own : w.ownsRow B 5 1 v n xs
  there : v ≠ .slice none 0 0
  off : ∀ b, K b → b < w.heap.size ∧ v.ownBlock ≠ some b
/-- The blocks of K lie as they lay, and so does what is no row of bytes, and what lay below. -/
structure QGo (K : Nat → Prop) (B : Nat) (w w' : World) : Prop where
  below : Below B w w'
  same : ∀ b, K b → w'.heap[b]? = w.heap[b]?
  kept : Lib.OthersKept 5 none w w'
theorem QGo.refl (K : Nat → Prop) (B : Nat) (w : World) : QGo K B w w := ⟨Below.refl _ _, fun _ _ => rfl, Lib.OthersKept.refl _ _ _⟩
theorem QGo.trans {K : Nat → Prop} {B : Nat} {a b c : World} (h : QGo K B a b) (k : QGo K B b c) : QGo K B a c := ⟨h.below.trans k.below, fun j hj => (k.same j hj).trans (h.same j hj), h.kept.trans k.kept⟩
theorem QRow.form {K : Nat → Prop} {w : World} {B n : Nat} {v : Value} {xs : List Value} (h : QRow K w B v n xs) : ∃ g cap, v = .slice (some ⟨g, 0, none⟩) n cap := by
  rcases h.own.2 with ⟨rfl, _⟩ | ⟨g, cap, cur, rfl, _⟩
  · exact absurd rfl h.there
  · exact ⟨g, cap, rfl⟩
theorem QGo.grow {K : Nat → Prop} {w w' : World} {B n : Nat} {v : Value} {xs : List Value} (hB : B ≤ w.heap.size) (hb : Below w.heap.size w w') (h : QRow K w B v n xs) : QGo K B w w' :=
  ⟨hb.mono hB, fun b hk => hb.block b (h.off b hk).1, (Lib.OthersKept.refl _ _ w).below hb⟩
theorem QGo.alloc {K : Nat → Prop} {w : World} {B n : Nat} {v : Value} {xs : List Value} (h : QRow K w B v n xs) (hB : B ≤ w.heap.size) (o : Obj) : QGo K B w (w.alloc o) := QGo.grow hB ((Below.refl _ _).alloc (Nat.le_refl _) o) h
theorem QRow.keep {K : Nat → Prop} {w w' : World} {B n : Nat} {v : Value} {xs : List Value} (h : QRow K w B v n xs) (hb : Below w.heap.size w w') : QRow K w' B v n xs := by
  refine ⟨⟨h.own.1, ?_⟩, h.there, fun b hk => ⟨Nat.lt_of_lt_of_le (h.off b hk).1 hb.size, (h.off b hk).2⟩⟩
  rcases h.own.2 with h0 | ⟨g, cap, cur, h1, h2, h3, h4⟩
  · exact .inl h0
  · exact .inr ⟨g, cap, cur, h1, h2, (hb.block g (Array.getElem?_eq_some_iff.1 h3).1).trans h3, h4⟩
theorem QRow.alloc {K : Nat → Prop} {w : World} {B n : Nat} {v : Value} {xs : List Value} (h : QRow K w B v n xs) (o : Obj) : QRow K (w.alloc o) B v n xs := h.keep ((Below.refl _ _).alloc (Nat.le_refl _) o)
/-- Behind an append. -/
theorem QRow.step {K : Nat → Prop} {w w' : World} {B n n' : Nat} {v v' : Value} {xs xs' : List Value} (h : QRow K w B v n xs) (hB : B ≤ w.heap.size) (ho : w'.ownsRow B 5 1 v' n' xs') (hg : w.grownBy w' v.ownBlock) (hn : v' = .slice none 0 0 → v = .slice none 0 0)
    (hw : v'.ownBlock = v.ownBlock ∨ v'.ownBlock = some w.heap.size) : QRow K w' B v' n' xs' ∧ QGo K B w w' := by
  refine ⟨⟨ho, fun e => h.there (hn e), fun b hk => ⟨Nat.lt_of_lt_of_le (h.off b hk).1 hg.size, ?_⟩⟩, ⟨hg.os, hg.tape, hg.output, hg.size, fun i hi => hg.block i (by omega) fun he => by have := (own_kind h.own i he.symm).1; omega⟩, fun b hk => hg.block b (h.off b hk).1 fun e => (h.off b hk).2 e.symm, (Lib.OthersKept.refl _ _ w).grown hg fun g hgg => (own_kind h.own g hgg).2⟩
  rcases hw with hw | hw
  · rw [hw]; exact (h.off b hk).2
  · rw [hw]; intro e; have := (h.off b hk).1; simp at e; omega
section
variable {K : Nat → Prop} {B n : Nat} {w : World} {v : Value} {xs : List Value}
/-- append(v, bs...), bs laid elsewhere. -/
theorem QRow.row (h : QRow K w B v n xs) (hB : B ≤ w.heap.size) (a : Addr) (m c : Nat) (news : List Value) (hl : news.length = m) (hnews : ∀ j u, news[j]? = some u → w.cell? (a.add j) = some u) (h1 : ∀ u ∈ news, u.oneCell' = true) (hn : n + m ≤ 400000000) :
    ∃ v' w', (Builtin.append_ #[54, 54] 54 #[v, .slice (some a) m c]).run Tryd.prog w = .ok v' w' ∧ QRow K w' B v' (n + m) (xs ++ news) ∧ QGo K B w w' := by
  obtain ⟨i, hi0, hz0, hz1, hz2⟩ := info_parts info_u8
  obtain ⟨v', w', hr, ho, hg, hnil⟩ := run_append_own (P := Tryd.prog) w B 54 54 5 i _ 1 1 Tryd.underlying54 hi0 hz0 hz1 hz2 rfl (by omega) v n xs h.own a m c news (by omega) hnews h1 (by unfold maxLen; omega) (by omega) hB
  refine ⟨v', w', hr, h.step hB ho hg (fun e => (hnil.1 e).1) ?_⟩
  rcases h.own.2 with ⟨rfl, _⟩ | ⟨g, cap, cur, rfl, hb, hgg, hnc, hcm, hcs, htk⟩
  · exact absurd rfl h.there
  · by_cases hroom : n + m ≤ cap
    · have e := run_append_room (P := Tryd.prog) w 54 54 5 i Tryd.underlying54 hi0 g n cap cur hgg a m c news (by rw [hz1]; omega) hnews h1 hroom (by rw [hz1]; omega)
      rw [e] at hr
      injection hr with e1 _
      rw [← e1]
      exact .inl rfl
    · have e := run_append_grow (P := Tryd.prog) w 54 54 5 i _ Tryd.underlying54 hi0 hz0 ⟨g, 0, none⟩ n cap xs (by rw [hz1]; have := h.own.1; omega) (h.own.cells (g := g) rfl) a m c news (by rw [hz1]; omega) hnews (by omega) (by omega) (by rw [hz2]; exact growslice_fits (by omega) (by omega))
      rw [e] at hr
      injection hr with e1 _
      rw [← e1]
      exact .inr rfl
/-- append(v, s...) -/
theorem QRow.str (h : QRow K w B v n xs) (hB : B ≤ w.heap.size) (s : ByteArray) (hn : n + s.size ≤ 400000000) :
    ∃ v' w', (Builtin.append_ #[54, 9] 54 #[v, .string s]).run Tryd.prog w = .ok v' w' ∧ QRow K w' B v' (n + s.size) (xs ++ strC s) ∧ QGo K B w w' := by
  obtain ⟨i, hi0, hz0, hz1, hz2⟩ := info_parts info_u8
  obtain ⟨v', w', hr, ho, hg, hnil⟩ := Lib.run_append_own_string (P := Tryd.prog) w B 54 9 54 5 i Tryd.underlying54 Tryd.underlying9 hi0 hz0 hz1 hz2 v n xs h.own s (by unfold maxLen; omega) (by omega) hB
  refine ⟨v', w', hr, h.step hB ho hg (fun e => (hnil.1 e).1) ?_⟩
  rcases h.own.2 with ⟨rfl, _⟩ | ⟨g, cap, cur, rfl, hb, hgg, hnc, hcm, hcs, htk⟩
  · exact absurd rfl h.there
  · by_cases hroom : n + s.size ≤ cap
    · have e := Lib.run_append_room_string (P := Tryd.prog) w 54 9 54 5 i Tryd.underlying54 Tryd.underlying9 hi0 hz1 g n cap cur hgg s hroom (by omega)
      rw [e] at hr
      injection hr with e1 _
      rw [← e1]
      exact .inl rfl
    · have e := Lib.run_append_grow_string (P := Tryd.prog) w 54 9 54 5 i _ Tryd.underlying54 Tryd.underlying9 hi0 hz0 ⟨g, 0, none⟩ n cap xs (by rw [hz1]; have := h.own.1; omega) (h.own.cells (g := g) rfl) s (by omega) (by omega) (by rw [hz2]; exact growslice_fits (by omega) (by omega))
      rw [e] at hr
      injection hr with e1 _
      rw [← e1]
      exact .inr rfl
/-- append(v, c), c laid in a block of its own. -/
theorem QRow.byte (h : QRow K w B v n xs) (hB : B ≤ w.heap.size) (c : UInt8) (hn : n ≤ 200000000) (b cp : Nat) (hb : Blk w b 5 #[.int .u8 (c.toNat : Int)]) :
    ∃ v' w', (Builtin.append_ #[54, 54] 54 #[v, .slice (some ⟨b, 0, none⟩) 1 cp]).run Tryd.prog w = .ok v' w' ∧ QRow K w' B v' (n + 1) (xs ++ strC ⟨#[c]⟩) ∧ QGo K B w w' :=
  h.row hB ⟨b, 0, none⟩ 1 cp [.int .u8 (c.toNat : Int)] rfl (fun j u hu => by rw [plain_add, hb.cell]; simpa using hu) (fun u hu => by simp at hu; subst hu; rfl) (by omega)
end

theorem dec_len20q {u : Nat} (h : u < 18446744073709551616) : (Lib.decDigits u).length ≤ 20 := by
  rw [Lib.decDigits_length]
  by_cases h0 : u = 0
  · subst h0; rw [Lib.nDigits_small (by omega)]; omega
  · have := Lib.numDigits_eq u (by omega) h
    split at this <;> omega
theorem strC_digitsq (l : List UInt8) : strC ⟨l.toArray⟩ = Lib.byteCells l := rfl
theorem size_digitsq (l : List UInt8) : (⟨l.toArray⟩ : ByteArray).size = l.length := by simp [ByteArray.size]

/-- What an append of some bytes hands back. -/
def QD (K : Nat → Prop) (w : World) (B n : Nat) (xs : List Value) (l : List UInt8) (e : Ending) (w' : World) : Prop := ∃ v', e = .returned v' ∧ QRow K w' B v' (n + l.length) (xs ++ Lib.byteCells l) ∧ QGo K B w w'

set_option maxRecDepth 100000 in
set_option maxHeartbeats 4000000 in
theorem appendUintQ_small {K : Nat → Prop} {w : World} {B n : Nat} {v : Value} {xs : List Value} (h : QRow K w B v n xs) (hB : B ≤ w.heap.size) (u : Nat) (hu : u < 100) (hn : n ≤ 300000000) :
    Calls Tryd.prog 49 #[v, .int .u64 u, .int .i64 10] w (QD K w B n xs (Lib.decDigits u)) := by
  have hl := dec_len20q (u := u) (by omega)
  obtain ⟨v', w', happ, hr, hb⟩ := h.str hB ⟨(Lib.decDigits u).toArray⟩ (by rw [size_digitsq]; omega)
  rw [size_digitsq, strC_digitsq] at hr
  have HQ := Lib.hid (show QD K w B n xs (Lib.decDigits u) (.returned v') w' from ⟨v', rfl, hr, hb⟩)
  obtain ⟨g, cap, rfl⟩ := h.form
  clear hr hb
  go_enter Tryd.func49, Tryd.ntmps49
  go_wp2_with (first
    | (go_at_call 64; refine (small_any u hu _).mono ?_; rintro e w' ⟨rfl, rfl⟩)
    | (at_builtin; refine wpList_append_run2 rfl _ _ _ _ rfl rfl rfl happ ?_))
  go_ret
  exact HQ.out

open Go.Sort in
set_option maxRecDepth 100000 in
set_option maxHeartbeats 12000000 in
theorem appendUintQ_big {K : Nat → Prop} {w : World} {B n : Nat} {v : Value} {xs : List Value} (h : QRow K w B v n xs) (hB : B ≤ w.heap.size) (u : Nat) (hu : 100 ≤ u) (hu64 : u < 18446744073709551616) (hn : n ≤ 300000000) (htab : Lib.TabIs Tryd.prog w tabN .u64 Lib.pow10Tab) :
    Calls Tryd.prog 49 #[v, .int .u64 u, .int .i64 10] w (QD K w B n xs (Lib.decDigits u)) := by
  have hnd : Lib.nDigits u ≤ 20 := by rw [← Lib.decDigits_length]; exact dec_len20q hu64
  have hal : Tryd.prog.arrayLen 109 = 24 := by kernel_rfl
  have hsl : ∀ W, (Instr.sliceAt 109 (.pointer (some ⟨w.heap.size, 0, none⟩)) none (some (.int .i64 (Lib.nDigits u : Int))) none).run Tryd.prog W = .ok (.slice (some ⟨w.heap.size, 0, none⟩) (Lib.nDigits u) 24) W := fun W => by
    rw [run_sliceAt_array_h W 109 ⟨w.heap.size, 0, none⟩ (by simp [Program.arrayLen, Program.elem, Tryd.underlying109]) .i64 (Lib.nDigits u : Int) (by omega) (by rw [hal]; omega)]
    go_simp
  have hH0 := Lib.holds_zero0 w 109 (Lib.nDigits u) (by omega)
  have hfmt := format_any w.heap.size 0 24 u (Array.replicate (Lib.nDigits u) 0) (w.alloc (.cells Lib.zeros24 109)) hH0 (by rw [Array.size_replicate]; exact Lib.lt_pow_nDigits u) hu64 (by rw [Array.size_replicate]; omega)
  rw [Array.size_replicate] at hfmt
  have HH0 := Lib.hid hH0
  have HR := Lib.hid h
  have HT := Lib.hid (Lib.tabIs_alloc htab (.cells Lib.zeros24 109))
  have HFm := Lib.hid hfmt
  have iu : (100 : Int) ≤ (u : Int) := by omega
  obtain ⟨g, cap, rfl⟩ := h.form
  clear hH0 hal hfmt htab h
  go_enter Tryd.func49, Tryd.ntmps49
  go_wp2_with (first
    | (go_at_call 65; refine (digits_any u (by omega) hu64 _ HT.out).mono ?_; rintro e w' ⟨rfl, rfl⟩))
  go_at_call 66
  refine HFm.out.mono ?_
  rintro e w' ⟨rfl, k, v', dk, rfl, hF⟩
  have hcells : ∀ j u', (Lib.byteCells (Lib.decDigits u))[j]? = some u' → ((putRow (fun (b : UInt8) => Value.int .u8 (b.toNat : Int)) (w.alloc (.cells Lib.zeros24 109)) w.heap.size 0 dk).drewN k).cell? ((⟨w.heap.size, 0, none⟩ : Addr).add j) = some u' := by
    intro j u' hj
    have hjl : j < (Lib.decDigits u).length := by
      have h5 := (List.getElem?_eq_some_iff.1 hj).1
      rwa [Lib.byteCells_length] at h5
    have e5 : (Lib.byteCells (Lib.decDigits u))[j]? = some (Value.int .u8 ((Lib.decDigits u)[j].toNat : Int)) := by simp [Lib.byteCells, hjl]
    rw [e5] at hj
    cases hj
    rw [Lib.row_is_numeral hF j hjl, Lib.add_plain, World.cell?_drewN]
    exact cell?_putRow (fun (b : UInt8) => Value.int .u8 (b.toNat : Int)) _ w.heap.size 0 _ dk HH0.out (by rw [hF.size, Array.size_replicate]) j (by rw [hF.size]; rw [Lib.decDigits_length] at hjl; exact hjl)
  obtain ⟨os, eo⟩ := Lib.fin_at w (.cells Lib.zeros24 109) dk k 0
  have hb2 : Below w.heap.size w ((putRow (fun (b : UInt8) => Value.int .u8 (b.toNat : Int)) (w.alloc (.cells Lib.zeros24 109)) w.heap.size 0 dk).drewN k) := by rw [eo]; exact Lib.below_grow w.heap.size w (Nat.le_refl _) k os
  generalize (putRow (fun (b : UInt8) => Value.int .u8 (b.toNat : Int)) (w.alloc (.cells Lib.zeros24 109)) w.heap.size 0 dk).drewN k = W2 at hcells hb2 ⊢
  have hr2 : QRow K W2 B (.slice (some ⟨g, 0, none⟩) n cap) n xs := HR.out.keep hb2
  obtain ⟨v3, w3, happ, hr3, hb3⟩ := hr2.row (Nat.le_trans hB hb2.size) ⟨w.heap.size, 0, none⟩ (Lib.nDigits u) 24 (Lib.byteCells (Lib.decDigits u)) (by rw [Lib.byteCells_length, Lib.decDigits_length]) hcells (fun u' hu' => by simp only [Lib.byteCells, List.mem_map] at hu'; obtain ⟨b, _, rfl⟩ := hu'; rfl) (by omega)
  have HQ := Lib.hid (show QD K w B n xs (Lib.decDigits u) (.returned v3) w3 from ⟨v3, rfl, by rw [Lib.decDigits_length]; exact hr3, (QGo.grow hB hb2 HR.out).trans hb3⟩)
  clear eo HH0 HFm hr2 hr3 hb3 hb2 hcells hF
  go_wp2_with (at_builtin; refine wpList_append_run rfl _ _ _ rfl rfl rfl happ ?_)
  go_ret
  exact HQ.out

theorem appendUintQ_any {K : Nat → Prop} {w : World} {B n : Nat} {v : Value} {xs : List Value} (h : QRow K w B v n xs) (hB : B ≤ w.heap.size) (u : Nat) (hu64 : u < 18446744073709551616) (hn : n ≤ 300000000) (htab : Lib.TabIs Tryd.prog w tabN .u64 Lib.pow10Tab) :
    Calls Tryd.prog 49 #[v, .int .u64 u, .int .i64 10] w (QD K w B n xs (Lib.decDigits u)) := by
  by_cases hu : u < 100
  · exact appendUintQ_small h hB u hu hn
  · exact appendUintQ_big h hB u (by omega) hu64 hn htab

set_option maxRecDepth 100000 in
set_option maxHeartbeats 4000000 in
theorem appendIntIQ_any {K : Nat → Prop} {w : World} {B n : Nat} {v : Value} {xs : List Value} (h : QRow K w B v n xs) (hB : B ≤ w.heap.size) (i : Int) (hi : I64 i) (hn : n ≤ 200000000) (htab : Lib.TabBelow Tryd.prog B w tabN .u64 Lib.pow10Tab) :
    Calls Tryd.prog 34 #[v, .int .i64 i, .int .i64 10] w (QD K w B n xs (Lib.itoa i)) := by
  unfold I64 at hi
  by_cases hneg : i < 0
  · obtain ⟨u, rfl⟩ : ∃ u : Nat, i = -(u : Int) := ⟨i.natAbs, by omega⟩
    have hwr : IntKind.u64.wrap (-IntKind.u64.wrap (-(u : Int))) = (u : Int) := by rw [IntKind.wrap_u64, IntKind.wrap_u64]; omega
    rw [Lib.itoa_neg u (by omega)]
    have hA := (h.alloc (.cells #[.int .u8 45] 5))
    obtain ⟨v1, w1, happ, hr1, hb1⟩ := hA.row (by simp; omega) ⟨w.heap.size, 0, none⟩ 1 1 [.int .u8 45] rfl (fun j u' hj => by match j, hj with | 0, hj => simp at hj; subst hj; simp [Addr.add]) (fun u' hu' => by simp at hu'; subst hu'; rfl) (by omega)
    have hbb : QGo K B w w1 := (QGo.alloc h hB _).trans hb1
    have HC := Lib.hid (appendUintQ_any hr1 (by have := hbb.below.size; omega) u (by omega) (by omega) (htab w1 hbb.below))
    have HB1 := Lib.hid hbb
    obtain ⟨g, cap, rfl⟩ := h.form
    obtain ⟨g1, cap1, rfl⟩ := hr1.form
    clear hA hr1 hb1 hbb h htab
    go_enter Tryd.func34, Tryd.ntmps34
    go_wp2_with (first
      | (at_builtin; refine wpList_append_run rfl _ _ _ rfl rfl rfl happ ?_)
      | (go_at_call 49; (with_reducible refine HC.out.mono ?_); rintro e w2 ⟨v2, rfl, hr2, hb2⟩))
    go_ret
    refine ⟨v2, rfl, ?_, HB1.out.trans hb2⟩
    rw [List.append_assoc] at hr2
    rw [List.length_cons, show n + ((Lib.decDigits u).length + 1) = n + 1 + (Lib.decDigits u).length by omega]
    exact hr2
  · obtain ⟨u, rfl⟩ : ∃ u : Nat, i = (u : Int) := ⟨i.toNat, by omega⟩
    have e0 : Lib.itoa (u : Int) = Lib.decDigits u := by unfold Lib.itoa; rw [if_neg (by omega)]; simp
    rw [e0]
    have HC := Lib.hid (appendUintQ_any h hB u (by omega) (by omega) (htab w (Below.refl _ _)))
    have hwr : IntKind.u64.wrap (u : Int) = (u : Int) := by rw [IntKind.wrap_u64]; omega
    obtain ⟨g, cap, rfl⟩ := h.form
    clear h htab
    go_enter Tryd.func34, Tryd.ntmps34
    go_wp2_with (go_at_call 49; (with_reducible refine HC.out.mono ?_); rintro e w2 ⟨v2, rfl, hr2, hb2⟩)
    go_ret
    exact ⟨v2, rfl, hr2, hb2⟩

set_option maxRecDepth 100000 in
theorem appendIntQ_any {K : Nat → Prop} {w : World} {B n : Nat} {v : Value} {xs : List Value} (h : QRow K w B v n xs) (hB : B ≤ w.heap.size) (i : Int) (hi : I64 i) (hn : n ≤ 200000000) (htab : Lib.TabBelow Tryd.prog B w tabN .u64 Lib.pow10Tab) :
    Calls Tryd.prog 21 #[v, .int .i64 i, .int .i64 10] w (QD K w B n xs (Lib.itoa i)) := by
  have HC := Lib.hid (appendIntIQ_any h hB i hi hn htab)
  obtain ⟨g, cap, rfl⟩ := h.form
  clear h htab
  go_enter Tryd.func21, Tryd.ntmps21
  go_wp2_with (go_at_call 34; (with_reducible refine HC.out.mono ?_); rintro e w2 ⟨v2, rfl, hr2, hb2⟩)
  go_ret
  exact ⟨v2, rfl, hr2, hb2⟩
end Go.Proofs.YtemlpiokdoeeeaaDoor
