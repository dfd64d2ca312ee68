/- Instructions: the model's table, what a word needs, and which instructions are ones. Instructions: the model's search for a word, and which instructions are ones. -/
import Derived.Test.YthkdkefkgmmoiaaDoorIta
import Derived.Test.YthkdkefkgmmoiaaDoorOpen
namespace Go.Proofs.YthkdkefkgmmoiaaDoor
open Go.RowKit

theorem Blk.c3 {a b c : Value} {w : World} {g : Nat} {t : TypeId} (h : Blk w g t #[a, b, c]) : w.cell? ⟨g, 0, none⟩ = some a ∧ w.cell? ⟨g, 1, none⟩ = some b ∧ w.cell? ⟨g, 2, none⟩ = some c := ⟨h.cell 0, h.cell 1, h.cell 2⟩
theorem Blk.f3 {w : World} {g : Nat} {t : TypeId} {cs : Array Value} (h : Blk w g t cs) : w.frozen? ⟨g, 0, none⟩ = false ∧ w.frozen? ⟨g, 1, none⟩ = false ∧ w.frozen? ⟨g, 2, none⟩ = false := ⟨h.frozen 0, h.frozen 1, h.frozen 2⟩

/-- An instruction as an element. -/
def Cod.ins : Cod (ByteArray × Int × Int) where
  size := 3
  rd _ _ cs x := cs = [.string x.1, .int .i64 x.2.1, .int .i64 x.2.2]
  len h := by rw [h]; rfl
  keep _ h := h
  mono _ h := h
theorem Cod.Sl.ins_at {F : Nat → Prop} {w : World} {v : Value} {xs : List (ByteArray × Int × Int)} (h : Cod.ins.Sl F w v xs) {k : Nat} (hk : k < xs.length) : ∃ b off cap, v = .slice (some ⟨b, off, none⟩) xs.length cap ∧ F b ∧ xs.length ≤ cap ∧ cap ≤ maxLen ∧
    w.cell? ⟨b, off + k * 3, none⟩ = some (.string (xs[k]).1) ∧ w.cell? ⟨b, off + k * 3 + 1, none⟩ = some (.int .i64 (xs[k]).2.1) ∧ w.cell? ⟨b, off + k * 3 + 2, none⟩ = some (.int .i64 (xs[k]).2.2) := by
  obtain ⟨b, off, cap, cs, hv, hF, h1, h2, hcell, rfl⟩ := h.get hk
  exact ⟨b, off, cap, hv, hF, h1, h2, by simpa [Cod.ins] using hcell 0 _ rfl, by simpa [Cod.ins] using hcell 1 _ rfl, by simpa [Cod.ins] using hcell 2 _ rfl⟩

def insCells : List (ByteArray × Int × Int) → List Value
  | [] => []
  | x :: r => .string x.1 :: .int .i64 x.2.1 :: .int .i64 x.2.2 :: insCells r
theorem insCells_at : ∀ (xs : List (ByteArray × Int × Int)) (i : Nat) (x : ByteArray × Int × Int), xs[i]? = some x → ∀ j u, [Value.string x.1, .int .i64 x.2.1, .int .i64 x.2.2][j]? = some u → (insCells xs)[i * 3 + j]? = some u
  | [], i, x, h, _, _, _ => by simp at h
  | y :: r, 0, x, h, j, u, hu => by
    obtain rfl : y = x := by simpa using h
    match j, hu with
    | 0, hu => simpa [insCells] using hu
    | 1, hu => simpa [insCells] using hu
    | 2, hu => simpa [insCells] using hu
    | j + 3, hu => simp at hu
  | y :: r, i + 1, x, h, j, u, hu => by
    have ih := insCells_at r i x (by simpa using h) j u hu
    rw [show (i + 1) * 3 + j = i * 3 + j + 3 by omega]
    simpa [insCells] using ih

theorem ins_made (w : World) (t : TypeId) (xs : List (ByteArray × Int × Int)) (hm : xs.length ≤ maxLen) : Made Cod.ins w (w.alloc (.cells (insCells xs).toArray t)) (.slice (some ⟨w.heap.size, 0, none⟩) xs.length xs.length) xs := by
  refine ⟨⟨_, _, rfl, Nat.le_refl _, hm, fun _ => ⟨_, 0, rfl, ⟨Nat.le_refl _, by simp⟩, fun i x hi => ⟨_, fun j u hu => ?_, rfl⟩⟩⟩, (Below.refl _ _).alloc (Nat.le_refl _) _⟩
  rw [(Blk.new w t (insCells xs).toArray).cell, Nat.zero_add]
  have := insCells_at xs i x hi j u hu
  simpa [Cod.ins] using this
theorem tab_cells : (insCells tabM).length = 111 := by decide

set_option maxRecDepth 100000 in
set_option maxHeartbeats 2000000 in
theorem l3Table_any (w : World) : Calls Tryd.prog 79 #[] w fun e w' => ∃ b off, e = .returned (.slice (some ⟨b, off, none⟩) 37 37) ∧ Made Cod.ins w w' (.slice (some ⟨b, off, none⟩) 37 37) tabM := by
  have HM := Lib.hid (ins_made w 102 tabM (by decide))
  go_enter Tryd.func79, Tryd.ntmps79
  go_wp2
  go_ret
  exact ⟨_, _, rfl, HM.out⟩

theorem findM_step {op : ByteArray} {xs : List (ByteArray × Int × Int)} {k : Nat} {r : Option (Int × Int)} (hk : k < xs.length) (h : findM op (xs.drop k) = r) (hn : ((xs[k]).1.toList == op.toList) = false) : findM op (xs.drop (k + 1)) = r := by
  rw [drop_cons hk, findM, if_neg (by rw [hn]; decide)] at h
  exact h
theorem findM_hit {op : ByteArray} {xs : List (ByteArray × Int × Int)} {k : Nat} {r : Option (Int × Int)} (hk : k < xs.length) (h : findM op (xs.drop k) = r) (hn : ((xs[k]).1.toList == op.toList) = true) : r = some (xs[k]).2 ∧ (xs[k]).1 = op := by
  rw [drop_cons hk, findM, if_pos hn] at h
  exact ⟨h.symm, ext_toList (by simpa using hn)⟩
theorem findM_end {op : ByteArray} {xs : List (ByteArray × Int × Int)} {k : Nat} {r : Option (Int × Int)} (hk : k = xs.length) (h : findM op (xs.drop k) = r) : r = none := by
  rw [hk, List.drop_length, findM] at h
  exact h.symm

end Go.Proofs.YthkdkefkgmmoiaaDoor

namespace Go.Proofs.YthkdkefkgmmoiaaDoor
open Go.RowKit

/-- What a search for a word answers. -/
def FoundV (op : ByteArray) (r : Option (Int × Int)) : Value := match r with | some (a, b) => .tuple #[.agg #[.string op, .int .i64 a, .int .i64 b], .bool true] | none => .tuple #[.agg #[.string ⟨#[]⟩, .int .i64 0, .int .i64 0], .bool false]

set_option maxRecDepth 100000 in
set_option maxHeartbeats 2000000 in
theorem l3Needs_any (op : ByteArray) (w : World) : Calls Tryd.prog 71 #[.string op] w fun e w' => e = .returned (FoundV op (findM op tabM)) ∧ Below w.heap.size w w' := by
  have HN := Blk.new w 102 #[.string ⟨#[]⟩, .int .i64 0, .int .i64 0]
  have HB0 := Lib.hid HN
  have HW0 := Lib.hid ((Below.refl w.heap.size w).alloc (Nat.le_refl _) (.cells #[.string ⟨#[]⟩, .int .i64 0, .int .i64 0] 102))
  have hw0 : (w.alloc (.cells #[.string ⟨#[]⟩, .int .i64 0, .int .i64 0] 102)).heap.size = w.heap.size + 1 := by simp
  have Hw0 := Lib.hid hw0
  clear HN hw0
  go_enter Tryd.func71, Tryd.ntmps71
  go_wp2_with fail
  refine (l3Table_any _).mono ?_
  rintro e w1 ⟨tb, tof, rfl, hM⟩
  have HS := Lib.hid hM.1
  have HW1 := Lib.hid (HW0.out.trans (hM.2.mono (by rw [Hw0.out]; omega)))
  have HB1 := Lib.hid (HB0.out.below hM.2 (by rw [Hw0.out]; omega))
  have hs1 : w.heap.size < w1.heap.size := HB1.out.lt
  clear hM
  go_wp2
  go_loopw [5] (fun i wr => ∃ k : Nat, k ≤ 37 ∧ i = .int .i64 k ∧ Hid (findM op (tabM.drop k) = findM op tabM) ∧ w1 = wr) (fun i _ => 37 - (intOf i).toNat)
  case atStart => exact ⟨0, by omega, rfl, rfl, rfl⟩
  case round =>
    obtain ⟨k, hk, rfl, HF, hwr⟩ := hrel
    subst hwr
    by_cases hlt : k < 37
    · obtain ⟨b, off, cap, hv, hFb, _, _, c0, c1, c2⟩ := HS.out.ins_at (k := k) (show k < tabM.length from hlt)
      obtain ⟨⟨rfl, rfl⟩, _, rfl⟩ : (tb = b ∧ tof = off) ∧ 37 = tabM.length ∧ 37 = cap := by simpa using hv
      have hstep := fun h => findM_step (k := k) (show k < tabM.length from hlt) HF.out h
      have hhit := fun h => findM_hit (k := k) (show k < tabM.length from hlt) HF.out h
      generalize tabM[k] = x at c0 c1 c2 hstep hhit
      obtain ⟨o, a, b⟩ := x
      have Hstep := Lib.hid hstep
      have Hhit := Lib.hid hhit
      clear hv hFb hstep hhit
      obtain ⟨x0, x1, x2⟩ := HB1.out.c3
      obtain ⟨f0, f1, f2⟩ := HB1.out.f3
      by_cases ho : (o.toList == op.toList) = true
      · obtain ⟨h1, h2⟩ := Hhit.out ho
        have HR := Lib.hid (show FoundV op (findM op tabM) = .tuple #[.agg #[.string o, .int .i64 a, .int .i64 b], .bool true] by rw [h1, ← h2]; rfl)
        have HBF := Lib.hid (((HB1.out.set_ 0 (.string o)).set_ 1 (.int .i64 a)).set_ 2 (.int .i64 b))
        have HWF := Lib.hid (((HW1.out.setCell (by simp) (p := ⟨w.heap.size, 0, none⟩) (.string o)).setCell (by simp) (p := ⟨w.heap.size, 1, none⟩) (.int .i64 a)).setCell (by simp) (p := ⟨w.heap.size, 2, none⟩) (.int .i64 b))
        obtain ⟨wF, hF⟩ : ∃ wF, wF = ((w1.setCell ⟨w.heap.size, 0, none⟩ (.string o)).setCell ⟨w.heap.size, 1, none⟩ (.int .i64 a)).setCell ⟨w.heap.size, 2, none⟩ (.int .i64 b) := ⟨_, rfl⟩
        rw [← hF] at HBF HWF
        clear h1 h2
        go_wp2
        rw [← hF]
        obtain ⟨z0, z1, z2⟩ := Blk.c3 (show Blk wF w.heap.size 102 #[.string o, .int .i64 a, .int .i64 b] from HBF.out)
        exact bodyPost_ret (v := .tuple #[.agg #[.string o, .int .i64 a, .int .i64 b], .bool true]) (by simp [results, Tryd.results71, go_sem, z0, z1, z2]) rfl ⟨by rw [HR.out], HWF.out⟩
      · have ho' : (o.toList == op.toList) = false := by simpa using ho
        go_wp2
        go_roundw
        case rel => exact ⟨k + 1, by omega, by go_num, Hstep.out ho', trivial⟩
        case measure => simp [intOf]; omega
    · have HR := Lib.hid (show FoundV op (findM op tabM) = .tuple #[.agg #[.string ⟨#[]⟩, .int .i64 0, .int .i64 0], .bool false] by rw [findM_end (k := k) (show k = tabM.length by show k = 37; omega) HF.out]; rfl)
      obtain ⟨x0, x1, x2⟩ := HB1.out.c3
      obtain ⟨f0, f1, f2⟩ := HB1.out.f3
      have HBF := Lib.hid (((HB1.out.set_ 0 (.string ⟨#[]⟩)).set_ 1 (.int .i64 0)).set_ 2 (.int .i64 0))
      have HWF := Lib.hid (((HW1.out.setCell (by simp) (p := ⟨w.heap.size, 0, none⟩) (.string ⟨#[]⟩)).setCell (by simp) (p := ⟨w.heap.size, 1, none⟩) (.int .i64 0)).setCell (by simp) (p := ⟨w.heap.size, 2, none⟩) (.int .i64 0))
      obtain ⟨wF, hF⟩ : ∃ wF, wF = ((w1.setCell ⟨w.heap.size, 0, none⟩ (.string ⟨#[]⟩)).setCell ⟨w.heap.size, 1, none⟩ (.int .i64 0)).setCell ⟨w.heap.size, 2, none⟩ (.int .i64 0) := ⟨_, rfl⟩
      rw [← hF] at HBF HWF
      go_wp2
      rw [← hF]
      obtain ⟨z0, z1, z2⟩ := Blk.c3 (show Blk wF w.heap.size 102 #[.string ⟨#[]⟩, .int .i64 0, .int .i64 0] from HBF.out)
      exact bodyPost_ret (v := .tuple #[.agg #[.string ⟨#[]⟩, .int .i64 0, .int .i64 0], .bool false]) (by simp [results, Tryd.results71, go_sem, z0, z1, z2]) rfl ⟨by rw [HR.out], HWF.out⟩

theorem l3Fits_any (n a : Int) (w : World) (h0 : 0 ≤ a) (h1 : a ≤ 1000000) (hn : I64 n) : Calls Tryd.prog 72 #[.int .i64 n, .int .i64 (limOf a)] w fun e w' => e = .returned (.bool (withB n a)) ∧ w' = w := by
  unfold I64 at hn
  by_cases h : a = 0
  · subst h
    have HL : Hid (withB n 0 = (n == 0)) := by show _ = _; unfold withB; rw [Bool.eq_iff_iff]; simp; omega
    rw [show limOf 0 = 0 from rfl]
    go_enter Tryd.func72, Tryd.ntmps72
    go_wp2
    go_ret
    exact ⟨ret_bool HL.out.symm, rfl⟩
  · have e : limOf a = a + 1 := if_neg h
    have HL : Hid (withB n a = (decide (0 ≤ n) && decide (n ≤ a))) := rfl
    rw [e]
    have h2 : ((a + 1 : Int) == 0) = false := by rw [beq_eq_false_iff_ne]; omega
    go_enter Tryd.func72, Tryd.ntmps72
    go_wp2_with (go_at_call 42; refine (l6In_any _ _ _ _).mono ?_; rintro e w' ⟨rfl, rfl⟩)
    go_ret
    exact ⟨ret_bool HL.out.symm, rfl⟩

theorem found_none {op : ByteArray} (h : findR op tabRows = none) (x y : Int) : FoundV op (findM op tabM) = .tuple #[.agg #[.string ⟨#[]⟩, .int .i64 0, .int .i64 0], .bool false] ∧ insOk op x y = false := by
  rw [findM_tab, h]; exact ⟨rfl, by unfold insOk; rw [h]⟩
theorem found_some {op : ByteArray} {a b : Int} (h : findR op tabRows = some (a, b)) (x y : Int) : FoundV op (findM op tabM) = .tuple #[.agg #[.string op, .int .i64 (limOf a), .int .i64 (limOf b)], .bool true] ∧ insOk op x y = (withB x a && withB y b) := by
  rw [findM_tab, h]; exact ⟨rfl, by unfold insOk; rw [h]⟩

set_option maxRecDepth 100000 in
set_option maxHeartbeats 2000000 in
theorem specInsOk_any (op : ByteArray) (x y : Int) (w : World) (hx : I64 x) (hy : I64 y) : Calls Tryd.prog 58 #[.agg #[.string op, .int .i64 x, .int .i64 y]] w fun e w' => e = .returned (.bool (insOk op x y)) ∧ Below w.heap.size w w' := by
  have HB0 := Lib.hid (Blk.new w 102 #[.string op, .int .i64 x, .int .i64 y])
  have HW0 := Lib.hid ((Below.refl w.heap.size w).alloc (Nat.le_refl _) (.cells #[.string op, .int .i64 x, .int .i64 y] 102))
  have Hw0 := Lib.hid (show (w.alloc (.cells #[.string op, .int .i64 x, .int .i64 y] 102)).heap.size = w.heap.size + 1 by simp)
  cases hf : findR op tabRows with
  | none =>
    obtain ⟨h1, h2⟩ := found_none hf x y
    have H1 := Lib.hid h1
    have H2 := Lib.hid h2
    clear h1 h2 hf
    go_enter Tryd.func58, Tryd.ntmps58
    go_wp2_with fail
    refine (l3Needs_any op _).mono ?_
    rintro e w1 ⟨rfl, hb⟩
    rw [H1.out]
    have HB1 := Lib.hid (HB0.out.below hb (by rw [Hw0.out]; omega))
    have HW1 := Lib.hid (HW0.out.trans (hb.mono (by rw [Hw0.out]; omega)))
    obtain ⟨x0, x1, x2⟩ := HB1.out.c3
    clear hb
    go_wp2
    go_ret
    exact ⟨ret_bool H2.out.symm, HW1.out.alloc HW1.out.size _⟩
  | some ab =>
    obtain ⟨a, b⟩ := ab
    have ht := find_top hf
    obtain ⟨h1, h2⟩ := found_some hf x y
    have H1 := Lib.hid h1
    have H2 := Lib.hid h2
    have HC1 := Lib.hid fun w => l3Fits_any x a w ht.a0 ht.a1 hx
    have HC2 := Lib.hid fun w => l3Fits_any y b w ht.b0 (by have := ht.b1; omega) hy
    clear h1 h2 hf ht
    by_cases hxa : withB x a = true
    · rw [hxa] at HC1
      have HX := Lib.hid hxa
      clear hxa
      go_enter Tryd.func58, Tryd.ntmps58
      go_wp2_with fail
      refine (l3Needs_any op _).mono ?_
      rintro e w1 ⟨rfl, hb⟩
      rw [H1.out]
      have HB1 := Lib.hid (HB0.out.below hb (by rw [Hw0.out]; omega))
      have HW1 := Lib.hid (HW0.out.trans (hb.mono (by rw [Hw0.out]; omega)))
      obtain ⟨x0, x1, x2⟩ := HB1.out.c3
      have hs1 : w.heap.size < w1.heap.size := HB1.out.lt
      clear hb
      go_wp2_with (first
        | (go_at_call 72; (with_reducible refine (HC1.out _).mono ?_); rintro e w2 ⟨rfl, rfl⟩)
        | (go_at_call 72; (with_reducible refine (HC2.out _).mono ?_); rintro e w2 ⟨rfl, rfl⟩))
      go_ret
      exact ⟨ret_bool (by rw [H2.out, HX.out]; rfl), HW1.out.alloc HW1.out.size _⟩
    · have hxa' : withB x a = false := by simpa using hxa
      rw [hxa'] at HC1
      have HX := Lib.hid hxa'
      clear hxa hxa'
      go_enter Tryd.func58, Tryd.ntmps58
      go_wp2_with fail
      refine (l3Needs_any op _).mono ?_
      rintro e w1 ⟨rfl, hb⟩
      rw [H1.out]
      have HB1 := Lib.hid (HB0.out.below hb (by rw [Hw0.out]; omega))
      have HW1 := Lib.hid (HW0.out.trans (hb.mono (by rw [Hw0.out]; omega)))
      obtain ⟨x0, x1, x2⟩ := HB1.out.c3
      have hs1 : w.heap.size < w1.heap.size := HB1.out.lt
      clear hb
      go_wp2_with (go_at_call 72; (with_reducible refine (HC1.out _).mono ?_); rintro e w2 ⟨rfl, rfl⟩)
      go_ret
      exact ⟨ret_bool (by rw [H2.out, HX.out]; rfl), HW1.out.alloc HW1.out.size _⟩
end Go.Proofs.YthkdkefkgmmoiaaDoor
