/- Instructions: their texts, of the model. -/
import Derived.Test.YtbjnjdhkillbiaaDoorItd
import Derived.Test.YtbjnjdhkillbiaaDoorItc
namespace Go.Proofs.YtbjnjdhkillbiaaDoor
open Go.RowKit

theorem dec_int {x : Int} (h0 : 0 ≤ x) (h1 : x ≤ 1000000) (w : World) : Calls Tryd.prog 54 #[.int .i64 x] w fun e w' => e = .returned (.string (decBy x.toNat)) ∧ Below w.heap.size w w' := by
  have := dec_full x.toNat w (by omega)
  rw [show ((x.toNat : Nat) : Int) = x by omega] at this
  exact this
theorem size_dec {x : Int} (h0 : 0 ≤ x) (h1 : x ≤ 1000000) : (decBy x.toNat).size ≤ 7 := size_decBy 6 _ (by omega)

/-- The text of an instruction, by its parts. -/
theorem insText_no {op : ByteArray} {x y : Int} (h : insOk op x y = false) : insText op x y = ⟨#[]⟩ := by unfold insText; rw [if_neg (by rw [h]; decide)]; rfl
theorem insText_yes {op : ByteArray} {x y : Int} (h : insOk op x y = true) : insText op x y = insT op x y := if_pos h
theorem insT_0 {op : ByteArray} {a b : Int} (hf : findR op tabRows = some (a, b)) (x y : Int) (ha : a = 0) (hb : b = 0) : insT op x y = op := by
  unfold insT; rw [hf]
  apply ext_toList
  simp [toList_data, numT, ha, hb]
theorem insT_1 {op : ByteArray} {a b : Int} (hf : findR op tabRows = some (a, b)) (x y : Int) (ha : a ≠ 0) (hb : b = 0) : insT op x y = op ++ ⟨#[32]⟩ ++ decBy x.toNat := by
  unfold insT; rw [hf]
  apply ext_toList
  simp [toList_data, numT, ha, hb, ByteArray.data_append]
theorem insT_2 {op : ByteArray} {a b : Int} (hf : findR op tabRows = some (a, b)) (x y : Int) (ha : a ≠ 0) (hb : b ≠ 0) : insT op x y = op ++ ⟨#[32]⟩ ++ decBy x.toNat ++ ⟨#[32]⟩ ++ decBy y.toNat := by
  unfold insT; rw [hf]
  apply ext_toList
  simp [toList_data, numT, ha, hb, ByteArray.data_append]

set_option maxRecDepth 100000 in
set_option maxHeartbeats 4000000 in
theorem specInsText_any (op : ByteArray) (x y : Int) (w : World) (hx : I64 x) (hy : I64 y) : Calls Tryd.prog 21 #[.agg #[.string op, .int .i64 x, .int .i64 y]] w fun e w' => e = .returned (.string (insText op x y)) ∧ Below w.heap.size w w' := by
  have HB0 := Lib.hid (Blk.new w 34 #[.string op, .int .i64 x, .int .i64 y])
  have HW0 := Lib.hid ((Below.refl w.heap.size w).alloc (Nat.le_refl _) (.cells #[.string op, .int .i64 x, .int .i64 y] 34))
  have Hw0 := Lib.hid (show (w.alloc (.cells #[.string op, .int .i64 x, .int .i64 y] 34)).heap.size = w.heap.size + 1 by simp)
  have HC0 := Lib.hid fun w => specInsOk_any op x y w hx hy
  by_cases hok : insOk op x y = true
  · obtain ⟨a, b, hf, hx0, hx1, hy0, hy1⟩ := insOk_find hok
    have ht := find_top hf
    obtain ⟨h1, _⟩ := found_some hf x y
    have H1 := Lib.hid h1
    have hlen := ht.few
    have HD1 := Lib.hid fun w => dec_int hx0 (by have := ht.a1; omega) w
    have HD2 := Lib.hid fun w => dec_int hy0 (by have := ht.b1; omega) w
    have hs1 := size_dec hx0 (by have := ht.a1; omega)
    have hs2 := size_dec hy0 (by have := ht.b1; omega)
    have hs3 : (⟨#[32]⟩ : ByteArray).size = 1 := rfl
    have hab := ht.ab
    have ha0 := ht.a0
    have hb0 := ht.b0
    have ha1 := ht.a1
    have hb1 := ht.b1
    rw [hok] at HC0
    have HR := Lib.hid (insText_yes hok)
    have HT0 := Lib.hid (insT_0 hf x y)
    have HT1 := Lib.hid (insT_1 hf x y)
    have HT2 := Lib.hid (insT_2 hf x y)
    clear h1 ht hok hf hx hy hx0 hx1 hy0 hy1
    go_enter Tryd.func21, Tryd.ntmps21
    go_wp2_with fail
    refine (HC0.out _).mono ?_
    rintro e w1 ⟨rfl, hb⟩
    have HB1 := Lib.hid (HB0.out.below hb (by rw [Hw0.out]; omega))
    have HW1 := Lib.hid (HW0.out.trans (hb.mono (by rw [Hw0.out]; omega)))
    obtain ⟨x0, x1, x2⟩ := HB1.out.c3
    clear hb
    go_wp2_with fail
    refine (l3Needs_any op _).mono ?_
    rintro e w2 ⟨rfl, hb⟩
    rw [H1.out]
    have HB2 := Lib.hid (HB1.out.below hb HB1.out.lt)
    have HW2 := Lib.hid (HW1.out.trans (hb.mono HW1.out.size))
    clear hb x0 x1 x2
    by_cases hav : a = 0
    · have hbv : b = 0 := by omega
      have HT := Lib.hid (HT0.out hav hbv)
      have e1 : limOf a = 0 := if_pos hav
      have e2 : limOf b = 0 := if_pos hbv
      rw [e1, e2]
      obtain ⟨x0, x1, x2⟩ := HB2.out.c3
      have hs2 := HB2.out.lt
      clear hav hbv e1 e2 hab ha0 hb0 ha1 hb1
      go_wp2_with fail
      go_ret
      exact ⟨ret_str (by rw [HR.out, HT.out]), HW2.out.alloc HW2.out.size _⟩
    · have e1 : limOf a = a + 1 := if_neg hav
      by_cases hbv : b = 0
      · have HT := Lib.hid (HT1.out hav hbv)
        have e2 : limOf b = 0 := if_pos hbv
        rw [e1, e2]
        obtain ⟨x0, x1, x2⟩ := HB2.out.c3
        have hs2 := HB2.out.lt
        have hgt : (0 : Int) < a + 1 := by omega
        clear hbv e1 e2 hab
        go_wp2_with fail
        refine (HD1.out _).mono ?_
        rintro e w3 ⟨rfl, hb⟩
        have HB2a := HB2.out.alloc (.cells #[.string op, .int .i64 (a + 1), .int .i64 0] 34)
        have HN := Blk.new w2 34 #[.string op, .int .i64 (a + 1), .int .i64 0]
        have HW3 := Lib.hid ((HW2.out.alloc HW2.out.size (.cells #[.string op, .int .i64 (a + 1), .int .i64 0] 34)).trans (hb.mono (by have := HW2.out.size; simp; omega)))
        have HB3 := Lib.hid (HB2a.below hb HB2a.lt)
        have HN3 := Lib.hid (HN.below hb HN.lt)
        clear x0 x1 x2 HB2a HN hb
        obtain ⟨x0, x1, x2⟩ := HB3.out.c3
        obtain ⟨y0, y1, y2⟩ := HN3.out.c3
        go_wp2_with fail
        go_ret
        exact ⟨ret_str (by rw [HR.out, HT.out]), HW3.out⟩
      · have HT := Lib.hid (HT2.out hav hbv)
        have e2 : limOf b = b + 1 := if_neg hbv
        rw [e1, e2]
        obtain ⟨x0, x1, x2⟩ := HB2.out.c3
        have hs2 := HB2.out.lt
        have hgt : (0 : Int) < a + 1 := by omega
        have hgt2 : (0 : Int) < b + 1 := by omega
        clear hbv e1 e2 hab
        go_wp2_with fail
        refine (HD1.out _).mono ?_
        rintro e w3 ⟨rfl, hb⟩
        have HB2a := HB2.out.alloc (.cells #[.string op, .int .i64 (a + 1), .int .i64 (b + 1)] 34)
        have HN := Blk.new w2 34 #[.string op, .int .i64 (a + 1), .int .i64 (b + 1)]
        have HW3 := Lib.hid ((HW2.out.alloc HW2.out.size (.cells #[.string op, .int .i64 (a + 1), .int .i64 (b + 1)] 34)).trans (hb.mono (by have := HW2.out.size; simp; omega)))
        have HB3 := Lib.hid (HB2a.below hb HB2a.lt)
        have HN3 := Lib.hid (HN.below hb HN.lt)
        clear x0 x1 x2 HB2a HN hb
        obtain ⟨x0, x1, x2⟩ := HB3.out.c3
        obtain ⟨y0, y1, y2⟩ := HN3.out.c3
        go_wp2_with fail
        refine (HD2.out _).mono ?_
        rintro e w4 ⟨rfl, hb⟩
        have HW4 := Lib.hid (HW3.out.trans (hb.mono HW3.out.size))
        clear hb
        go_wp2_with fail
        go_ret
        exact ⟨ret_str (by rw [HR.out, HT.out]), HW4.out⟩
  · have hok' : insOk op x y = false := by simpa using hok
    rw [hok'] at HC0
    have HR := Lib.hid (insText_no hok')
    clear hok hok' hx hy
    go_enter Tryd.func21, Tryd.ntmps21
    go_wp2_with fail
    refine (HC0.out _).mono ?_
    rintro e w1 ⟨rfl, hb⟩
    have HW1 := Lib.hid (HW0.out.trans (hb.mono (by rw [Hw0.out]; omega)))
    clear hb
    go_wp2_with fail
    go_ret
    exact ⟨ret_str HR.out.symm, HW1.out⟩
end Go.Proofs.YtbjnjdhkillbiaaDoor
