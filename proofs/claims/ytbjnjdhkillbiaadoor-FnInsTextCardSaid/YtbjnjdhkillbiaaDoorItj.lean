/- Instructions: their texts, of the program. -/
import Derived.Test.YtbjnjdhkillbiaaDoorItf
import Derived.Test.YtbjnjdhkillbiaaDoorIti
import Derived.Test.YtbjnjdhkillbiaaDoorVub
namespace Go.Proofs.YtbjnjdhkillbiaaDoor
open Go.RowKit

/-- A text in a row of the call's own. -/
def ApT (B : Nat) (w0 : World) (sv : Value) (t : ByteArray) (w : World) : Prop := Ap B w0 sv t.size (strC t) w
theorem ApT.of {B : Nat} {w0 w : World} {sv : Value} {t s : ByteArray} (h : Ap B w0 sv (t.size + s.size) (strC t ++ strC s) w) : ApT B w0 sv (t ++ s) w := by
  unfold ApT
  rw [ByteArray.size_append, strC_append]
  exact h
theorem ApT.nil {B : Nat} {w0 w : World} {sv : Value} {s : ByteArray} (h : Ap B w0 sv (0 + s.size) ([] ++ strC s) w) : ApT B w0 sv s w := by
  unfold ApT
  rw [Nat.zero_add, List.nil_append] at h
  exact h
/-- A blank and a number behind a text: what is wanted of memory ahead of the walk, and what comes. -/
theorem ApT.num {B : Nat} {w0 w : World} {sv : Value} {t : ByteArray} {x : Int} (h : ApT B w0 sv t w) (hB : B ≤ w.heap.size) (hn : t.size ≤ 1000000) (hx0 : 0 ≤ x) (hx1 : x ≤ 1000000) (htab : Lib.TabBelow Tryd.prog B w0 tabN .u64 Lib.pow10Tab) :
    ∃ v1 w1, (Builtin.append_ #[22, 22] 22 #[sv, .slice (some ⟨w.heap.size, 0, none⟩) 1 1]).run Tryd.prog (w.alloc (.cells #[.int .u8 32] 5)).drew = .ok v1 w1 ∧ Ap B w0 v1 (t.size + 1) (strC t ++ strC ⟨#[32]⟩) w1 ∧
      (∀ (e : Ending) (w2 : World), (∃ v2, e = .returned v2 ∧ w2.ownsRow B 5 1 v2 (t.size + 1 + (Lib.itoa x).length) (strC t ++ strC ⟨#[32]⟩ ++ Lib.byteCells (Lib.itoa x)) ∧ Below B w1 w2 ∧ Lib.OthersKept 5 none w1 w2) → ∃ v2, e = .returned v2 ∧ ApT B w0 v2 (t ++ ⟨#[32]⟩ ++ decBy x.toNat) w2) ∧
      Calls Tryd.prog 69 #[v1, .int .i64 x, .int .i64 10] w1 fun e w2 => ∃ v2, e = .returned v2 ∧ ApT B w0 v2 (t ++ ⟨#[32]⟩ ++ decBy x.toNat) w2 := by
  have hAl := (Ap.alloc h hB (.cells #[.int .u8 32] 5)).drew
  obtain ⟨v1, w1, happ, hA, hs⟩ := hAl.byte (by simp; omega) 32 (by omega) w.heap.size 1 (show Blk (w.alloc (.cells #[.int .u8 32] 5)).drew w.heap.size 5 #[.int .u8 32] from Blk.new _ _ _)
  have hfin : ∀ (e : Ending) (w2 : World), (∃ v2, e = .returned v2 ∧ w2.ownsRow B 5 1 v2 (t.size + 1 + (Lib.itoa x).length) (strC t ++ strC ⟨#[32]⟩ ++ Lib.byteCells (Lib.itoa x)) ∧ Below B w1 w2 ∧ Lib.OthersKept 5 none w1 w2) → ∃ v2, e = .returned v2 ∧ ApT B w0 v2 (t ++ ⟨#[32]⟩ ++ decBy x.toNat) w2 := by
    rintro e w2 ⟨v2, he, ho, hb, hk⟩
    refine ⟨v2, he, ApT.of ?_⟩
    rw [ByteArray.size_append, strC_append]
    exact ap_int (nn := x.toNat) (by omega) hA ho hb hk
  refine ⟨v1, w1, happ, hA, hfin, ?_⟩
  exact (appendInt_10 B (t.size + 1) x (by omega) (by omega) v1 _ w1 hA.own (Nat.le_trans (by simp; omega) hs) (by omega) (htab.on hA.below)).mono hfin

/-- What appendIns hands back. -/
def InsD (w0 : World) (t : ByteArray) (e : Ending) (w' : World) : Prop := ∃ v', e = .returned v' ∧ w'.ownsRow w0.heap.size 5 1 v' t.size (strC t) ∧ Below w0.heap.size w0 w'
theorem own_nil (w : World) (B : Nat) (e : TypeId) : w.ownsRow B e 1 (.slice none 0 0) 0 [] := ⟨rfl, .inl ⟨rfl, rfl⟩⟩

set_option maxRecDepth 100000 in
set_option maxHeartbeats 4000000 in
theorem appendIns_any (F : Nat → Prop) (v : Value) (op : ByteArray) (x y : Int) (w : World) (h : Tab F w v) (hF : ∀ b, F b → b < w.heap.size) (hok : insOk op x y = true) (htab : Lib.TabBelow Tryd.prog w.heap.size w tabN .u64 Lib.pow10Tab) :
    Calls Tryd.prog 53 #[.slice none 0 0, .agg #[.string op, .int .i64 x, .int .i64 y]] w (InsD w (insT op x y)) := by
  have HB0 := Lib.hid (Blk.new w 34 #[.string op, .int .i64 x, .int .i64 y])
  have HW0 := Lib.hid ((Below.refl w.heap.size w).alloc (Nat.le_refl _) (.cells #[.string op, .int .i64 x, .int .i64 y] 34))
  have Hw0 := Lib.hid (show (w.alloc (.cells #[.string op, .int .i64 x, .int .i64 y] 34)).heap.size = w.heap.size + 1 by simp)
  have HC0 := Lib.hid (insTop_any F v op _ (h.keep (below_keeps HW0.out hF)) fun b hb => by rw [Hw0.out]; have := hF b hb; omega)
  have HTab := Lib.hid htab
  obtain ⟨a, b, hf, hx0, hx1, hy0, hy1⟩ := insOk_find hok
  have ht := find_top hf
  rw [hf] at HC0
  have hlen := ht.few
  have hs1 := size_dec hx0 (by have := ht.a1; omega)
  have hs2 := size_dec hy0 (by have := ht.b1; omega)
  have hs3 : (⟨#[32]⟩ : ByteArray).size = 1 := rfl
  have hab := ht.ab
  have ha0 := ht.a0
  have hb0 := ht.b0
  have ha1 := ht.a1
  have hb1 := ht.b1
  have HT0 := Lib.hid (insT_0 hf x y)
  have HT1 := Lib.hid (insT_1 hf x y)
  have HT2 := Lib.hid (insT_2 hf x y)
  clear ht hok hf h htab
  go_enter Tryd.func53, Tryd.ntmps53
  go_wp2_with fail
  refine HC0.out.mono ?_
  rintro e w1 ⟨rfl, hb⟩
  dsimp only [FoundV]
  have HB1 := Lib.hid (HB0.out.below hb (by rw [Hw0.out]; omega))
  have HW1 := Lib.hid (HW0.out.trans (hb.mono (by rw [Hw0.out]; omega)))
  have hsz1 := HB1.out.lt
  clear hb
  obtain ⟨w2, hw2⟩ : ∃ w2, w2 = w1.alloc (.cells #[.string op, .int .i64 a, .int .i64 b] 34) := ⟨_, rfl⟩
  have HB2 : Hid (Blk w2 w.heap.size 34 #[.string op, .int .i64 x, .int .i64 y]) := by show Blk w2 _ _ _; rw [hw2]; exact HB1.out.alloc _
  have HN2 : Hid (Blk w2 w1.heap.size 34 #[.string op, .int .i64 a, .int .i64 b]) := by show Blk w2 _ _ _; rw [hw2]; exact Blk.new _ _ _
  have HW2 : Hid (Below w.heap.size w w2) := by show Below _ _ w2; rw [hw2]; exact HW1.out.alloc HW1.out.size _
  have Hw2 := Lib.hid hw2
  clear hw2
  obtain ⟨x0, x1, x2⟩ := HB1.out.c3
  obtain ⟨v1, w3, happ1, hA3, hs3'⟩ := (Ap.start (own_nil w2 w.heap.size 5)).str HW2.out.size op (by omega)
  have HA3 := Lib.hid (ApT.nil hA3)
  have HB3 := Lib.hid (hA3.blk HB2.out (by decide))
  have HN3 := Lib.hid (hA3.blk HN2.out (by decide))
  have hB3 : w.heap.size ≤ w3.heap.size := Nat.le_trans HW2.out.size hs3'
  have hl3 := HB3.out.lt
  have hm3 := HN3.out.lt
  have HTab2 := Lib.hid (HTab.out.on HW2.out)
  clear hA3 hs3'
  go_upto_region 2 with fail
  rw [← Hw2.out]
  clear x0 x1 x2
  obtain ⟨x0, x1, x2⟩ := HB2.out.c3
  go_upto_region 3 with (at_builtin; refine wpList_append_run2 rfl _ _ _ _ rfl rfl rfl happ1 ?_)
  clear x0 x1 x2
  obtain ⟨x0, x1, x2⟩ := HB3.out.c3
  obtain ⟨y0, y1, y2⟩ := HN3.out.c3
  by_cases hav : a = 0
  · have hbv : b = 0 := by omega
    have HT := Lib.hid (HT0.out hav hbv)
    subst hav
    subst hbv
    go_wp2_with fail
    go_ret
    exact ⟨v1, rfl, by rw [HT.out]; exact Ap.own HA3.out, HW2.out.trans (Ap.below HA3.out)⟩
  · obtain ⟨v4, w4, happ4, hA4, hf4, hC4⟩ := ApT.num HA3.out hB3 (by omega) hx0 (by omega) HTab2.out
    have HA4 := Lib.hid hA4
    have HC4 := Lib.hid hC4
    have HB4 := Lib.hid (hA4.blk HB2.out (by decide))
    have HN4 := Lib.hid (hA4.blk HN2.out (by decide))
    obtain ⟨z0, z1, z2⟩ := HB4.out.c3
    have hgt : (0 : Int) < a := by omega
    have Hav := Lib.hid hav
    clear hA4 hC4 hf4 hav
    go_upto_region 4 with fail
    go_cut [0] from 20 to 25 (fun s0 wx => Hid (ApT w.heap.size w2 s0 (op ++ ⟨#[32]⟩ ++ decBy x.toNat) wx))
    case first =>
      go_region_law (first | (refine step_append_run rfl _ _ _ rfl rfl rfl happ4 ?_) | (go_simp; go_at_call 69; (with_reducible refine HC4.out.mono ?_); rintro e w5 ⟨v5, rfl, hA5⟩; go_must (have HA5 := Lib.hid hA5; clear hA5)))
      all_goals
        go_wp2
        go_meet
        exact HA5
    case rest =>
      have HA5 := Lib.hid (show ApT w.heap.size w2 u0 (op ++ ⟨#[32]⟩ ++ decBy x.toNat) wc from hcut.out)
      have hsz5 : (op ++ ⟨#[32]⟩ ++ decBy x.toNat : ByteArray).size ≤ 1000 := by rw [ByteArray.size_append, ByteArray.size_append]; omega
      have HB5 := Lib.hid (Ap.blk HA5.out HB2.out (by decide))
      have HN5 := Lib.hid (Ap.blk HA5.out HN2.out (by decide))
      have hB5 : w.heap.size ≤ wc.heap.size := Nat.le_trans HW2.out.size (Ap.below HA5.out).size
      have hl5 := HB5.out.lt
      have hm5 := HN5.out.lt
      clear x0 x1 x2 y0 y1 y2 z0 z1 z2 hcut happ4 HA4 HC4
      obtain ⟨x0, x1, x2⟩ := HB5.out.c3
      obtain ⟨y0, y1, y2⟩ := HN5.out.c3
      by_cases hbv : b = 0
      · have HT := Lib.hid (HT1.out Hav.out hbv)
        subst hbv
        go_wp2_with fail
        go_ret
        exact ⟨u0, rfl, by rw [HT.out]; exact Ap.own HA5.out, HW2.out.trans (Ap.below HA5.out)⟩
      · have HT := Lib.hid (HT2.out Hav.out hbv)
        have hgt2 : (0 : Int) < b := by omega
        clear hbv
        obtain ⟨v6, w6, happ6, hA6, hf6, hC6⟩ := ApT.num HA5.out hB5 (by omega) hy0 (by omega) HTab2.out
        have HC6 := Lib.hid hC6
        have HB6 := Lib.hid (hA6.blk HB2.out (by decide))
        obtain ⟨z0, z1, z2⟩ := HB6.out.c3
        clear hA6 hC6 hf6
        go_upto_region 6 with fail
        go_region_law (first | (refine step_append_run rfl _ _ _ rfl rfl rfl happ6 ?_) | (go_simp; go_at_call 69; (with_reducible refine HC6.out.mono ?_); rintro e w7 ⟨v7, rfl, hA7⟩; go_must (have HA7 := Lib.hid hA7; clear hA7)))
        all_goals
          go_wp2
          go_ret
          exact ⟨v7, rfl, by rw [HT.out]; exact Ap.own HA7.out, HW2.out.trans (Ap.below HA7.out)⟩

set_option maxRecDepth 100000 in
set_option maxHeartbeats 4000000 in
theorem implInsText_any (F : Nat → Prop) (v : Value) (op : ByteArray) (x y : Int) (w : World) (h : Tab F w v) (hF : ∀ b, F b → b < w.heap.size) (htab : Lib.TabBelow Tryd.prog w.heap.size w tabN .u64 Lib.pow10Tab) :
    Calls Tryd.prog 19 #[.agg #[.string op, .int .i64 x, .int .i64 y]] w fun e w' => e = .returned (.string (insText op x y)) ∧ Below w.heap.size w w' := by
  have HB0 := Lib.hid (Blk.new w 34 #[.string op, .int .i64 x, .int .i64 y])
  have HW0 := Lib.hid ((Below.refl w.heap.size w).alloc (Nat.le_refl _) (.cells #[.string op, .int .i64 x, .int .i64 y] 34))
  have Hw0 := Lib.hid (show (w.alloc (.cells #[.string op, .int .i64 x, .int .i64 y] 34)).heap.size = w.heap.size + 1 by simp)
  have HT := Lib.hid h
  have HC0 := Lib.hid (implInsOk_any F v op x y _ (h.keep (below_keeps HW0.out hF)) fun b hb => by rw [Hw0.out]; have := hF b hb; omega)
  have HTab := Lib.hid htab
  clear h htab
  by_cases hok : insOk op x y = true
  · have HR := Lib.hid (insText_yes hok)
    rw [hok] at HC0
    have Hok := Lib.hid hok
    clear hok
    go_enter Tryd.func19, Tryd.ntmps19
    go_wp2_with fail
    refine HC0.out.mono ?_
    rintro e w1 ⟨rfl, hb⟩
    have HB1 := Lib.hid (HB0.out.below hb (by rw [Hw0.out]; omega))
    have HW1 := Lib.hid (HW0.out.trans (hb.mono (by rw [Hw0.out]; omega)))
    obtain ⟨x0, x1, x2⟩ := HB1.out.c3
    have HC := Lib.hid (appendIns_any F v op x y w1 (HT.out.keep (below_keeps HW1.out hF)) (fun b hb => Nat.lt_of_lt_of_le (hF b hb) HW1.out.size) Hok.out (tab_up HTab.out HW1.out HW1.out.size))
    clear hb
    go_wp2_with fail
    refine HC.out.mono ?_
    rintro e w2 ⟨v2, rfl, ho, hb⟩
    have hcv := run_convert_own (P := Tryd.prog) 22 5 9 Tryd.underlying22 Tryd.underlying5 Tryd.underlying9 ho
    have HQ := Lib.hid (HW1.out.trans (hb.mono HW1.out.size))
    clear hb ho
    go_wp2
    go_ret
    exact ⟨ret_str HR.out.symm, HQ.out⟩
  · have hok' : insOk op x y = false := by simpa using hok
    have HR := Lib.hid (insText_no hok')
    rw [hok'] at HC0
    clear hok hok'
    go_enter Tryd.func19, Tryd.ntmps19
    go_wp2_with fail
    refine HC0.out.mono ?_
    rintro e w1 ⟨rfl, hb⟩
    have HW1 := Lib.hid (HW0.out.trans (hb.mono (by rw [Hw0.out]; omega)))
    clear hb
    go_wp2_with fail
    go_ret
    exact ⟨ret_str HR.out.symm, HW1.out⟩
end Go.Proofs.YtbjnjdhkillbiaaDoor
