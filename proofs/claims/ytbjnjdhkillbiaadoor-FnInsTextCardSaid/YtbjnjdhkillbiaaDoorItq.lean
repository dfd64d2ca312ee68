/- Instructions read, by the program. -/
import Derived.Test.YtbjnjdhkillbiaaDoorIto
import Derived.Test.YtbjnjdhkillbiaaDoorItj
import Derived.Test.YtbjnjdhkillbiaaDoorItp
namespace Go.Proofs.YtbjnjdhkillbiaaDoor
open Go.RowKit

theorem read_yesI {s o : ByteArray} {x y : Int} (hc : candI s.data.toList = (o, x, y)) (h1 : insOk o x y = true) (h2 : insT o x y = s) : ReadV (insRead s) = .tuple #[.agg #[.string o, .int .i64 x, .int .i64 y], .bool true] := by
  have ht : isText s (candI s.data.toList) := by rw [hc]; exact ⟨h1, h2⟩
  exact read_yes ((cand_same' ht).trans hc) h1 h2
theorem read_noI {s o : ByteArray} {x y : Int} (hc : candI s.data.toList = (o, x, y)) (h : insOk o x y = false ∨ ¬ insT o x y = s) : ReadV (insRead s) = .tuple #[.agg #[.string ⟨#[]⟩, .int .i64 0, .int .i64 0], .bool false] := by
  have hn : ¬ isText s (candI s.data.toList) := by
    rw [hc]
    rintro ⟨h1, h2⟩
    rcases h with h | h
    · have : insOk o x y = true := h1
      rw [this] at h; cases h
    · exact h h2
  unfold insRead
  rw [if_neg fun h => hn ((isText_iff s).2 h)]
  rfl
theorem cut_le (l : List UInt8) : (Lib.cut l [32]).1.length ≤ l.length ∧ (Lib.cut l [32]).2.1.length ≤ l.length := by
  unfold Lib.cut
  split
  · simp; omega
  · simp
/-- Cut in two: names for what comes. -/
theorem cut_names (s : ByteArray) (hs : s.size ≤ 2000000) : ∃ (a b : ByteArray) (c : Bool), a.data.toList = (Lib.cut s.data.toList [32]).1 ∧ b.data.toList = (Lib.cut s.data.toList [32]).2.1 ∧ a.size ≤ 2000000 ∧ b.size ≤ 2000000 ∧ ∀ w : World, LibAt w →
    Calls Tryd.prog 55 #[.string s, .string ⟨#[32]⟩] w fun e w' => e = .returned (.tuple #[.string a, .string b, .bool c]) ∧ Below w.heap.size w w' := by
  have hl := cut_le s.data.toList
  have e : s.data.toList.length = s.size := by simp
  rw [e] at hl
  refine ⟨⟨(Lib.cut s.data.toList [32]).1.toArray⟩, ⟨(Lib.cut s.data.toList [32]).2.1.toArray⟩, _, rfl, rfl, ?_, ?_, fun w h => cut_any s w h hs⟩
  · show (Lib.cut s.data.toList [32]).1.toArray.size ≤ _; simp; omega
  · show (Lib.cut s.data.toList [32]).2.1.toArray.size ≤ _; simp; omega

set_option maxRecDepth 100000 in
set_option maxHeartbeats 8000000 in
theorem implInsRead_any (F : Nat → Prop) (v : Value) (s : ByteArray) (w : World) (h : Tab F w v) (hF : ∀ b, F b → b < w.heap.size) (hs : s.size ≤ 2000000) (hlib : LibAt w) (htab : Lib.TabBelow Tryd.prog w.heap.size w tabN .u64 Lib.pow10Tab) : Calls Tryd.prog 22 #[.string s] w fun e w' => e = .returned (ReadV (insRead s)) ∧ Below w.heap.size w w' := by
  have HZ0 := Lib.hid (Blk.new w 34 #[.string ⟨#[]⟩, .int .i64 0, .int .i64 0])
  have HW0 := Lib.hid ((Below.refl w.heap.size w).alloc (Nat.le_refl _) (.cells #[.string ⟨#[]⟩, .int .i64 0, .int .i64 0] 34))
  have Hw0 := Lib.hid (show (w.alloc (.cells #[.string ⟨#[]⟩, .int .i64 0, .int .i64 0] 34)).heap.size = w.heap.size + 1 by simp)
  have HT := Lib.hid h
  have HTab := Lib.hid htab
  have HLib := Lib.hid hlib
  obtain ⟨o, l2, c1, ho, hl2, _, hz2, hC1⟩ := cut_names s hs
  obtain ⟨n1, n2, c2, hn1, hn2, hz3, hz4, hC2⟩ := cut_names l2 hz2
  have hcd : candI s.data.toList = (o, atoiV n1.data.toList, atoiV n2.data.toList) := by
    unfold candI
    rw [hn1, hn2, hl2, ← ho, mk_L]
  have hA1 := fun w h => atoi_any n1 w h hz3
  have hA2 := fun w h => atoi_any n2 w h hz4
  have hIx := atoiV_I64 n1.data.toList
  have hIy := atoiV_I64 n2.data.toList
  generalize atoiV n1.data.toList = x at hcd hA1 hIx
  generalize atoiV n2.data.toList = y at hcd hA2 hIy
  have HCd := Lib.hid hcd
  have HC1 := Lib.hid (hC1 _ (HLib.out.below HW0.out))
  have HC2 := Lib.hid hC2
  have HA1 := Lib.hid hA1
  have HA2 := Lib.hid hA2
  clear ho hl2 hn1 hn2 hcd hC1 hC2 hA1 hA2 h htab hlib
  go_enter Tryd.func22, Tryd.ntmps22
  go_wp2_with fail
  refine HC1.out.mono ?_
  rintro e w1 ⟨rfl, hb⟩
  have HW1 := Lib.hid (HW0.out.trans (hb.mono (by rw [Hw0.out]; omega)))
  have HZ1 := Lib.hid (HZ0.out.below hb (by rw [Hw0.out]; omega))
  clear hb
  go_wp2_with fail
  refine (HC2.out w1 (HLib.out.below HW1.out)).mono ?_
  rintro e w2 ⟨rfl, hb⟩
  have HW2 := Lib.hid (HW1.out.trans (hb.mono HW1.out.size))
  have HZ2 := Lib.hid (HZ1.out.below hb HZ1.out.lt)
  clear hb
  go_wp2_with fail
  refine (HA1.out w2 (HLib.out.below HW2.out)).mono ?_
  rintro e w3 ⟨er1, rfl, hb⟩
  have HW3 := Lib.hid (HW2.out.trans (hb.mono HW2.out.size))
  have HZ3 := Lib.hid (HZ2.out.below hb HZ2.out.lt)
  clear hb
  go_wp2_with fail
  refine (HA2.out w3 (HLib.out.below HW3.out)).mono ?_
  rintro e w4 ⟨er2, rfl, hb⟩
  have HW4 := Lib.hid (HW3.out.trans (hb.mono HW3.out.size))
  have HZ4 := Lib.hid (HZ3.out.below hb HZ3.out.lt)
  clear hb
  obtain ⟨w5, hw5⟩ : ∃ w5, w5 = w4.alloc (.cells #[.string o, .int .i64 x, .int .i64 y] 34) := ⟨_, rfl⟩
  have HB5 : Hid (Blk w5 w4.heap.size 34 #[.string o, .int .i64 x, .int .i64 y]) := by show Blk w5 _ _ _; rw [hw5]; exact Blk.new _ _ _
  have HZ5 : Hid (Blk w5 w.heap.size 34 #[.string ⟨#[]⟩, .int .i64 0, .int .i64 0]) := by show Blk w5 _ _ _; rw [hw5]; exact HZ4.out.alloc _
  have HW5 : Hid (Below w.heap.size w w5) := by show Below _ _ w5; rw [hw5]; exact HW4.out.alloc HW4.out.size _
  have Hw5 := Lib.hid hw5
  clear hw5
  go_upto_region 6 with fail
  rw [← Hw5.out]
  have hs5 : w.heap.size < w5.heap.size := HZ5.out.lt
  have hg5 : w4.heap.size < w5.heap.size := HB5.out.lt
  obtain ⟨x0, x1, x2⟩ := HB5.out.c3
  obtain ⟨y0, y1, y2⟩ := HZ5.out.c3
  obtain ⟨f0, f1, f2⟩ := HZ5.out.f3
  have HIx := Lib.hid (show I64 x from hIx)
  have HIy := Lib.hid (show I64 y from hIy)
  clear hIx hIy
  by_cases hok : insOk o x y = true
  · have HOk := Lib.hid (implInsOk_any F v o x y w5 (HT.out.keep (below_keeps HW5.out hF)) (fun b hb => Nat.lt_of_lt_of_le (hF b hb) HW5.out.size))
    have HTx := Lib.hid fun (w6 : World) (h6 : Below w.heap.size w w6) => (implInsText_any F v o x y w6 (HT.out.keep (below_keeps h6 hF)) (fun b hb => Nat.lt_of_lt_of_le (hF b hb) h6.size) (tab_up HTab.out h6 h6.size))
    rw [hok] at HOk
    rw [insText_yes hok] at HTx
    go_wp2_with fail
    refine HOk.out.mono ?_
    rintro e w6 ⟨rfl, hb6⟩
    have HB6 := Lib.hid (HB5.out.below hb6 hg5)
    have HZ6 := Lib.hid (HZ5.out.below hb6 hs5)
    have HW6 := Lib.hid (HW5.out.trans (hb6.mono HW5.out.size))
    clear hb6 x0 x1 x2 y0 y1 y2 f0 f1 f2 HB5 HZ5 HW5
    obtain ⟨x0, x1, x2⟩ := HB6.out.c3
    have HC7 := Lib.hid (HTx.out w6 HW6.out)
    clear HTx
    go_wp2_with fail
    refine HC7.out.mono ?_
    rintro e w7 ⟨rfl, hb7⟩
    have HB7 := Lib.hid (HB6.out.below hb7 HB6.out.lt)
    have HZ7 := Lib.hid (HZ6.out.below hb7 HZ6.out.lt)
    have HW7 := Lib.hid (HW6.out.trans (hb7.mono HW6.out.size))
    clear hb7 x0 x1 x2 HB6 HZ6 HW6 HC7
    obtain ⟨x0, x1, x2⟩ := HB7.out.c3
    obtain ⟨y0, y1, y2⟩ := HZ7.out.c3
    obtain ⟨f0, f1, f2⟩ := HZ7.out.f3
    by_cases ht : insT o x y = s
    · have HR := Lib.hid (read_yesI HCd.out hok ht)
      have hcmp : ((insT o x y).toList == s.toList) = true := by rw [ht]; simp
      obtain ⟨wF, hwF⟩ : ∃ wF, wF = ((w7.setCell ⟨w.heap.size, 0, none⟩ (.string o)).setCell ⟨w.heap.size, 1, none⟩ (.int .i64 x)).setCell ⟨w.heap.size, 2, none⟩ (.int .i64 y) := ⟨_, rfl⟩
      have HBF : Hid (Blk wF w.heap.size 34 #[.string o, .int .i64 x, .int .i64 y]) := by show Blk wF _ _ _; rw [hwF]; exact ((HZ7.out.set_ 0 _).set_ 1 _).set_ 2 _
      have HWF : Hid (Below w.heap.size w wF) := by show Below _ _ wF; rw [hwF]; exact ((HW7.out.setCell (by simp) _).setCell (by simp) _).setCell (by simp) _
      have HwF := Lib.hid hwF
      clear hwF ht hok
      go_wp2_with fail
      rw [← HwF.out]
      obtain ⟨z0, z1, z2⟩ := HBF.out.c3
      exact bodyPost_ret (v := .tuple #[.agg #[.string o, .int .i64 x, .int .i64 y], .bool true]) (by simp [results, Tryd.results22, go_sem, z0, z1, z2]) rfl ⟨by rw [HR.out], HWF.out⟩
    · have HR := Lib.hid (read_noI HCd.out (.inr ht))
      have hcmp : ((insT o x y).toList == s.toList) = false := by
        rw [beq_eq_false_iff_ne]; intro he; exact ht (ext_toList he)
      obtain ⟨wF, hwF⟩ : ∃ wF, wF = ((w7.setCell ⟨w.heap.size, 0, none⟩ (.string ⟨#[]⟩)).setCell ⟨w.heap.size, 1, none⟩ (.int .i64 0)).setCell ⟨w.heap.size, 2, none⟩ (.int .i64 0) := ⟨_, rfl⟩
      have HBF : Hid (Blk wF w.heap.size 34 #[.string ⟨#[]⟩, .int .i64 0, .int .i64 0]) := by show Blk wF _ _ _; rw [hwF]; exact ((HZ7.out.set_ 0 _).set_ 1 _).set_ 2 _
      have HWF : Hid (Below w.heap.size w wF) := by show Below _ _ wF; rw [hwF]; exact ((HW7.out.setCell (by simp) _).setCell (by simp) _).setCell (by simp) _
      have HwF := Lib.hid hwF
      clear hwF ht hok
      go_wp2_with fail
      rw [← HwF.out]
      obtain ⟨z0, z1, z2⟩ := HBF.out.c3
      exact bodyPost_ret (v := .tuple #[.agg #[.string ⟨#[]⟩, .int .i64 0, .int .i64 0], .bool false]) (by simp [results, Tryd.results22, go_sem, z0, z1, z2]) rfl ⟨by rw [HR.out], HWF.out⟩
  · have hok' : insOk o x y = false := by simpa using hok
    have HOk := Lib.hid (implInsOk_any F v o x y w5 (HT.out.keep (below_keeps HW5.out hF)) (fun b hb => Nat.lt_of_lt_of_le (hF b hb) HW5.out.size))
    rw [hok'] at HOk
    have HR := Lib.hid (read_noI HCd.out (.inl hok'))
    clear hok hok'
    go_wp2_with fail
    refine HOk.out.mono ?_
    rintro e w6 ⟨rfl, hb6⟩
    have HZ6 := Lib.hid (HZ5.out.below hb6 hs5)
    have HW6 := Lib.hid (HW5.out.trans (hb6.mono HW5.out.size))
    clear hb6 x0 x1 x2 y0 y1 y2 f0 f1 f2 HB5 HZ5 HW5
    obtain ⟨y0, y1, y2⟩ := HZ6.out.c3
    obtain ⟨f0, f1, f2⟩ := HZ6.out.f3
    obtain ⟨wF, hwF⟩ : ∃ wF, wF = ((w6.setCell ⟨w.heap.size, 0, none⟩ (.string ⟨#[]⟩)).setCell ⟨w.heap.size, 1, none⟩ (.int .i64 0)).setCell ⟨w.heap.size, 2, none⟩ (.int .i64 0) := ⟨_, rfl⟩
    have HBF : Hid (Blk wF w.heap.size 34 #[.string ⟨#[]⟩, .int .i64 0, .int .i64 0]) := by show Blk wF _ _ _; rw [hwF]; exact ((HZ6.out.set_ 0 _).set_ 1 _).set_ 2 _
    have HWF : Hid (Below w.heap.size w wF) := by show Below _ _ wF; rw [hwF]; exact ((HW6.out.setCell (by simp) _).setCell (by simp) _).setCell (by simp) _
    have HwF := Lib.hid hwF
    clear hwF
    go_wp2_with fail
    rw [← HwF.out]
    obtain ⟨z0, z1, z2⟩ := HBF.out.c3
    exact bodyPost_ret (v := .tuple #[.agg #[.string ⟨#[]⟩, .int .i64 0, .int .i64 0], .bool false]) (by simp [results, Tryd.results22, go_sem, z0, z1, z2]) rfl ⟨by rw [HR.out], HWF.out⟩
end Go.Proofs.YtbjnjdhkillbiaaDoor
