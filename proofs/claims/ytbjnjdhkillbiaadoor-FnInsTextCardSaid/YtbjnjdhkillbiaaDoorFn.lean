/- The laws of InsOk, InsText and InsRead, walked. -/
import Derived.Test.YtbjnjdhkillbiaaDoorFk
import Derived.Test.YtbjnjdhkillbiaaDoorFl
import Derived.Test.YtbjnjdhkillbiaaDoorItq
namespace Go.Proofs.YtbjnjdhkillbiaaDoor
open Go.RowKit

theorem insT_some {o : ByteArray} {x y : Int} (h : insOk o x y = true) : ¬ (insT o x y).toList = [] := by
  obtain ⟨a, b, hf, _⟩ := insOk_find h
  have hp := (find_top hf).pos
  intro he
  rw [toList_data, insT_L hf] at he
  have hl : o.data.toList.length = o.size := by simp
  have := congrArg List.length he
  simp only [List.length_append, List.length_nil] at this
  omega
theorem read_nil : ReadV (insRead ⟨#[]⟩) = .tuple #[.agg #[.string ⟨#[]⟩, .int .i64 0, .int .i64 0], .bool false] := read_no (o := ⟨#[]⟩) (x := 0) (y := 0) rfl (.inl (by decide +kernel))

set_option maxRecDepth 100000 in
set_option maxHeartbeats 8000000 in
theorem fnInsOk (F : Nat → Prop) (v : Value) (cv : Value) (xs : List Nat) (w : World) (h : Tab F w v) (hF : ∀ b, F b → b < w.heap.size) (hc : Cod.u8.Sl (Old w) w cv xs) (htab : Lib.TabBelow Tryd.prog w.heap.size w tabN .u64 Lib.pow10Tab) :
    Calls Tryd.prog 4 #[cv] w fun e w' => e = .returned (.bool true) ∧ Below w.heap.size w w' := by
  have HT := Lib.hid h
  have HTab := Lib.hid htab
  have HCv := Lib.hid hc
  obtain ⟨cA, cc, rfl, hc1, hc2, _⟩ := hc
  unfold maxLen at hc2
  clear h htab
  have HTw := Lib.hid fun (w1 : World) (h1 : Below w.heap.size w w1) => (show Tab F w1 v from HT.out.keep (below_keeps h1 hF))
  have HFw := Lib.hid fun (w1 : World) (h1 : Below w.heap.size w w1) => (show ∀ b, F b → b < w1.heap.size from fun b hb => Nat.lt_of_lt_of_le (hF b hb) h1.size)
  by_cases hl : 1048576 < xs.length
  · go_enter Tryd.func4, Tryd.ntmps4
    go_wp2
    go_ret
    exact ⟨rfl, Below.refl _ _⟩
  · go_enter Tryd.func4, Tryd.ntmps4
    go_wp2_with fail
    refine (drawInsOk_any (Old w) _ xs w HCv.out (fun b hb => hb)).mono ?_
    rintro e w1 ⟨o, x, y, a1, a2, a3, a4, a5, rfl, hb1⟩
    obtain ⟨w2, hw2⟩ : ∃ w2, w2 = w1.alloc (.cells #[.string o, .int .i64 x, .int .i64 y] 34) := ⟨_, rfl⟩
    have HB2 : Hid (Blk w2 w1.heap.size 34 #[.string o, .int .i64 x, .int .i64 y]) := by show Blk w2 _ _ _; rw [hw2]; exact Blk.new _ _ _
    have HW2 : Hid (Below w.heap.size w w2) := by show Below _ _ w2; rw [hw2]; exact hb1.alloc hb1.size _
    have Hw2 := Lib.hid hw2
    have hIx : I64 x := by unfold I64; omega
    have hIy : I64 y := by unfold I64; omega
    have HIx := Lib.hid hIx
    have HIy := Lib.hid hIy
    clear hw2 hb1 a2 a3 a4 a5 hIx hIy
    obtain ⟨g, Hg⟩ : ∃ g, Hid (g = w1.heap.size) := ⟨_, rfl⟩
    rw [← Hg.out] at HB2
    obtain ⟨x0, x1, x2⟩ := HB2.out.c3
    go_upto_region 4 with fail
    rw [← Hw2.out]
    rw [← Hg.out]
    go_wp2_with fail
    refine (implInsOk_any F v o x y w2 (HTw.out _ HW2.out) (HFw.out _ HW2.out)).mono ?_
    rintro e w3 ⟨rfl, hb⟩
    have HB3 := Lib.hid (HB2.out.below hb HB2.out.lt)
    have HW3 := Lib.hid (HW2.out.trans (hb.mono HW2.out.size))
    clear hb x0 x1 x2
    obtain ⟨x0, x1, x2⟩ := HB3.out.c3
    go_wp2_with fail
    refine (specInsOk_any o x y w3 HIx.out HIy.out).mono ?_
    rintro e w4 ⟨rfl, hb⟩
    have HB4 := Lib.hid (HB3.out.below hb HB3.out.lt)
    have HW4 := Lib.hid (HW3.out.trans (hb.mono HW3.out.size))
    clear hb x0 x1 x2
    obtain ⟨x0, x1, x2⟩ := HB4.out.c3
    have HC5 := Lib.hid (implInsText_any F v o x y w4 (HTw.out _ HW4.out) (HFw.out _ HW4.out) (tab_up HTab.out HW4.out HW4.out.size))
    cases hok : insOk o x y with
    | true =>
      rw [insText_yes hok] at HC5
      have hne := insT_some hok
      clear hok
      go_wp2_with fail
      refine (HC5.out).mono ?_
      rintro e w5 ⟨rfl, hb⟩
      have HB5 := Lib.hid (HB4.out.below hb HB4.out.lt)
      have HW5 := Lib.hid (HW4.out.trans (hb.mono HW4.out.size))
      clear hb x0 x1 x2
      obtain ⟨x0, x1, x2⟩ := HB5.out.c3
      go_wp2_with fail
      go_ret
      exact ⟨ret_bool (by simpa using hne), HW5.out⟩
    | false =>
      rw [insText_no hok] at HC5
      clear hok
      go_wp2_with fail
      refine (HC5.out).mono ?_
      rintro e w5 ⟨rfl, hb⟩
      have HB5 := Lib.hid (HB4.out.below hb HB4.out.lt)
      have HW5 := Lib.hid (HW4.out.trans (hb.mono HW4.out.size))
      clear hb x0 x1 x2
      obtain ⟨x0, x1, x2⟩ := HB5.out.c3
      go_wp2_with fail
      go_ret
      exact ⟨rfl, HW5.out⟩

set_option maxRecDepth 100000 in
set_option maxHeartbeats 8000000 in
theorem fnInsText (F : Nat → Prop) (v : Value) (cv : Value) (xs : List Nat) (w : World) (h : Tab F w v) (hF : ∀ b, F b → b < w.heap.size) (hc : Cod.u8.Sl (Old w) w cv xs) (hlib : LibAt w) (htab : Lib.TabBelow Tryd.prog w.heap.size w tabN .u64 Lib.pow10Tab) :
    Calls Tryd.prog 5 #[cv] w fun e w' => e = .returned (.bool true) ∧ Below w.heap.size w w' := by
  have HT := Lib.hid h
  have HTab := Lib.hid htab
  have HLib := Lib.hid hlib
  have HCv := Lib.hid hc
  obtain ⟨cA, cc, rfl, hc1, hc2, _⟩ := hc
  unfold maxLen at hc2
  clear h htab
  have HTw := Lib.hid fun (w1 : World) (h1 : Below w.heap.size w w1) => (show Tab F w1 v from HT.out.keep (below_keeps h1 hF))
  have HFw := Lib.hid fun (w1 : World) (h1 : Below w.heap.size w w1) => (show ∀ b, F b → b < w1.heap.size from fun b hb => Nat.lt_of_lt_of_le (hF b hb) h1.size)
  by_cases hl : 1048576 < xs.length
  · go_enter Tryd.func5, Tryd.ntmps5
    go_wp2
    go_ret
    exact ⟨rfl, Below.refl _ _⟩
  · go_enter Tryd.func5, Tryd.ntmps5
    go_wp2_with fail
    refine (drawInsText_any (Old w) _ xs w HCv.out (fun b hb => hb)).mono ?_
    rintro e w1 ⟨o, x, y, a1, a2, a3, a4, a5, rfl, hb1⟩
    obtain ⟨w2, hw2⟩ : ∃ w2, w2 = w1.alloc (.cells #[.string o, .int .i64 x, .int .i64 y] 34) := ⟨_, rfl⟩
    have HB2 : Hid (Blk w2 w1.heap.size 34 #[.string o, .int .i64 x, .int .i64 y]) := by show Blk w2 _ _ _; rw [hw2]; exact Blk.new _ _ _
    have HW2 : Hid (Below w.heap.size w w2) := by show Below _ _ w2; rw [hw2]; exact hb1.alloc hb1.size _
    have Hw2 := Lib.hid hw2
    have hIx : I64 x := by unfold I64; omega
    have hIy : I64 y := by unfold I64; omega
    have HIx := Lib.hid hIx
    have HIy := Lib.hid hIy
    clear hw2 hb1 a2 a3 a4 a5 hIx hIy
    obtain ⟨g, Hg⟩ : ∃ g, Hid (g = w1.heap.size) := ⟨_, rfl⟩
    rw [← Hg.out] at HB2
    obtain ⟨x0, x1, x2⟩ := HB2.out.c3
    go_upto_region 4 with fail
    rw [← Hw2.out]
    rw [← Hg.out]
    go_wp2_with fail
    refine (implInsText_any F v o x y w2 (HTw.out _ HW2.out) (HFw.out _ HW2.out) (tab_up HTab.out HW2.out HW2.out.size)).mono ?_
    rintro e w3 ⟨rfl, hb⟩
    have HB3 := Lib.hid (HB2.out.below hb HB2.out.lt)
    have HW3 := Lib.hid (HW2.out.trans (hb.mono HW2.out.size))
    clear hb x0 x1 x2
    obtain ⟨x0, x1, x2⟩ := HB3.out.c3
    go_wp2_with fail
    refine (specInsText_any o x y w3 HIx.out HIy.out).mono ?_
    rintro e w4 ⟨rfl, hb⟩
    have HB4 := Lib.hid (HB3.out.below hb HB3.out.lt)
    have HW4 := Lib.hid (HW3.out.trans (hb.mono HW3.out.size))
    clear hb x0 x1 x2
    obtain ⟨x0, x1, x2⟩ := HB4.out.c3
    have HC5 := Lib.hid (implInsRead_any F v (insText o x y) w4 (HTw.out _ HW4.out) (HFw.out _ HW4.out) (Nat.le_trans insText_few (by omega)) (HLib.out.below HW4.out) (tab_up HTab.out HW4.out HW4.out.size))
    have hfew := insText_few (o := o) (x := x) (y := y)
    cases hok : insOk o x y with
    | true =>
      rw [insText_yes hok] at HC5 hfew ⊢
      rw [read_yes (candM_text hok) hok rfl] at HC5
      go_wp2_with fail
      refine HC5.out.mono ?_
      rintro e w5 ⟨rfl, hb⟩
      have HB5 := Lib.hid (HB4.out.below hb HB4.out.lt)
      have HW5 := Lib.hid (HW4.out.trans (hb.mono HW4.out.size))
      clear hb x0 x1 x2
      have HN5 := Lib.hid (Blk.new w5 34 #[.string o, .int .i64 x, .int .i64 y])
      have HB5a := Lib.hid (HB5.out.alloc (.cells #[.string o, .int .i64 x, .int .i64 y] 34))
      have HW5a := Lib.hid (HW5.out.alloc HW5.out.size (.cells #[.string o, .int .i64 x, .int .i64 y] 34))
      have HC6 := Lib.hid (implInsOk_any F v o x y _ (HTw.out _ HW5a.out) (HFw.out _ HW5a.out))
      rw [hok] at HC6
      have hl5 := HB5.out.lt
      obtain ⟨x0, x1, x2⟩ := HB5.out.c3
      clear hok
      go_wp2_with fail
      refine HC6.out.mono ?_
      rintro e w6 ⟨rfl, hb⟩
      have HB6 := Lib.hid (HB5a.out.below hb HB5a.out.lt)
      have HN6 := Lib.hid (HN5.out.below hb HN5.out.lt)
      have HW6 := Lib.hid (HW5a.out.trans (hb.mono HW5a.out.size))
      clear hb x0 x1 x2
      obtain ⟨x0, x1, x2⟩ := HB6.out.c3
      obtain ⟨y0, y1, y2⟩ := HN6.out.c3
      go_wp2_with fail
      go_ret
      exact ⟨rfl, HW6.out⟩
    | false =>
      rw [insText_no hok] at HC5 hfew ⊢
      rw [read_nil] at HC5
      go_wp2_with fail
      refine HC5.out.mono ?_
      rintro e w5 ⟨rfl, hb⟩
      have HB5 := Lib.hid (HB4.out.below hb HB4.out.lt)
      have HW5 := Lib.hid (HW4.out.trans (hb.mono HW4.out.size))
      clear hb x0 x1 x2
      have HN5 := Lib.hid (Blk.new w5 34 #[.string ⟨#[]⟩, .int .i64 0, .int .i64 0])
      have HB5a := Lib.hid (HB5.out.alloc (.cells #[.string ⟨#[]⟩, .int .i64 0, .int .i64 0] 34))
      have HW5a := Lib.hid (HW5.out.alloc HW5.out.size (.cells #[.string ⟨#[]⟩, .int .i64 0, .int .i64 0] 34))
      have HC6 := Lib.hid (implInsOk_any F v o x y _ (HTw.out _ HW5a.out) (HFw.out _ HW5a.out))
      rw [hok] at HC6
      have hl5 := HB5.out.lt
      obtain ⟨x0, x1, x2⟩ := HB5.out.c3
      clear hok
      go_wp2_with fail
      refine HC6.out.mono ?_
      rintro e w6 ⟨rfl, hb⟩
      have HB6 := Lib.hid (HB5a.out.below hb HB5a.out.lt)
      have HN6 := Lib.hid (HN5.out.below hb HN5.out.lt)
      have HW6 := Lib.hid (HW5a.out.trans (hb.mono HW5a.out.size))
      clear hb x0 x1 x2
      obtain ⟨x0, x1, x2⟩ := HB6.out.c3
      obtain ⟨y0, y1, y2⟩ := HN6.out.c3
      go_wp2_with fail
      go_ret
      exact ⟨rfl, HW6.out⟩

set_option maxRecDepth 100000 in
set_option maxHeartbeats 8000000 in
theorem fnInsRead (F : Nat → Prop) (v : Value) (cv : Value) (xs : List Nat) (w : World) (h : Tab F w v) (hF : ∀ b, F b → b < w.heap.size) (hc : Cod.u8.Sl (Old w) w cv xs) (hlib : LibAt w) (htab : Lib.TabBelow Tryd.prog w.heap.size w tabN .u64 Lib.pow10Tab) :
    Calls Tryd.prog 6 #[cv] w fun e w' => e = .returned (.bool true) ∧ Below w.heap.size w w' := by
  have HT := Lib.hid h
  have HTab := Lib.hid htab
  have HLib := Lib.hid hlib
  have HCv := Lib.hid hc
  obtain ⟨cA, cc, rfl, hc1, hc2, _⟩ := hc
  unfold maxLen at hc2
  clear h htab
  have HTw := Lib.hid fun (w1 : World) (h1 : Below w.heap.size w w1) => (show Tab F w1 v from HT.out.keep (below_keeps h1 hF))
  have HFw := Lib.hid fun (w1 : World) (h1 : Below w.heap.size w w1) => (show ∀ b, F b → b < w1.heap.size from fun b hb => Nat.lt_of_lt_of_le (hF b hb) h1.size)
  by_cases hl : 1048576 < xs.length
  · go_enter Tryd.func6, Tryd.ntmps6
    go_wp2
    go_ret
    exact ⟨rfl, Below.refl _ _⟩
  · go_enter Tryd.func6, Tryd.ntmps6
    go_wp2_with fail
    refine (drawInsRead_any (Old w) _ xs w HCv.out (fun b hb => hb)).mono ?_
    rintro e w1 ⟨s, hs, rfl, hb1⟩
    have HW1 := Lib.hid hb1
    clear hb1
    have HC1 := Lib.hid (implInsRead_any F v s w1 (HTw.out _ HW1.out) (HFw.out _ HW1.out) (by omega) (HLib.out.below HW1.out) (tab_up HTab.out HW1.out HW1.out.size))
    have HC2 := Lib.hid fun w => specInsRead_any s w (by omega)
    obtain ⟨o, x, y, hcd⟩ : ∃ o x y, candM s.data.toList = (o, x, y) := ⟨_, _, _, rfl⟩
    by_cases ht : isText s (candM s.data.toList)
    · have hok : insOk o x y = true := by have := ht.1; rw [hcd] at this; exact this
      have htx : insT o x y = s := by have := ht.2; rw [hcd] at this; exact this
      rw [read_yes hcd hok htx] at HC1 HC2
      have HOk := Lib.hid fun (w1 : World) (h1 : Below w.heap.size w w1) => implInsOk_any F v o x y w1 (HTw.out _ h1) (HFw.out _ h1)
      have HTx := Lib.hid fun (w1 : World) (h1 : Below w.heap.size w w1) => implInsText_any F v o x y w1 (HTw.out _ h1) (HFw.out _ h1) (tab_up HTab.out h1 h1.size)
      rw [hok] at HOk
      rw [insText_yes hok, htx] at HTx
      clear hcd ht hok htx
      go_wp2_with fail
      refine HC1.out.mono ?_
      rintro e w2 ⟨rfl, hb⟩
      have HW2 := Lib.hid (HW1.out.trans (hb.mono HW1.out.size))
      clear hb
      obtain ⟨w3, hw3⟩ : ∃ w3, w3 = w2.alloc (.cells #[.string o, .int .i64 x, .int .i64 y] 34) := ⟨_, rfl⟩
      have HB3 : Hid (Blk w3 w2.heap.size 34 #[.string o, .int .i64 x, .int .i64 y]) := by show Blk w3 _ _ _; rw [hw3]; exact Blk.new _ _ _
      have HW3 : Hid (Below w.heap.size w w3) := by show Below _ _ w3; rw [hw3]; exact HW2.out.alloc HW2.out.size _
      have Hw3 := Lib.hid hw3
      clear hw3
      go_upto_region 5 with fail
      rw [← Hw3.out]
      go_wp2_with fail
      refine (HC2.out w3).mono ?_
      rintro e w4 ⟨rfl, hb⟩
      have HB4 := Lib.hid (HB3.out.below hb HB3.out.lt)
      have HW4 := Lib.hid (HW3.out.trans (hb.mono HW3.out.size))
      clear hb
      obtain ⟨w5, hw5⟩ : ∃ w5, w5 = w4.alloc (.cells #[.string o, .int .i64 x, .int .i64 y] 34) := ⟨_, rfl⟩
      have HB5 : Hid (Blk w5 w2.heap.size 34 #[.string o, .int .i64 x, .int .i64 y]) := by show Blk w5 _ _ _; rw [hw5]; exact HB4.out.alloc _
      have HN5 : Hid (Blk w5 w4.heap.size 34 #[.string o, .int .i64 x, .int .i64 y]) := by show Blk w5 _ _ _; rw [hw5]; exact Blk.new _ _ _
      have HW5 : Hid (Below w.heap.size w w5) := by show Below _ _ w5; rw [hw5]; exact HW4.out.alloc HW4.out.size _
      have Hw5 := Lib.hid hw5
      clear hw5
      obtain ⟨x0, x1, x2⟩ := HB5.out.c3
      obtain ⟨y0, y1, y2⟩ := HN5.out.c3
      go_upto_region 6 with fail
      rw [← Hw5.out]
      go_wp2_with fail
      refine (HOk.out w5 HW5.out).mono ?_
      rintro e w6 ⟨rfl, hb⟩
      have HB6 := Lib.hid (HB5.out.below hb HB5.out.lt)
      have HW6 := Lib.hid (HW5.out.trans (hb.mono HW5.out.size))
      clear hb x0 x1 x2 y0 y1 y2
      obtain ⟨x0, x1, x2⟩ := HB6.out.c3
      go_wp2_with fail
      refine (HTx.out w6 HW6.out).mono ?_
      rintro e w7 ⟨rfl, hb⟩
      have HW7 := Lib.hid (HW6.out.trans (hb.mono HW6.out.size))
      clear hb
      go_wp2_with fail
      go_ret
      exact ⟨rfl, HW7.out⟩
    · have hn : insOk o x y = false ∨ ¬ insT o x y = s := by
        cases hok : insOk o x y with
        | false => exact .inl rfl
        | true => exact .inr fun he => ht (by rw [hcd]; exact ⟨hok, he⟩)
      rw [read_no hcd hn] at HC1 HC2
      clear hcd ht hn
      go_wp2_with fail
      refine HC1.out.mono ?_
      rintro e w2 ⟨rfl, hb⟩
      have HW2 := Lib.hid (HW1.out.trans (hb.mono HW1.out.size))
      clear hb
      obtain ⟨w3, hw3⟩ : ∃ w3, w3 = w2.alloc (.cells #[.string ⟨#[]⟩, .int .i64 0, .int .i64 0] 34) := ⟨_, rfl⟩
      have HB3 : Hid (Blk w3 w2.heap.size 34 #[.string ⟨#[]⟩, .int .i64 0, .int .i64 0]) := by show Blk w3 _ _ _; rw [hw3]; exact Blk.new _ _ _
      have HW3 : Hid (Below w.heap.size w w3) := by show Below _ _ w3; rw [hw3]; exact HW2.out.alloc HW2.out.size _
      have Hw3 := Lib.hid hw3
      clear hw3
      go_upto_region 5 with fail
      rw [← Hw3.out]
      go_wp2_with fail
      refine (HC2.out w3).mono ?_
      rintro e w4 ⟨rfl, hb⟩
      have HB4 := Lib.hid (HB3.out.below hb HB3.out.lt)
      have HW4 := Lib.hid (HW3.out.trans (hb.mono HW3.out.size))
      clear hb
      obtain ⟨w5, hw5⟩ : ∃ w5, w5 = w4.alloc (.cells #[.string ⟨#[]⟩, .int .i64 0, .int .i64 0] 34) := ⟨_, rfl⟩
      have HB5 : Hid (Blk w5 w2.heap.size 34 #[.string ⟨#[]⟩, .int .i64 0, .int .i64 0]) := by show Blk w5 _ _ _; rw [hw5]; exact HB4.out.alloc _
      have HN5 : Hid (Blk w5 w4.heap.size 34 #[.string ⟨#[]⟩, .int .i64 0, .int .i64 0]) := by show Blk w5 _ _ _; rw [hw5]; exact Blk.new _ _ _
      have HW5 : Hid (Below w.heap.size w w5) := by show Below _ _ w5; rw [hw5]; exact HW4.out.alloc HW4.out.size _
      have Hw5 := Lib.hid hw5
      clear hw5
      obtain ⟨x0, x1, x2⟩ := HB5.out.c3
      obtain ⟨y0, y1, y2⟩ := HN5.out.c3
      go_upto_region 6 with fail
      rw [← Hw5.out]
      go_wp2_with fail
      go_ret
      exact ⟨rfl, HW5.out⟩
end Go.Proofs.YtbjnjdhkillbiaaDoor
