/- Instructions read, by the model. -/
import Derived.Test.YtbjnjdhkillbiaaDoorItm
namespace Go.Proofs.YtbjnjdhkillbiaaDoor
open Go.RowKit

/-- What a reader of instructions answers. -/
def ReadV (r : (ByteArray × Int × Int) × Bool) : Value := .tuple #[.agg #[.string r.1.1, .int .i64 r.1.2.1, .int .i64 r.1.2.2], .bool r.2]
theorem read_yes {s o : ByteArray} {x y : Int} (hc : candM s.data.toList = (o, x, y)) (h1 : insOk o x y = true) (h2 : insT o x y = s) : ReadV (insRead s) = .tuple #[.agg #[.string o, .int .i64 x, .int .i64 y], .bool true] := by
  unfold insRead
  rw [if_pos (by rw [hc]; exact ⟨h1, h2⟩), hc]
  rfl
theorem read_no {s o : ByteArray} {x y : Int} (hc : candM s.data.toList = (o, x, y)) (h : insOk o x y = false ∨ ¬ insT o x y = s) : ReadV (insRead s) = .tuple #[.agg #[.string ⟨#[]⟩, .int .i64 0, .int .i64 0], .bool false] := by
  unfold insRead
  rw [if_neg]
  · rfl
  · rw [hc]
    rintro ⟨h1, h2⟩
    rcases h with h | h
    · have : insOk o x y = true := h1
      rw [this] at h; cases h
    · exact h h2
theorem read_long {s : ByteArray} (h : 40 < s.size) : ReadV (insRead s) = .tuple #[.agg #[.string ⟨#[]⟩, .int .i64 0, .int .i64 0], .bool false] := by
  unfold insRead
  rw [if_neg]
  · rfl
  · intro hh
    have := isText_size hh
    omega
theorem words_pos : ∀ (l cur : List UInt8), 0 < (wordsL cur l).length
  | [], _ => by simp [wordsL]
  | c :: l, cur => by
    rw [wordsL]
    split
    · simp
    · exact words_pos l _
theorem words_le : ∀ (l cur : List UInt8), ∀ x ∈ wordsL cur l, x.length ≤ cur.length + l.length
  | [], cur, x, h => by
    obtain rfl : x = cur := by simpa [wordsL] using h
    simp
  | c :: l, cur, x, h => by
    rw [wordsL] at h
    split at h
    · rcases List.mem_cons.1 h with rfl | h
      · simp
      · have := words_le l [] x h
        simp at this ⊢
        omega
    · have := words_le l _ x h
      simp at this ⊢
      omega
theorem wsB_le (s : ByteArray) : ∀ x ∈ wsB s, x.size ≤ s.size := fun x hx => by
  unfold wsB at hx
  obtain ⟨l, hl, rfl⟩ := List.mem_map.1 hx
  have := words_le s.data.toList [] l hl
  have e : (⟨l.toArray⟩ : ByteArray).size = l.length := by show l.toArray.size = _; simp
  rw [e]
  simpa using this
theorem wsB_pos (s : ByteArray) : 0 < (wsB s).length := by unfold wsB; rw [List.length_map]; exact words_pos _ _
/-- What the model reads, by its words. -/
theorem cand_ws (s : ByteArray) : ∃ x y : Int, candM s.data.toList = ((wsB s)[0]'(wsB_pos s), x, y) ∧ (∀ h : 1 < (wsB s).length, x = numW ((wsB s)[1]'h).data.toList) ∧ (¬ 1 < (wsB s).length → x = 0) ∧ (∀ h : 2 < (wsB s).length, y = numW ((wsB s)[2]'h).data.toList) ∧ (¬ 2 < (wsB s).length → y = 0) := by
  have hp := words_pos s.data.toList []
  have hl : (wsB s).length = (wordsL [] s.data.toList).length := by unfold wsB; rw [List.length_map]
  have e0 : (wsB s)[0]'(wsB_pos s) = ⟨((wordsL [] s.data.toList)[0]?.getD []).toArray⟩ := by
    rw [List.getElem?_eq_getElem hp]
    simp [wsB]
  refine ⟨_, _, by unfold candM; rw [e0], fun h => ?_, fun h => ?_, fun h => ?_, fun h => ?_⟩
  · rw [List.getElem?_eq_getElem (by omega)]
    simp [wsB]
  · rw [List.getElem?_eq_none (by omega)]
  · rw [List.getElem?_eq_getElem (by omega)]
    simp [wsB]
  · rw [List.getElem?_eq_none (by omega)]
theorem wsB_size {s : ByteArray} {F : Nat → Prop} {w : World} {v : Value} (h : Cod.str.Sl F w v (wsB s)) {k : Nat} (hk : k < (wsB s).length) : (wsB s)[k].size ≤ maxLen := by
  obtain ⟨_, _, _, _, _, _, _, _, h⟩ := h.str_at hk
  exact h

set_option maxRecDepth 100000 in
set_option maxHeartbeats 8000000 in
theorem specInsRead_any (s : ByteArray) (w : World) (hs : s.size ≤ 2000000) : Calls Tryd.prog 24 #[.string s] w fun e w' => e = .returned (ReadV (insRead s)) ∧ Below w.heap.size w w' := by
  have HZ0 := Lib.hid (Blk.new w 34 #[.string ⟨#[]⟩, .int .i64 0, .int .i64 0])
  have HW0 := Lib.hid ((Below.refl w.heap.size w).alloc (Nat.le_refl _) (.cells #[.string ⟨#[]⟩, .int .i64 0, .int .i64 0] 34))
  have Hw0 := Lib.hid (show (w.alloc (.cells #[.string ⟨#[]⟩, .int .i64 0, .int .i64 0] 34)).heap.size = w.heap.size + 1 by simp)
  by_cases h40 : 40 < s.size
  · have HR := Lib.hid (read_long h40)
    have b40 : (40 : Int) < s.size := by omega
    obtain ⟨wF, hwF⟩ : ∃ wF, wF = w.alloc (.cells #[.string ⟨#[]⟩, .int .i64 0, .int .i64 0] 34) := ⟨_, rfl⟩
    have HBF : Hid (Blk wF w.heap.size 34 #[.string ⟨#[]⟩, .int .i64 0, .int .i64 0]) := by show Blk wF _ _ _; rw [hwF]; exact HZ0.out
    have HWF : Hid (Below w.heap.size w wF) := by show Below _ _ wF; rw [hwF]; exact HW0.out
    have HwF := Lib.hid hwF
    clear hwF h40
    go_enter Tryd.func24, Tryd.ntmps24
    go_wp2_with fail
    rw [← HwF.out]
    obtain ⟨z0, z1, z2⟩ := HBF.out.c3
    exact bodyPost_ret (v := .tuple #[.agg #[.string ⟨#[]⟩, .int .i64 0, .int .i64 0], .bool false]) (by simp [results, Tryd.results24, go_sem, z0, z1, z2]) rfl ⟨by rw [HR.out], HWF.out⟩
  · have b40 : ¬ (40 : Int) < s.size := by omega
    have hs40 : s.size ≤ 40 := by omega
    obtain ⟨x, y, hcd, hx1, hx0, hy2, hy0⟩ := cand_ws s
    have Hsm := Lib.hid (fun x hx => Nat.le_trans (wsB_le s x hx) hs)
    clear h40
    go_enter Tryd.func24, Tryd.ntmps24
    go_wp2_with fail
    refine (l3Words_any s _ hs40).mono ?_
    rintro e w1 ⟨A, cap, rfl, hS, hb⟩
    have HS := Lib.hid hS
    have HZ1 := Lib.hid (HZ0.out.below hb (by rw [Hw0.out]; omega))
    have HW1 := Lib.hid (HW0.out.trans (hb.mono (by rw [Hw0.out]; omega)))
    obtain ⟨b, off, cap', hv, hFb, hl1, hl2, c0, _⟩ := hS.str_at (wsB_pos s)
    obtain ⟨rfl, rfl⟩ : A = some ⟨b, off, none⟩ ∧ cap = cap' := by simpa using hv
    have hbl : b < w1.heap.size := hFb.2
    have hwl : w.heap.size < w1.heap.size := HZ1.out.lt
    rw [Nat.add_zero] at c0
    have hpos := wsB_pos s
    have ip : (0 : Int) < (wsB s).length := by omega
    unfold maxLen at hl2
    generalize ho : (wsB s)[0]'(wsB_pos s) = o at c0 hcd
    have HCd := Lib.hid hcd
    have Ho := Lib.hid ho
    clear hb hv hFb hS hcd ho
    obtain ⟨w2, hw2⟩ : ∃ w2, w2 = w1.alloc (.cells #[.string o, .int .i64 0, .int .i64 0] 34) := ⟨_, rfl⟩
    have HB2 : Hid (Blk w2 w1.heap.size 34 #[.string o, .int .i64 0, .int .i64 0]) := by show Blk w2 _ _ _; rw [hw2]; exact Blk.new _ _ _
    have HZ2 : Hid (Blk w2 w.heap.size 34 #[.string ⟨#[]⟩, .int .i64 0, .int .i64 0]) := by show Blk w2 _ _ _; rw [hw2]; exact HZ1.out.alloc _
    have HW2 : Hid (Below w.heap.size w w2) := by show Below _ _ w2; rw [hw2]; exact HW1.out.alloc HW1.out.size _
    have HS2 : Hid (Cod.str.Sl (Fresh (w.alloc (.cells #[.string ⟨#[]⟩, .int .i64 0, .int .i64 0] 34)) w1) w2 (.slice (some ⟨b, off, none⟩) (wsB s).length cap) (wsB s)) := by
      show Cod.str.Sl _ w2 _ _; rw [hw2]; exact HS.out.keep fun b hb => Below.heap_alloc _ _ _ hb.2
    have Hw2 := Lib.hid hw2
    clear hw2
    go_upto_region 5 with fail
    rw [← Hw2.out]
    clear c0
    by_cases h1 : 1 < (wsB s).length
    · have hx := hx1 h1
      obtain ⟨b', off', cap', hv, _, _, _, c1, hz1⟩ := HS2.out.str_at h1
      obtain ⟨⟨rfl, rfl⟩, rfl⟩ : (b = b' ∧ off = off') ∧ cap = cap' := by simpa using hv
      have hsz1 := Hsm.out _ (List.getElem_mem h1)
      have b1 : (1 : Int) < (wsB s).length := by omega
      generalize (wsB s)[1]'h1 = n1 at c1 hx hsz1
      have hIx : I64 x := by rw [hx]; exact numW_I64 _
      obtain ⟨y0, y1, y2⟩ := HB2.out.c3
      obtain ⟨f0, f1, f2⟩ := HB2.out.f3
      have HC1 := Lib.hid fun w => l3Number_any n1 w hsz1
      rw [← hx] at HC1
      obtain ⟨w3, hw3⟩ : ∃ w3, w3 = w2.setCell ⟨w1.heap.size, 1, none⟩ (.int .i64 x) := ⟨_, rfl⟩
      have HB3 : Hid (Blk w3 w1.heap.size 34 #[.string o, .int .i64 x, .int .i64 0]) := by show Blk w3 _ _ _; rw [hw3]; exact HB2.out.set_ 1 _
      have HZ3 : Hid (Blk w3 w.heap.size 34 #[.string ⟨#[]⟩, .int .i64 0, .int .i64 0]) := by show Blk w3 _ _ _; rw [hw3]; exact HZ2.out.far (by simp; omega) _
      have HW3 : Hid (Below w.heap.size w w3) := by show Below _ _ w3; rw [hw3]; exact HW2.out.setCell (by simp; omega) _
      have HS3 : Hid (Cod.str.Sl (Fresh (w.alloc (.cells #[.string ⟨#[]⟩, .int .i64 0, .int .i64 0] 34)) w1) w3 (.slice (some ⟨b, off, none⟩) (wsB s).length cap) (wsB s)) := by
        show Cod.str.Sl _ w3 _ _; rw [hw3]; exact HS2.out.keep fun b hb => Below.heap_setCell _ _ _ _ (by have := hb.2; simp; omega)
      have Hw3 := Lib.hid hw3
      clear hw3 hx hv hx1
      go_upto_region 7 with (go_at_call 58; (with_reducible refine (HC1.out _).mono ?_); rintro e w' ⟨rfl, rfl⟩)
      rw [← Hw3.out]
      clear c1 y0 y1 y2 f0 f1 f2
      by_cases h2 : 2 < (wsB s).length
      · have hy := hy2 h2
        obtain ⟨b', off', cap', hv, _, _, _, c2, hz2⟩ := HS3.out.str_at h2
        obtain ⟨⟨rfl, rfl⟩, rfl⟩ : (b = b' ∧ off = off') ∧ cap = cap' := by simpa using hv
        have hsz2 := Hsm.out _ (List.getElem_mem h2)
        have b2 : (2 : Int) < (wsB s).length := by omega
        generalize (wsB s)[2]'h2 = n2 at c2 hy hsz2
        have hIy : I64 y := by rw [hy]; exact numW_I64 _
        obtain ⟨y0, y1, y2⟩ := HB3.out.c3
        obtain ⟨f0, f1, f2⟩ := HB3.out.f3
        have HC2 := Lib.hid fun w => l3Number_any n2 w hsz2
        rw [← hy] at HC2
        obtain ⟨w5, hw5⟩ : ∃ w5, w5 = w3.setCell ⟨w1.heap.size, 2, none⟩ (.int .i64 y) := ⟨_, rfl⟩
        have HB5 : Hid (Blk w5 w1.heap.size 34 #[.string o, .int .i64 x, .int .i64 y]) := by show Blk w5 _ _ _; rw [hw5]; exact HB3.out.set_ 2 _
        have HZ5 : Hid (Blk w5 w.heap.size 34 #[.string ⟨#[]⟩, .int .i64 0, .int .i64 0]) := by show Blk w5 _ _ _; rw [hw5]; exact HZ3.out.far (by simp; omega) _
        have HW5 : Hid (Below w.heap.size w w5) := by show Below _ _ w5; rw [hw5]; exact HW3.out.setCell (by simp; omega) _
        have Hw5 := Lib.hid hw5
        clear hw5 hy hv hy2 hy0
        go_upto_region 9 with (go_at_call 58; (with_reducible refine (HC2.out _).mono ?_); rintro e w' ⟨rfl, rfl⟩)
        rw [← Hw5.out]
        clear c2 y0 y1 y2 f0 f1 f2
        have hs5 : w.heap.size < w5.heap.size := HZ5.out.lt
        have hg5 : w1.heap.size < w5.heap.size := HB5.out.lt
        obtain ⟨x0, x1, x2⟩ := HB5.out.c3
        obtain ⟨y0, y1, y2⟩ := HZ5.out.c3
        obtain ⟨f0, f1, f2⟩ := HZ5.out.f3
        have HIx := Lib.hid (show I64 x from hIx)
        have HIy := Lib.hid (show I64 y from hIy)
        clear hIx hIy
        by_cases hok : insOk o x y = true
        · have HOk := Lib.hid (specInsOk_any o x y w5 HIx.out HIy.out)
          have HTx := Lib.hid fun (w6 : World) (h6 : Below w.heap.size w w6) => (specInsText_any o x y w6 HIx.out HIy.out)
          rw [hok] at HOk
          rw [insText_yes hok] at HTx
          go_wp2_with fail
          refine HOk.out.mono ?_
          rintro e w6 ⟨rfl, hb6⟩
          have HB6 := Lib.hid (HB5.out.below hb6 hg5)
          have HZ6 := Lib.hid (HZ5.out.below hb6 hs5)
          have HW6 := Lib.hid (HW5.out.trans (hb6.mono HW5.out.size))
          clear hb6 x0 x1 x2 y0 y1 y2 f0 f1 f2 HB5 HZ5 HW5
          obtain ⟨x0, x1, x2⟩ := HB6.out.c3
          have HC7 := Lib.hid (HTx.out w6 HW6.out)
          clear HTx
          go_wp2_with fail
          refine HC7.out.mono ?_
          rintro e w7 ⟨rfl, hb7⟩
          have HB7 := Lib.hid (HB6.out.below hb7 HB6.out.lt)
          have HZ7 := Lib.hid (HZ6.out.below hb7 HZ6.out.lt)
          have HW7 := Lib.hid (HW6.out.trans (hb7.mono HW6.out.size))
          clear hb7 x0 x1 x2 HB6 HZ6 HW6 HC7
          obtain ⟨x0, x1, x2⟩ := HB7.out.c3
          obtain ⟨y0, y1, y2⟩ := HZ7.out.c3
          obtain ⟨f0, f1, f2⟩ := HZ7.out.f3
          by_cases ht : insT o x y = s
          · have HR := Lib.hid (read_yes HCd.out hok ht)
            have hcmp : ((insT o x y).toList == s.toList) = true := by rw [ht]; simp
            obtain ⟨wF, hwF⟩ : ∃ wF, wF = ((w7.setCell ⟨w.heap.size, 0, none⟩ (.string o)).setCell ⟨w.heap.size, 1, none⟩ (.int .i64 x)).setCell ⟨w.heap.size, 2, none⟩ (.int .i64 y) := ⟨_, rfl⟩
            have HBF : Hid (Blk wF w.heap.size 34 #[.string o, .int .i64 x, .int .i64 y]) := by show Blk wF _ _ _; rw [hwF]; exact ((HZ7.out.set_ 0 _).set_ 1 _).set_ 2 _
            have HWF : Hid (Below w.heap.size w wF) := by show Below _ _ wF; rw [hwF]; exact ((HW7.out.setCell (by simp) _).setCell (by simp) _).setCell (by simp) _
            have HwF := Lib.hid hwF
            clear hwF ht hok
            go_wp2_with fail
            rw [← HwF.out]
            obtain ⟨z0, z1, z2⟩ := HBF.out.c3
            exact bodyPost_ret (v := .tuple #[.agg #[.string o, .int .i64 x, .int .i64 y], .bool true]) (by simp [results, Tryd.results24, go_sem, z0, z1, z2]) rfl ⟨by rw [HR.out], HWF.out⟩
          · have HR := Lib.hid (read_no HCd.out (.inr ht))
            have hcmp : ((insT o x y).toList == s.toList) = false := by
              rw [beq_eq_false_iff_ne]; intro he; exact ht (ext_toList he)
            obtain ⟨wF, hwF⟩ : ∃ wF, wF = ((w7.setCell ⟨w.heap.size, 0, none⟩ (.string ⟨#[]⟩)).setCell ⟨w.heap.size, 1, none⟩ (.int .i64 0)).setCell ⟨w.heap.size, 2, none⟩ (.int .i64 0) := ⟨_, rfl⟩
            have HBF : Hid (Blk wF w.heap.size 34 #[.string ⟨#[]⟩, .int .i64 0, .int .i64 0]) := by show Blk wF _ _ _; rw [hwF]; exact ((HZ7.out.set_ 0 _).set_ 1 _).set_ 2 _
            have HWF : Hid (Below w.heap.size w wF) := by show Below _ _ wF; rw [hwF]; exact ((HW7.out.setCell (by simp) _).setCell (by simp) _).setCell (by simp) _
            have HwF := Lib.hid hwF
            clear hwF ht hok
            go_wp2_with fail
            rw [← HwF.out]
            obtain ⟨z0, z1, z2⟩ := HBF.out.c3
            exact bodyPost_ret (v := .tuple #[.agg #[.string ⟨#[]⟩, .int .i64 0, .int .i64 0], .bool false]) (by simp [results, Tryd.results24, go_sem, z0, z1, z2]) rfl ⟨by rw [HR.out], HWF.out⟩
        · have hok' : insOk o x y = false := by simpa using hok
          have HOk := Lib.hid (specInsOk_any o x y w5 HIx.out HIy.out)
          rw [hok'] at HOk
          have HR := Lib.hid (read_no HCd.out (.inl hok'))
          clear hok hok'
          go_wp2_with fail
          refine HOk.out.mono ?_
          rintro e w6 ⟨rfl, hb6⟩
          have HZ6 := Lib.hid (HZ5.out.below hb6 hs5)
          have HW6 := Lib.hid (HW5.out.trans (hb6.mono HW5.out.size))
          clear hb6 x0 x1 x2 y0 y1 y2 f0 f1 f2 HB5 HZ5 HW5
          obtain ⟨y0, y1, y2⟩ := HZ6.out.c3
          obtain ⟨f0, f1, f2⟩ := HZ6.out.f3
          obtain ⟨wF, hwF⟩ : ∃ wF, wF = ((w6.setCell ⟨w.heap.size, 0, none⟩ (.string ⟨#[]⟩)).setCell ⟨w.heap.size, 1, none⟩ (.int .i64 0)).setCell ⟨w.heap.size, 2, none⟩ (.int .i64 0) := ⟨_, rfl⟩
          have HBF : Hid (Blk wF w.heap.size 34 #[.string ⟨#[]⟩, .int .i64 0, .int .i64 0]) := by show Blk wF _ _ _; rw [hwF]; exact ((HZ6.out.set_ 0 _).set_ 1 _).set_ 2 _
          have HWF : Hid (Below w.heap.size w wF) := by show Below _ _ wF; rw [hwF]; exact ((HW6.out.setCell (by simp) _).setCell (by simp) _).setCell (by simp) _
          have HwF := Lib.hid hwF
          clear hwF
          go_wp2_with fail
          rw [← HwF.out]
          obtain ⟨z0, z1, z2⟩ := HBF.out.c3
          exact bodyPost_ret (v := .tuple #[.agg #[.string ⟨#[]⟩, .int .i64 0, .int .i64 0], .bool false]) (by simp [results, Tryd.results24, go_sem, z0, z1, z2]) rfl ⟨by rw [HR.out], HWF.out⟩
      · obtain rfl := hy0 h2
        have b2 : ¬ (2 : Int) < (wsB s).length := by omega
        have hIy : I64 0 := by unfold I64; omega
        clear hy2 hy0 hx0
        go_upto_region 9 with fail
        obtain ⟨w5, hw5⟩ : ∃ w5, w5 = w3 := ⟨_, rfl⟩
        have HB5 : Hid (Blk w5 w1.heap.size 34 #[.string o, .int .i64 x, .int .i64 0]) := by rw [hw5]; exact HB3
        have HZ5 : Hid (Blk w5 w.heap.size 34 #[.string ⟨#[]⟩, .int .i64 0, .int .i64 0]) := by rw [hw5]; exact HZ3
        have HW5 : Hid (Below w.heap.size w w5) := by rw [hw5]; exact HW3
        rw [← hw5]
        clear hw5
        have hs5 : w.heap.size < w5.heap.size := HZ5.out.lt
        have hg5 : w1.heap.size < w5.heap.size := HB5.out.lt
        obtain ⟨x0, x1, x2⟩ := HB5.out.c3
        obtain ⟨y0, y1, y2⟩ := HZ5.out.c3
        obtain ⟨f0, f1, f2⟩ := HZ5.out.f3
        have HIx := Lib.hid (show I64 x from hIx)
        have HIy := Lib.hid (show I64 0 from hIy)
        clear hIx hIy
        by_cases hok : insOk o x 0 = true
        · have HOk := Lib.hid (specInsOk_any o x 0 w5 HIx.out HIy.out)
          have HTx := Lib.hid fun (w6 : World) (h6 : Below w.heap.size w w6) => (specInsText_any o x 0 w6 HIx.out HIy.out)
          rw [hok] at HOk
          rw [insText_yes hok] at HTx
          go_wp2_with fail
          refine HOk.out.mono ?_
          rintro e w6 ⟨rfl, hb6⟩
          have HB6 := Lib.hid (HB5.out.below hb6 hg5)
          have HZ6 := Lib.hid (HZ5.out.below hb6 hs5)
          have HW6 := Lib.hid (HW5.out.trans (hb6.mono HW5.out.size))
          clear hb6 x0 x1 x2 y0 y1 y2 f0 f1 f2 HB5 HZ5 HW5
          obtain ⟨x0, x1, x2⟩ := HB6.out.c3
          have HC7 := Lib.hid (HTx.out w6 HW6.out)
          clear HTx
          go_wp2_with fail
          refine HC7.out.mono ?_
          rintro e w7 ⟨rfl, hb7⟩
          have HB7 := Lib.hid (HB6.out.below hb7 HB6.out.lt)
          have HZ7 := Lib.hid (HZ6.out.below hb7 HZ6.out.lt)
          have HW7 := Lib.hid (HW6.out.trans (hb7.mono HW6.out.size))
          clear hb7 x0 x1 x2 HB6 HZ6 HW6 HC7
          obtain ⟨x0, x1, x2⟩ := HB7.out.c3
          obtain ⟨y0, y1, y2⟩ := HZ7.out.c3
          obtain ⟨f0, f1, f2⟩ := HZ7.out.f3
          by_cases ht : insT o x 0 = s
          · have HR := Lib.hid (read_yes HCd.out hok ht)
            have hcmp : ((insT o x 0).toList == s.toList) = true := by rw [ht]; simp
            obtain ⟨wF, hwF⟩ : ∃ wF, wF = ((w7.setCell ⟨w.heap.size, 0, none⟩ (.string o)).setCell ⟨w.heap.size, 1, none⟩ (.int .i64 x)).setCell ⟨w.heap.size, 2, none⟩ (.int .i64 0) := ⟨_, rfl⟩
            have HBF : Hid (Blk wF w.heap.size 34 #[.string o, .int .i64 x, .int .i64 0]) := by show Blk wF _ _ _; rw [hwF]; exact ((HZ7.out.set_ 0 _).set_ 1 _).set_ 2 _
            have HWF : Hid (Below w.heap.size w wF) := by show Below _ _ wF; rw [hwF]; exact ((HW7.out.setCell (by simp) _).setCell (by simp) _).setCell (by simp) _
            have HwF := Lib.hid hwF
            clear hwF ht hok
            go_wp2_with fail
            rw [← HwF.out]
            obtain ⟨z0, z1, z2⟩ := HBF.out.c3
            exact bodyPost_ret (v := .tuple #[.agg #[.string o, .int .i64 x, .int .i64 0], .bool true]) (by simp [results, Tryd.results24, go_sem, z0, z1, z2]) rfl ⟨by rw [HR.out], HWF.out⟩
          · have HR := Lib.hid (read_no HCd.out (.inr ht))
            have hcmp : ((insT o x 0).toList == s.toList) = false := by
              rw [beq_eq_false_iff_ne]; intro he; exact ht (ext_toList he)
            obtain ⟨wF, hwF⟩ : ∃ wF, wF = ((w7.setCell ⟨w.heap.size, 0, none⟩ (.string ⟨#[]⟩)).setCell ⟨w.heap.size, 1, none⟩ (.int .i64 0)).setCell ⟨w.heap.size, 2, none⟩ (.int .i64 0) := ⟨_, rfl⟩
            have HBF : Hid (Blk wF w.heap.size 34 #[.string ⟨#[]⟩, .int .i64 0, .int .i64 0]) := by show Blk wF _ _ _; rw [hwF]; exact ((HZ7.out.set_ 0 _).set_ 1 _).set_ 2 _
            have HWF : Hid (Below w.heap.size w wF) := by show Below _ _ wF; rw [hwF]; exact ((HW7.out.setCell (by simp) _).setCell (by simp) _).setCell (by simp) _
            have HwF := Lib.hid hwF
            clear hwF ht hok
            go_wp2_with fail
            rw [← HwF.out]
            obtain ⟨z0, z1, z2⟩ := HBF.out.c3
            exact bodyPost_ret (v := .tuple #[.agg #[.string ⟨#[]⟩, .int .i64 0, .int .i64 0], .bool false]) (by simp [results, Tryd.results24, go_sem, z0, z1, z2]) rfl ⟨by rw [HR.out], HWF.out⟩
        · have hok' : insOk o x 0 = false := by simpa using hok
          have HOk := Lib.hid (specInsOk_any o x 0 w5 HIx.out HIy.out)
          rw [hok'] at HOk
          have HR := Lib.hid (read_no HCd.out (.inl hok'))
          clear hok hok'
          go_wp2_with fail
          refine HOk.out.mono ?_
          rintro e w6 ⟨rfl, hb6⟩
          have HZ6 := Lib.hid (HZ5.out.below hb6 hs5)
          have HW6 := Lib.hid (HW5.out.trans (hb6.mono HW5.out.size))
          clear hb6 x0 x1 x2 y0 y1 y2 f0 f1 f2 HB5 HZ5 HW5
          obtain ⟨y0, y1, y2⟩ := HZ6.out.c3
          obtain ⟨f0, f1, f2⟩ := HZ6.out.f3
          obtain ⟨wF, hwF⟩ : ∃ wF, wF = ((w6.setCell ⟨w.heap.size, 0, none⟩ (.string ⟨#[]⟩)).setCell ⟨w.heap.size, 1, none⟩ (.int .i64 0)).setCell ⟨w.heap.size, 2, none⟩ (.int .i64 0) := ⟨_, rfl⟩
          have HBF : Hid (Blk wF w.heap.size 34 #[.string ⟨#[]⟩, .int .i64 0, .int .i64 0]) := by show Blk wF _ _ _; rw [hwF]; exact ((HZ6.out.set_ 0 _).set_ 1 _).set_ 2 _
          have HWF : Hid (Below w.heap.size w wF) := by show Below _ _ wF; rw [hwF]; exact ((HW6.out.setCell (by simp) _).setCell (by simp) _).setCell (by simp) _
          have HwF := Lib.hid hwF
          clear hwF
          go_wp2_with fail
          rw [← HwF.out]
          obtain ⟨z0, z1, z2⟩ := HBF.out.c3
          exact bodyPost_ret (v := .tuple #[.agg #[.string ⟨#[]⟩, .int .i64 0, .int .i64 0], .bool false]) (by simp [results, Tryd.results24, go_sem, z0, z1, z2]) rfl ⟨by rw [HR.out], HWF.out⟩
    · have h2 : ¬ 2 < (wsB s).length := by omega
      obtain rfl := hx0 h1
      obtain rfl := hy0 h2
      have b1 : ¬ (1 : Int) < (wsB s).length := by omega
      have b2 : ¬ (2 : Int) < (wsB s).length := by omega
      have hIx : I64 0 := by unfold I64; omega
      have hIy : I64 0 := by unfold I64; omega
      obtain ⟨w5, hw5⟩ : ∃ w5, w5 = w2 := ⟨_, rfl⟩
      have HB5 : Hid (Blk w5 w1.heap.size 34 #[.string o, .int .i64 0, .int .i64 0]) := by rw [hw5]; exact HB2
      have HZ5 : Hid (Blk w5 w.heap.size 34 #[.string ⟨#[]⟩, .int .i64 0, .int .i64 0]) := by rw [hw5]; exact HZ2
      have HW5 : Hid (Below w.heap.size w w5) := by rw [hw5]; exact HW2
      clear hx1 hx0 hy2 hy0
      go_upto_region 9 with fail
      rw [← hw5]
      clear hw5
      have hs5 : w.heap.size < w5.heap.size := HZ5.out.lt
      have hg5 : w1.heap.size < w5.heap.size := HB5.out.lt
      obtain ⟨x0, x1, x2⟩ := HB5.out.c3
      obtain ⟨y0, y1, y2⟩ := HZ5.out.c3
      obtain ⟨f0, f1, f2⟩ := HZ5.out.f3
      have HIx := Lib.hid (show I64 0 from hIx)
      have HIy := Lib.hid (show I64 0 from hIy)
      clear hIx hIy
      by_cases hok : insOk o 0 0 = true
      · have HOk := Lib.hid (specInsOk_any o 0 0 w5 HIx.out HIy.out)
        have HTx := Lib.hid fun (w6 : World) (h6 : Below w.heap.size w w6) => (specInsText_any o 0 0 w6 HIx.out HIy.out)
        rw [hok] at HOk
        rw [insText_yes hok] at HTx
        go_wp2_with fail
        refine HOk.out.mono ?_
        rintro e w6 ⟨rfl, hb6⟩
        have HB6 := Lib.hid (HB5.out.below hb6 hg5)
        have HZ6 := Lib.hid (HZ5.out.below hb6 hs5)
        have HW6 := Lib.hid (HW5.out.trans (hb6.mono HW5.out.size))
        clear hb6 x0 x1 x2 y0 y1 y2 f0 f1 f2 HB5 HZ5 HW5
        obtain ⟨x0, x1, x2⟩ := HB6.out.c3
        have HC7 := Lib.hid (HTx.out w6 HW6.out)
        clear HTx
        go_wp2_with fail
        refine HC7.out.mono ?_
        rintro e w7 ⟨rfl, hb7⟩
        have HB7 := Lib.hid (HB6.out.below hb7 HB6.out.lt)
        have HZ7 := Lib.hid (HZ6.out.below hb7 HZ6.out.lt)
        have HW7 := Lib.hid (HW6.out.trans (hb7.mono HW6.out.size))
        clear hb7 x0 x1 x2 HB6 HZ6 HW6 HC7
        obtain ⟨x0, x1, x2⟩ := HB7.out.c3
        obtain ⟨y0, y1, y2⟩ := HZ7.out.c3
        obtain ⟨f0, f1, f2⟩ := HZ7.out.f3
        by_cases ht : insT o 0 0 = s
        · have HR := Lib.hid (read_yes HCd.out hok ht)
          have hcmp : ((insT o 0 0).toList == s.toList) = true := by rw [ht]; simp
          obtain ⟨wF, hwF⟩ : ∃ wF, wF = ((w7.setCell ⟨w.heap.size, 0, none⟩ (.string o)).setCell ⟨w.heap.size, 1, none⟩ (.int .i64 0)).setCell ⟨w.heap.size, 2, none⟩ (.int .i64 0) := ⟨_, rfl⟩
          have HBF : Hid (Blk wF w.heap.size 34 #[.string o, .int .i64 0, .int .i64 0]) := by show Blk wF _ _ _; rw [hwF]; exact ((HZ7.out.set_ 0 _).set_ 1 _).set_ 2 _
          have HWF : Hid (Below w.heap.size w wF) := by show Below _ _ wF; rw [hwF]; exact ((HW7.out.setCell (by simp) _).setCell (by simp) _).setCell (by simp) _
          have HwF := Lib.hid hwF
          clear hwF ht hok
          go_wp2_with fail
          rw [← HwF.out]
          obtain ⟨z0, z1, z2⟩ := HBF.out.c3
          exact bodyPost_ret (v := .tuple #[.agg #[.string o, .int .i64 0, .int .i64 0], .bool true]) (by simp [results, Tryd.results24, go_sem, z0, z1, z2]) rfl ⟨by rw [HR.out], HWF.out⟩
        · have HR := Lib.hid (read_no HCd.out (.inr ht))
          have hcmp : ((insT o 0 0).toList == s.toList) = false := by
            rw [beq_eq_false_iff_ne]; intro he; exact ht (ext_toList he)
          obtain ⟨wF, hwF⟩ : ∃ wF, wF = ((w7.setCell ⟨w.heap.size, 0, none⟩ (.string ⟨#[]⟩)).setCell ⟨w.heap.size, 1, none⟩ (.int .i64 0)).setCell ⟨w.heap.size, 2, none⟩ (.int .i64 0) := ⟨_, rfl⟩
          have HBF : Hid (Blk wF w.heap.size 34 #[.string ⟨#[]⟩, .int .i64 0, .int .i64 0]) := by show Blk wF _ _ _; rw [hwF]; exact ((HZ7.out.set_ 0 _).set_ 1 _).set_ 2 _
          have HWF : Hid (Below w.heap.size w wF) := by show Below _ _ wF; rw [hwF]; exact ((HW7.out.setCell (by simp) _).setCell (by simp) _).setCell (by simp) _
          have HwF := Lib.hid hwF
          clear hwF ht hok
          go_wp2_with fail
          rw [← HwF.out]
          obtain ⟨z0, z1, z2⟩ := HBF.out.c3
          exact bodyPost_ret (v := .tuple #[.agg #[.string ⟨#[]⟩, .int .i64 0, .int .i64 0], .bool false]) (by simp [results, Tryd.results24, go_sem, z0, z1, z2]) rfl ⟨by rw [HR.out], HWF.out⟩
      · have hok' : insOk o 0 0 = false := by simpa using hok
        have HOk := Lib.hid (specInsOk_any o 0 0 w5 HIx.out HIy.out)
        rw [hok'] at HOk
        have HR := Lib.hid (read_no HCd.out (.inl hok'))
        clear hok hok'
        go_wp2_with fail
        refine HOk.out.mono ?_
        rintro e w6 ⟨rfl, hb6⟩
        have HZ6 := Lib.hid (HZ5.out.below hb6 hs5)
        have HW6 := Lib.hid (HW5.out.trans (hb6.mono HW5.out.size))
        clear hb6 x0 x1 x2 y0 y1 y2 f0 f1 f2 HB5 HZ5 HW5
        obtain ⟨y0, y1, y2⟩ := HZ6.out.c3
        obtain ⟨f0, f1, f2⟩ := HZ6.out.f3
        obtain ⟨wF, hwF⟩ : ∃ wF, wF = ((w6.setCell ⟨w.heap.size, 0, none⟩ (.string ⟨#[]⟩)).setCell ⟨w.heap.size, 1, none⟩ (.int .i64 0)).setCell ⟨w.heap.size, 2, none⟩ (.int .i64 0) := ⟨_, rfl⟩
        have HBF : Hid (Blk wF w.heap.size 34 #[.string ⟨#[]⟩, .int .i64 0, .int .i64 0]) := by show Blk wF _ _ _; rw [hwF]; exact ((HZ6.out.set_ 0 _).set_ 1 _).set_ 2 _
        have HWF : Hid (Below w.heap.size w wF) := by show Below _ _ wF; rw [hwF]; exact ((HW6.out.setCell (by simp) _).setCell (by simp) _).setCell (by simp) _
        have HwF := Lib.hid hwF
        clear hwF
        go_wp2_with fail
        rw [← HwF.out]
        obtain ⟨z0, z1, z2⟩ := HBF.out.c3
        exact bodyPost_ret (v := .tuple #[.agg #[.string ⟨#[]⟩, .int .i64 0, .int .i64 0], .bool false]) (by simp [results, Tryd.results24, go_sem, z0, z1, z2]) rfl ⟨by rw [HR.out], HWF.out⟩
end Go.Proofs.YtbjnjdhkillbiaaDoor
