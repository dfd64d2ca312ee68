/- The program's reader of values: numbers. -/
import Derived.Test.YtelhjdccfomafaaDoorRi
import Derived.Deep.DeepCutAuto
namespace Go.Proofs.YtelhjdccfomafaaDoor
open Go.RowKit

/-- Where the reader is. -/
def posOf (rb : Nat) (w : World) : Nat := match w.cell? ⟨rb, 2, none⟩ with | some (.int _ p) => p.toNat | _ => 0
theorem RdB.pos {rb tb i : Nat} {s : ByteArray} {w : World} (h : RdB rb tb s i w) : posOf rb w = i := by
  unfold posOf
  rw [h.c.2.2]
  simp
/-- A number read, of a top; or none. -/
def NumD (rb tb : Nat) (s : ByteArray) (i : Nat) (t : ByteArray) (top : Nat) (w : World) (e : Ending) (w' : World) : Prop :=
  Wrote rb (rb + 1) w w' ∧ ∃ i', i' ≤ s.size ∧ RdB rb tb s i' w' ∧
    ((∃ n : Nat, n ≤ top ∧ e = .returned (.tuple #[.agg #[.string t, .int .i64 n, .slice none 0 0, .slice none 0 0], .bool true]) ∧ tl s i = Lib.decDigits n ++ tl s i' ∧ Ends (tl s i')) ∨
     (e = .returned (.tuple #[.agg #[.string ⟨#[]⟩, .int .i64 0, .slice none 0 0, .slice none 0 0], .bool false]) ∧ ∀ (n : Nat) (r : List UInt8), n ≤ top → tl s i = Lib.decDigits n ++ r → Ends r → False))

/-- The digits read so far. -/
structure NumAt (s : ByteArray) (i top j : Nat) (n : Nat) : Prop where
  le : i + j ≤ s.size
  num : n = numL ((tl s i).take j)
  dig : ∀ c ∈ (tl s i).take j, isD c
  fit : n ≤ 10 * top + 9
  low : ∀ k, k < j → numL ((tl s i).take k) ≤ top
theorem NumAt.start {s : ByteArray} {i top : Nat} (h : i ≤ s.size) : NumAt s i top 0 0 := ⟨h, rfl, fun _ h => by simp at h, by omega, fun _ h => by omega⟩
theorem NumAt.digit {s : ByteArray} {i top j n : Nat} (h : NumAt s i top j n) (hn : n ≤ top) (hd : 48 ≤ atB s (i + j) ∧ atB s (i + j) ≤ 57) : NumAt s i top (j + 1) (n * 10 + (atB s (i + j) - 48)) := by
  obtain ⟨hi, hb, ht⟩ := atB_hit (b := atB s (i + j)) (by omega) rfl
  have e : (tl s i).take (j + 1) = (tl s i).take j ++ [s[i + j]'hi] := by
    have h1 : (tl s i)[j]? = some (s[i + j]'hi) := by
      show (s.data.toList.drop i)[j]? = _
      rw [List.getElem?_drop, ← toList_data]
      exact get_toList s (i + j) hi
    rw [List.take_add_one, h1]; rfl
  refine ⟨hi, ?_, fun c hc => ?_, by have := h.fit; omega, fun k hk => ?_⟩
  · rw [e, numL_snoc, ← h.num, hb]
  · rw [e] at hc
    rcases List.mem_append.1 hc with hc | hc
    · exact h.dig c hc
    · obtain rfl := List.mem_singleton.1 hc
      unfold isD
      rw [hb]; exact hd
  · by_cases hkj : k < j
    · exact h.low k hkj
    · obtain rfl : k = j := by omega
      rw [← h.num]; exact hn
theorem tl_split (s : ByteArray) (i j : Nat) : tl s i = (tl s i).take j ++ tl s (i + j) := by
  show s.data.toList.drop i = (s.data.toList.drop i).take j ++ s.data.toList.drop (i + j)
  rw [← List.drop_drop]
  exact (List.take_append_drop j _).symm
theorem NumAt.size {s : ByteArray} {i top j n : Nat} (h : NumAt s i top j n) : ((tl s i).take j).length = j := by
  rw [List.length_take]
  have := h.le
  show min j (s.data.toList.drop i).length = j
  rw [List.length_drop, Array.length_toList]
  have e : s.data.size = s.size := rfl
  omega
/-- No digit is there. -/
theorem ends_at {s : ByteArray} {i : Nat} (h : ¬ (48 ≤ atB s i ∧ atB s i ≤ 57)) : Ends (tl s i) := by
  intro c r e hd
  by_cases hi : i < s.size
  · rw [tl_cons hi] at e
    simp only [List.cons.injEq] at e
    apply h
    unfold atB
    rw [dif_pos hi, e.1]
    exact hd
  · rw [tl_end (by omega)] at e; cases e
/-- The end: a number. -/
theorem NumAt.good {s : ByteArray} {i top j n : Nat} (h : NumAt s i top j n) (hj : 0 < j) (hz : ¬ (atB s i = 48 ∧ 1 < j)) : tl s i = Lib.decDigits n ++ tl s (i + j) := by
  have hl := h.size
  obtain ⟨k, rfl⟩ : ∃ k, j = k + 1 := ⟨j - 1, by omega⟩
  have hd := dec_numL k ((tl s i).take (k + 1)) hl h.dig (by
    by_cases h1 : k + 1 = 1
    · left; rw [hl]; exact h1
    · right
      intro e
      apply hz
      refine ⟨?_, by omega⟩
      have hi : i < s.size := by have := h.le; omega
      rw [tl_cons hi, List.take_succ_cons, List.head?_cons] at e
      unfold atB
      rw [dif_pos hi, Option.some.inj e]
      rfl)
  rw [h.num, hd.1]
  exact tl_split s i (k + 1)
theorem dec_head : ∀ m, (Lib.decDigits m).head? = some 48 → m = 0 := by
  intro m
  induction m using Nat.strongRecOn with
  | _ m ih =>
    intro h
    by_cases hm : m < 10
    · rw [Lib.decDigits_one hm] at h
      have := congrArg UInt8.toNat (Option.some.inj h)
      rw [dig_toNat hm] at this
      have e : (48 : UInt8).toNat = 48 := rfl
      omega
    · rw [Lib.decDigits, dif_neg hm] at h
      have hne := (dec_digits (m / 10)).2.2
      have e : (Lib.decDigits (m / 10)).head? = some 48 := by
        match hl : Lib.decDigits (m / 10), hne with
        | x :: l, _ => rw [hl] at h; exact h
      have := ih (m / 10) (by omega) e
      omega
theorem pre_digits : ∀ (l1 l2 r1 r2 : List UInt8), (∀ c ∈ l1, isD c) → Ends r2 → l1 ++ r1 = l2 ++ r2 → ∃ l3, l2 = l1 ++ l3
  | [], l2, _, _, _, _, _ => ⟨l2, rfl⟩
  | c :: l, [], r1, r2, h1, e2, h => absurd (h1 c (by simp)) (e2 c (l ++ r1) h.symm)
  | c :: l, d :: m, r1, r2, h1, e2, h => by
    simp only [List.cons_append, List.cons.injEq] at h
    obtain ⟨rfl, h⟩ := h
    obtain ⟨l3, rfl⟩ := pre_digits l m r1 r2 (fun x hx => h1 x (by simp [hx])) e2 h
    exact ⟨l3, rfl⟩
theorem foldl_ge : ∀ (l : List UInt8) (a : Nat), a ≤ l.foldl (fun a c => a * 10 + (c.toNat - 48)) a
  | [], a => Nat.le_refl _
  | c :: l, a => by
    have := foldl_ge l (a * 10 + (c.toNat - 48))
    show a ≤ l.foldl _ (a * 10 + (c.toNat - 48))
    omega
theorem numL_pre (l1 l3 : List UInt8) : numL l1 ≤ numL (l1 ++ l3) := by
  unfold numL
  rw [List.foldl_append]
  exact foldl_ge _ _
/-- The end: none. -/
theorem NumAt.bad {s : ByteArray} {i top j n : Nat} (h : NumAt s i top j n) (hend : top < n ∨ ¬ (48 ≤ atB s (i + j) ∧ atB s (i + j) ≤ 57)) (hb : j = 0 ∨ top < n ∨ (atB s i = 48 ∧ 1 < j)) : ∀ (m : Nat) (r : List UInt8), m ≤ top → tl s i = Lib.decDigits m ++ r → Ends r → False := by
  intro m r hm he hr
  obtain ⟨d1, d2, d3⟩ := dec_digits m
  have hl := h.size
  -- the digits that the text begins with
  have hsp := tl_split s i j
  rcases hend with hend | hend
  · obtain ⟨l3, h3⟩ := pre_digits _ _ _ _ h.dig hr (hsp.symm.trans he)
    have h4 := numL_pre ((tl s i).take j) l3
    rw [← h3, d2, ← h.num] at h4
    omega
  · obtain ⟨e1, e2⟩ := span_inj _ _ _ _ h.dig d1 (ends_at hend) hr (hsp.symm.trans he)
    have hn : n = m := by rw [h.num, e1, d2]
    rcases hb with hb | hb | ⟨hb, hj⟩
    · rw [e1] at hl
      apply d3
      exact List.eq_nil_of_length_eq_zero (by omega)
    · omega
    · have hi : i < s.size := by have := h.le; omega
      have hh : ((tl s i).take j).head? = some 48 := by
        obtain ⟨k, rfl⟩ : ∃ k, j = k + 1 := ⟨j - 1, by omega⟩
        rw [tl_cons hi, List.take_succ_cons, List.head?_cons]
        unfold atB at hb
        rw [dif_pos hi] at hb
        congr 1
        exact UInt8.toNat_inj.1 hb
      rw [e1] at hh hl
      have h0 := dec_head m hh
      subst h0
      rw [Lib.decDigits_one (by decide)] at hl
      simp at hl
      omega

/-- Numbers of two types. -/
theorem topB_num {t : ByteArray} (h : (t.toList == [110]) = true) : topB t = ((1000000 : Nat) : Int) := by unfold topB; rw [if_pos h]; rfl
theorem topB_own {t : ByteArray} (h1 : (t.toList == [110]) = false) (h2 : (t.toList == [98]) = false) (h3 : (t.toList == [111]) = true) : topB t = ((3 : Nat) : Int) := by
  unfold topB; rw [h1, h2, if_pos h3]; rfl

set_option maxRecDepth 100000 in
set_option maxHeartbeats 2000000 in
theorem number_any (rb tb i : Nat) (s t : ByteArray) (top : Nat) (ht : topB t = top) (htm : top ≤ 1000000) (htz : t.size ≤ 3) (w : World) (h : RdB rb tb s i w) (hi : i ≤ s.size) (hs : s.size ≤ 2000000) :
    Calls Tryd.prog 45 #[.pointer (some ⟨rb, 0, none⟩), .string t] w (NumD rb tb s i t top w) := by
  have hr := h.lt
  have HB0 := Lib.hid (Blk.new w 27 #[.string ⟨#[]⟩, .int .i64 0, .slice none 0 0, .slice none 0 0])
  have hW0 : Wrote rb (rb + 1) w (w.alloc (.cells #[.string ⟨#[]⟩, .int .i64 0, .slice none 0 0, .slice none 0 0] 27)) := Wrote.of_below ((Below.refl _ _).alloc (Nat.le_refl _) _)
  have hR0 := h.alloc (.cells #[.string ⟨#[]⟩, .int .i64 0, .slice none 0 0, .slice none 0 0] 27)
  have HT := Lib.hid ht
  have HR0 := Lib.hid hR0
  have HW0 := Lib.hid hW0
  clear ht hR0 hW0 h
  go_enter Tryd.func45, Tryd.ntmps45
  go_upto_region 1 with fail
  obtain ⟨x0, x1, x2⟩ := HR0.out.c
  have HR0d := Lib.hid (show RdB rb tb s i (w.alloc (.cells #[.string ⟨#[]⟩, .int .i64 0, .slice none 0 0, .slice none 0 0] 27)).drew from HR0.out)
  have HNt := Lib.hid (numberTop_any t (w.alloc (.cells #[.string ⟨#[]⟩, .int .i64 0, .slice none 0 0, .slice none 0 0] 27)).drew)
  rw [HT.out] at HNt
  go_cut [6, 7, 8] from 9 to 14 (fun s6 s7 s8 wx => s6 = .int .i64 (top : Int) ∧ s7 = .int .i64 0 ∧ s8 = .int .i64 (i : Int) ∧ Hid (Quiet (w.alloc (.cells #[.string ⟨#[]⟩, .int .i64 0, .slice none 0 0, .slice none 0 0] 27)) wx))
  case first =>
    go_region_with (go_at_call 40; (with_reducible refine HNt.out.mono ?_); rintro e w' ⟨rfl, rfl⟩; go_must (skip))
    all_goals
      go_wp2
      go_meet
      exact ⟨rfl, rfl, rfl, rfl, rfl, rfl, rfl⟩
  case rest =>
    obtain ⟨rfl, rfl, rfl, HQ⟩ := hcut
    have HR1 := Lib.hid (HQ.out.rd HR0.out)
    have HW1 := Lib.hid (HW0.out.trans (HQ.out.wrote rb (rb + 1)))
    have HB1 := Lib.hid (show Blk wc w.heap.size 27 #[.string ⟨#[]⟩, .int .i64 0, .slice none 0 0, .slice none 0 0] by unfold Blk; rw [HQ.out.2.2.2]; exact HB0.out)
    clear x0 x1 x2 HR0 HR0d HNt HQ HB0 HW0
    go_wp2_with fail
    go_loopw [7] (fun s7 wr => ∃ (j n : Nat), s7 = .int .i64 (n : Int) ∧ Hid (NumAt s i top j n) ∧ Hid (RdB rb tb s (i + j) wr) ∧ Hid (Wrote rb (rb + 1) w wr) ∧ Hid (Blk wr w.heap.size 27 #[.string ⟨#[]⟩, .int .i64 0, .slice none 0 0, .slice none 0 0])) (fun _ wr => s.size - posOf rb wr)
    case atStart => exact ⟨0, 0, rfl, NumAt.start hi, HR1, HW1, HB1⟩
    case round =>
      obtain ⟨j, n, rfl, HN, HR, HW, HB⟩ := hrel
      have hle := HN.out.le
      have hfit := HN.out.fit
      have HP := Lib.hid (peek_any rb tb (i + j) s wr HR.out hle hs)
      have hpos := HR.out.pos
      have hrw := HR.out.lt
      by_cases hd : n ≤ top ∧ 48 ≤ atB s (i + j) ∧ atB s (i + j) ≤ 57
      · obtain ⟨d1, d2, d3⟩ := hd
        have HD := Lib.hid (HN.out.digit d1 ⟨d2, d3⟩)
        have c0 : (n : Int) ≤ (top : Int) := by omega
        have c1 : (48 : Int) ≤ (atB s (i + j) : Int) := by omega
        have c2 : (atB s (i + j) : Int) ≤ 57 := by omega
        have e1 : IntKind.u8.wrap ((atB s (i + j) : Int) - 48) = (atB s (i + j) : Int) - 48 := by rw [IntKind.wrap_u8]; omega
        have hlt : i + j < s.size := (atB_hit (b := atB s (i + j)) (by omega) rfl).1
        have hnn : ((n * 10 + (atB s (i + j) - 48) : Nat) : Int) = (n : Int) * 10 + ((atB s (i + j) : Int) - 48) := by omega
        go_wp2_with (first | (go_at_call 49; refine HP.out.mono ?_; rintro e w1 ⟨rfl, hq1⟩; have HQ1 := Lib.hid hq1; have HP1 := Lib.hid (peek_any rb tb (i + j) s w1 (hq1.rd HR.out) hle hs); clear hq1) | (go_at_call 49; refine HP1.out.mono ?_; rintro e w2 ⟨rfl, hq2⟩; have HQ2 := Lib.hid hq2; have HP2 := Lib.hid (peek_any rb tb (i + j) s w2 (hq2.rd (HQ1.out.rd HR.out)) hle hs); clear hq2) | (go_at_call 49; refine HP2.out.mono ?_; rintro e w3 ⟨rfl, hq3⟩; have HQ3 := Lib.hid hq3; have HR3 := Lib.hid (hq3.rd (HQ2.out.rd (HQ1.out.rd HR.out))); have x2 := HR3.out.c.2.2; have f2 := Blk.frozen HR3.out 2; clear hq3))
        have hW3 := ((HQ1.out.wrote rb (rb + 1)).trans (HQ2.out.wrote rb (rb + 1))).trans (HQ3.out.wrote rb (rb + 1))
        have HRn := Lib.hid (show RdB rb tb s (i + (j + 1)) (w3.setCell ⟨rb, 2, none⟩ (.int .i64 (((i + j : Nat) : Int) + 1))) from Blk.set_ HR3.out 2 _)
        have HWn := Lib.hid ((HW.out.trans hW3).trans (Wrote.set_ (w := w3) (b := rb) (o := 2) (Nat.le_refl rb) (Nat.lt_succ_self rb) (.int .i64 (((i + j : Nat) : Int) + 1))))
        have HBn := Lib.hid (show Blk (w3.setCell ⟨rb, 2, none⟩ (.int .i64 (((i + j : Nat) : Int) + 1))) w.heap.size 27 #[.string ⟨#[]⟩, .int .i64 0, .slice none 0 0, .slice none 0 0] from
          (Below.heap_setCell _ _ _ _ (by simp; omega)).trans ((hW3.block _ HB.out.lt (by omega)).trans HB.out))
        have hpn := HRn.out.pos
        clear hW3
        go_roundw
        case rel => exact ⟨j + 1, n * 10 + (atB s (i + j) - 48), by rw [hnn], HD, HRn, HWn, HBn⟩
        case measure =>
          show s.size - posOf rb (w3.setCell ⟨rb, 2, none⟩ (.int .i64 (((i + j : Nat) : Int) + 1))) < s.size - posOf rb wr
          rw [hpn, hpos]
          omega
      · rcases (show top < n ∨ (n ≤ top ∧ atB s (i + j) < 48) ∨ (n ≤ top ∧ 48 ≤ atB s (i + j) ∧ 57 < atB s (i + j)) by omega) with hd1 | hd1 | hd1
        · have hnt : top < n := by omega
          have hend : top < n ∨ ¬ (48 ≤ atB s (i + j) ∧ atB s (i + j) ≤ 57) := .inl hnt
          have c0 : ¬ (n : Int) ≤ (top : Int) := by omega
          have c0b : (top : Int) < (n : Int) := by omega
          have HRX := HR
          have HWX := HW
          have HBX := HB
          by_cases hj0 : j = 0
          · have hbad : j = 0 ∨ top < n ∨ (atB s i = 48 ∧ 1 < j) := .inl hj0
            have b5 : (((i + j : Nat) : Int) == (i : Int)) = true := by rw [beq_iff_eq]; omega
            have b5b : ((i : Int) + (j : Int) == (i : Int)) = true := by rw [beq_iff_eq]; omega
            clear hj0
            obtain ⟨g1, g2, g3, g4, g5⟩ := four_done (w := w) HBX.out HRX.out (by omega) HWX.out (Nat.le_refl _) (.string ⟨#[]⟩) (.int .i64 0) (.slice none 0 0) (.slice none 0 0)
            obtain ⟨z0, z1, z2, z3⟩ := g1.c2
            have HQZ := Lib.hid (show NumD rb tb s i t top w (.returned (.tuple #[.agg #[.string ⟨#[]⟩, .int .i64 0, .slice none 0 0, .slice none 0 0], .bool false])) (set4 wr w.heap.size (.string ⟨#[]⟩) (.int .i64 0) (.slice none 0 0) (.slice none 0 0)) from ⟨g3, i + j, hle, g2, .inr ⟨rfl, HN.out.bad hend hbad⟩⟩)
            obtain ⟨wF, hF⟩ : ∃ wF, wF = set4 wr w.heap.size (.string ⟨#[]⟩) (.int .i64 0) (.slice none 0 0) (.slice none 0 0) := ⟨_, rfl⟩
            rw [← hF] at z0 z1 z2 z3 HQZ
            unfold set4 at hF
            obtain ⟨x0, x1, x2⟩ := HRX.out.c
            obtain ⟨y0, y1, y2, y3⟩ := HBX.out.c2
            obtain ⟨f0, f1, f2, f3⟩ := HBX.out.f4
            clear g1 g2 g3 g4 g5
            go_wp2_with fail
            rw [← hF]
            exact bodyPost_ret (v := .tuple #[.agg #[.string ⟨#[]⟩, .int .i64 0, .slice none 0 0, .slice none 0 0], .bool false]) (by simp [results, Tryd.results45, go_sem, z0, z1, z2, z3]) rfl HQZ.out
          · have b5 : (((i + j : Nat) : Int) == (i : Int)) = false := by rw [beq_eq_false_iff_ne]; omega
            have b5b : ((i : Int) + (j : Int) == (i : Int)) = false := by rw [beq_eq_false_iff_ne]; omega
            have hj0 : 0 < j := by omega
            have hbad : j = 0 ∨ top < n ∨ (atB s i = 48 ∧ 1 < j) := .inr (.inl hnt)
            obtain ⟨g1, g2, g3, g4, g5⟩ := four_done (w := w) HBX.out HRX.out (by omega) HWX.out (Nat.le_refl _) (.string ⟨#[]⟩) (.int .i64 0) (.slice none 0 0) (.slice none 0 0)
            obtain ⟨z0, z1, z2, z3⟩ := g1.c2
            have HQZ := Lib.hid (show NumD rb tb s i t top w (.returned (.tuple #[.agg #[.string ⟨#[]⟩, .int .i64 0, .slice none 0 0, .slice none 0 0], .bool false])) (set4 wr w.heap.size (.string ⟨#[]⟩) (.int .i64 0) (.slice none 0 0) (.slice none 0 0)) from ⟨g3, i + j, hle, g2, .inr ⟨rfl, HN.out.bad hend hbad⟩⟩)
            obtain ⟨wF, hF⟩ : ∃ wF, wF = set4 wr w.heap.size (.string ⟨#[]⟩) (.int .i64 0) (.slice none 0 0) (.slice none 0 0) := ⟨_, rfl⟩
            rw [← hF] at z0 z1 z2 z3 HQZ
            unfold set4 at hF
            obtain ⟨x0, x1, x2⟩ := HRX.out.c
            obtain ⟨y0, y1, y2, y3⟩ := HBX.out.c2
            obtain ⟨f0, f1, f2, f3⟩ := HBX.out.f4
            clear g1 g2 g3 g4 g5
            go_wp2_with fail
            rw [← hF]
            exact bodyPost_ret (v := .tuple #[.agg #[.string ⟨#[]⟩, .int .i64 0, .slice none 0 0, .slice none 0 0], .bool false]) (by simp [results, Tryd.results45, go_sem, z0, z1, z2, z3]) rfl HQZ.out
        · have hnt : n ≤ top := by omega
          have hnd : ¬ (48 ≤ atB s (i + j) ∧ atB s (i + j) ≤ 57) := by omega
          have hend : top < n ∨ ¬ (48 ≤ atB s (i + j) ∧ atB s (i + j) ≤ 57) := .inr hnd
          have c0 : (n : Int) ≤ (top : Int) := by omega
          have c1 : ¬ (48 : Int) ≤ (atB s (i + j) : Int) := by omega
          by_cases hj0 : j = 0
          · have hbad : j = 0 ∨ top < n ∨ (atB s i = 48 ∧ 1 < j) := .inl hj0
            have b5 : (((i + j : Nat) : Int) == (i : Int)) = true := by rw [beq_iff_eq]; omega
            have b5b : ((i : Int) + (j : Int) == (i : Int)) = true := by rw [beq_iff_eq]; omega
            clear hj0
            go_wp2_with fail
            refine HP.out.mono ?_
            rintro e w1 ⟨rfl, hq1⟩
            have HRX := Lib.hid (hq1.rd HR.out)
            have HWX := Lib.hid (HW.out.trans (hq1.wrote rb (rb + 1)))
            have HBX := Lib.hid (show Blk w1 w.heap.size 27 #[.string ⟨#[]⟩, .int .i64 0, .slice none 0 0, .slice none 0 0] by unfold Blk; rw [hq1.2.2.2]; exact HB.out)
            clear hq1
            obtain ⟨g1, g2, g3, g4, g5⟩ := four_done (w := w) HBX.out HRX.out (by omega) HWX.out (Nat.le_refl _) (.string ⟨#[]⟩) (.int .i64 0) (.slice none 0 0) (.slice none 0 0)
            obtain ⟨z0, z1, z2, z3⟩ := g1.c2
            have HQZ := Lib.hid (show NumD rb tb s i t top w (.returned (.tuple #[.agg #[.string ⟨#[]⟩, .int .i64 0, .slice none 0 0, .slice none 0 0], .bool false])) (set4 w1 w.heap.size (.string ⟨#[]⟩) (.int .i64 0) (.slice none 0 0) (.slice none 0 0)) from ⟨g3, i + j, hle, g2, .inr ⟨rfl, HN.out.bad hend hbad⟩⟩)
            obtain ⟨wF, hF⟩ : ∃ wF, wF = set4 w1 w.heap.size (.string ⟨#[]⟩) (.int .i64 0) (.slice none 0 0) (.slice none 0 0) := ⟨_, rfl⟩
            rw [← hF] at z0 z1 z2 z3 HQZ
            unfold set4 at hF
            obtain ⟨x0, x1, x2⟩ := HRX.out.c
            obtain ⟨y0, y1, y2, y3⟩ := HBX.out.c2
            obtain ⟨f0, f1, f2, f3⟩ := HBX.out.f4
            clear g1 g2 g3 g4 g5
            go_wp2_with fail
            rw [← hF]
            exact bodyPost_ret (v := .tuple #[.agg #[.string ⟨#[]⟩, .int .i64 0, .slice none 0 0, .slice none 0 0], .bool false]) (by simp [results, Tryd.results45, go_sem, z0, z1, z2, z3]) rfl HQZ.out
          · have b5 : (((i + j : Nat) : Int) == (i : Int)) = false := by rw [beq_eq_false_iff_ne]; omega
            have b5b : ((i : Int) + (j : Int) == (i : Int)) = false := by rw [beq_eq_false_iff_ne]; omega
            have hj0 : 0 < j := by omega
            have hnt2 : ¬ (top : Int) < (n : Int) := by omega
            have hil : i < s.size := by omega
            have hat : atB s i = (s[i]'hil).toNat := by unfold atB; rw [dif_pos hil]
            by_cases h48 : atB s i = 48
            · have b6 : (((s[i]'hil).toNat : Int) == 48) = true := by rw [beq_iff_eq]; omega
              by_cases hj1 : 1 < j
              · have hbad : j = 0 ∨ top < n ∨ (atB s i = 48 ∧ 1 < j) := .inr (.inr ⟨h48, hj1⟩)
                have b7 : (i : Int) + 1 < (i : Int) + (j : Int) := by omega
                go_wp2_with fail
                refine HP.out.mono ?_
                rintro e w1 ⟨rfl, hq1⟩
                have HRX := Lib.hid (hq1.rd HR.out)
                have HWX := Lib.hid (HW.out.trans (hq1.wrote rb (rb + 1)))
                have HBX := Lib.hid (show Blk w1 w.heap.size 27 #[.string ⟨#[]⟩, .int .i64 0, .slice none 0 0, .slice none 0 0] by unfold Blk; rw [hq1.2.2.2]; exact HB.out)
                clear hq1
                obtain ⟨g1, g2, g3, g4, g5⟩ := four_done (w := w) HBX.out HRX.out (by omega) HWX.out (Nat.le_refl _) (.string ⟨#[]⟩) (.int .i64 0) (.slice none 0 0) (.slice none 0 0)
                obtain ⟨z0, z1, z2, z3⟩ := g1.c2
                have HQZ := Lib.hid (show NumD rb tb s i t top w (.returned (.tuple #[.agg #[.string ⟨#[]⟩, .int .i64 0, .slice none 0 0, .slice none 0 0], .bool false])) (set4 w1 w.heap.size (.string ⟨#[]⟩) (.int .i64 0) (.slice none 0 0) (.slice none 0 0)) from ⟨g3, i + j, hle, g2, .inr ⟨rfl, HN.out.bad hend hbad⟩⟩)
                obtain ⟨wF, hF⟩ : ∃ wF, wF = set4 w1 w.heap.size (.string ⟨#[]⟩) (.int .i64 0) (.slice none 0 0) (.slice none 0 0) := ⟨_, rfl⟩
                rw [← hF] at z0 z1 z2 z3 HQZ
                unfold set4 at hF
                obtain ⟨x0, x1, x2⟩ := HRX.out.c
                obtain ⟨y0, y1, y2, y3⟩ := HBX.out.c2
                obtain ⟨f0, f1, f2, f3⟩ := HBX.out.f4
                clear g1 g2 g3 g4 g5
                go_wp2_with fail
                rw [← hF]
                exact bodyPost_ret (v := .tuple #[.agg #[.string ⟨#[]⟩, .int .i64 0, .slice none 0 0, .slice none 0 0], .bool false]) (by simp [results, Tryd.results45, go_sem, z0, z1, z2, z3]) rfl HQZ.out
              · have hz : ¬ (atB s i = 48 ∧ 1 < j) := fun h => hj1 h.2
                have b7 : ¬ (i : Int) + 1 < (i : Int) + (j : Int) := by omega
                go_wp2_with fail
                refine HP.out.mono ?_
                rintro e w1 ⟨rfl, hq1⟩
                have HRX := Lib.hid (hq1.rd HR.out)
                have HWX := Lib.hid (HW.out.trans (hq1.wrote rb (rb + 1)))
                have HBX := Lib.hid (show Blk w1 w.heap.size 27 #[.string ⟨#[]⟩, .int .i64 0, .slice none 0 0, .slice none 0 0] by unfold Blk; rw [hq1.2.2.2]; exact HB.out)
                clear hq1
                obtain ⟨g1, g2, g3, g4, g5⟩ := four_done (w := w) HBX.out HRX.out (by omega) HWX.out (Nat.le_refl _) (.string t) (.int .i64 (n : Int)) (.slice none 0 0) (.slice none 0 0)
                obtain ⟨z0, z1, z2, z3⟩ := g1.c2
                have HQZ := Lib.hid (show NumD rb tb s i t top w (.returned (.tuple #[.agg #[.string t, .int .i64 (n : Int), .slice none 0 0, .slice none 0 0], .bool true])) (set4 w1 w.heap.size (.string t) (.int .i64 (n : Int)) (.slice none 0 0) (.slice none 0 0)) from ⟨g3, i + j, hle, g2, .inl ⟨n, hnt, rfl, HN.out.good hj0 hz, ends_at hnd⟩⟩)
                obtain ⟨wF, hF⟩ : ∃ wF, wF = set4 w1 w.heap.size (.string t) (.int .i64 (n : Int)) (.slice none 0 0) (.slice none 0 0) := ⟨_, rfl⟩
                rw [← hF] at z0 z1 z2 z3 HQZ
                unfold set4 at hF
                obtain ⟨x0, x1, x2⟩ := HRX.out.c
                obtain ⟨y0, y1, y2, y3⟩ := HBX.out.c2
                obtain ⟨f0, f1, f2, f3⟩ := HBX.out.f4
                clear g1 g2 g3 g4 g5
                go_wp2_with fail
                rw [← hF]
                exact bodyPost_ret (v := .tuple #[.agg #[.string t, .int .i64 (n : Int), .slice none 0 0, .slice none 0 0], .bool true]) (by simp [results, Tryd.results45, go_sem, z0, z1, z2, z3]) rfl HQZ.out
            · have hz : ¬ (atB s i = 48 ∧ 1 < j) := fun h => h48 h.1
              have b6 : (((s[i]'hil).toNat : Int) == 48) = false := by rw [beq_eq_false_iff_ne]; omega
              go_wp2_with fail
              refine HP.out.mono ?_
              rintro e w1 ⟨rfl, hq1⟩
              have HRX := Lib.hid (hq1.rd HR.out)
              have HWX := Lib.hid (HW.out.trans (hq1.wrote rb (rb + 1)))
              have HBX := Lib.hid (show Blk w1 w.heap.size 27 #[.string ⟨#[]⟩, .int .i64 0, .slice none 0 0, .slice none 0 0] by unfold Blk; rw [hq1.2.2.2]; exact HB.out)
              clear hq1
              obtain ⟨g1, g2, g3, g4, g5⟩ := four_done (w := w) HBX.out HRX.out (by omega) HWX.out (Nat.le_refl _) (.string t) (.int .i64 (n : Int)) (.slice none 0 0) (.slice none 0 0)
              obtain ⟨z0, z1, z2, z3⟩ := g1.c2
              have HQZ := Lib.hid (show NumD rb tb s i t top w (.returned (.tuple #[.agg #[.string t, .int .i64 (n : Int), .slice none 0 0, .slice none 0 0], .bool true])) (set4 w1 w.heap.size (.string t) (.int .i64 (n : Int)) (.slice none 0 0) (.slice none 0 0)) from ⟨g3, i + j, hle, g2, .inl ⟨n, hnt, rfl, HN.out.good hj0 hz, ends_at hnd⟩⟩)
              obtain ⟨wF, hF⟩ : ∃ wF, wF = set4 w1 w.heap.size (.string t) (.int .i64 (n : Int)) (.slice none 0 0) (.slice none 0 0) := ⟨_, rfl⟩
              rw [← hF] at z0 z1 z2 z3 HQZ
              unfold set4 at hF
              obtain ⟨x0, x1, x2⟩ := HRX.out.c
              obtain ⟨y0, y1, y2, y3⟩ := HBX.out.c2
              obtain ⟨f0, f1, f2, f3⟩ := HBX.out.f4
              clear g1 g2 g3 g4 g5
              go_wp2_with fail
              rw [← hF]
              exact bodyPost_ret (v := .tuple #[.agg #[.string t, .int .i64 (n : Int), .slice none 0 0, .slice none 0 0], .bool true]) (by simp [results, Tryd.results45, go_sem, z0, z1, z2, z3]) rfl HQZ.out
        · have hnt : n ≤ top := by omega
          have hnd : ¬ (48 ≤ atB s (i + j) ∧ atB s (i + j) ≤ 57) := by omega
          have hend : top < n ∨ ¬ (48 ≤ atB s (i + j) ∧ atB s (i + j) ≤ 57) := .inr hnd
          have c0 : (n : Int) ≤ (top : Int) := by omega
          have c1 : (48 : Int) ≤ (atB s (i + j) : Int) := by omega
          have c2 : ¬ (atB s (i + j) : Int) ≤ 57 := by omega
          by_cases hj0 : j = 0
          · have hbad : j = 0 ∨ top < n ∨ (atB s i = 48 ∧ 1 < j) := .inl hj0
            have b5 : (((i + j : Nat) : Int) == (i : Int)) = true := by rw [beq_iff_eq]; omega
            have b5b : ((i : Int) + (j : Int) == (i : Int)) = true := by rw [beq_iff_eq]; omega
            clear hj0
            go_wp2_with fail
            refine HP.out.mono ?_
            rintro e w1 ⟨rfl, hq1⟩
            have HP1 := Lib.hid (peek_any rb tb (i + j) s w1 (hq1.rd HR.out) hle hs)
            have HQ1 := Lib.hid hq1
            clear hq1
            go_wp2_with fail
            refine HP1.out.mono ?_
            rintro e w2 ⟨rfl, hq2⟩
            have HRX := Lib.hid (hq2.rd (HQ1.out.rd HR.out))
            have HWX := Lib.hid ((HW.out.trans (HQ1.out.wrote rb (rb + 1))).trans (hq2.wrote rb (rb + 1)))
            have HBX := Lib.hid (show Blk w2 w.heap.size 27 #[.string ⟨#[]⟩, .int .i64 0, .slice none 0 0, .slice none 0 0] by unfold Blk; rw [hq2.2.2.2, HQ1.out.2.2.2]; exact HB.out)
            clear hq2
            obtain ⟨g1, g2, g3, g4, g5⟩ := four_done (w := w) HBX.out HRX.out (by omega) HWX.out (Nat.le_refl _) (.string ⟨#[]⟩) (.int .i64 0) (.slice none 0 0) (.slice none 0 0)
            obtain ⟨z0, z1, z2, z3⟩ := g1.c2
            have HQZ := Lib.hid (show NumD rb tb s i t top w (.returned (.tuple #[.agg #[.string ⟨#[]⟩, .int .i64 0, .slice none 0 0, .slice none 0 0], .bool false])) (set4 w2 w.heap.size (.string ⟨#[]⟩) (.int .i64 0) (.slice none 0 0) (.slice none 0 0)) from ⟨g3, i + j, hle, g2, .inr ⟨rfl, HN.out.bad hend hbad⟩⟩)
            obtain ⟨wF, hF⟩ : ∃ wF, wF = set4 w2 w.heap.size (.string ⟨#[]⟩) (.int .i64 0) (.slice none 0 0) (.slice none 0 0) := ⟨_, rfl⟩
            rw [← hF] at z0 z1 z2 z3 HQZ
            unfold set4 at hF
            obtain ⟨x0, x1, x2⟩ := HRX.out.c
            obtain ⟨y0, y1, y2, y3⟩ := HBX.out.c2
            obtain ⟨f0, f1, f2, f3⟩ := HBX.out.f4
            clear g1 g2 g3 g4 g5
            go_wp2_with fail
            rw [← hF]
            exact bodyPost_ret (v := .tuple #[.agg #[.string ⟨#[]⟩, .int .i64 0, .slice none 0 0, .slice none 0 0], .bool false]) (by simp [results, Tryd.results45, go_sem, z0, z1, z2, z3]) rfl HQZ.out
          · have b5 : (((i + j : Nat) : Int) == (i : Int)) = false := by rw [beq_eq_false_iff_ne]; omega
            have b5b : ((i : Int) + (j : Int) == (i : Int)) = false := by rw [beq_eq_false_iff_ne]; omega
            have hj0 : 0 < j := by omega
            have hnt2 : ¬ (top : Int) < (n : Int) := by omega
            have hil : i < s.size := by omega
            have hat : atB s i = (s[i]'hil).toNat := by unfold atB; rw [dif_pos hil]
            by_cases h48 : atB s i = 48
            · have b6 : (((s[i]'hil).toNat : Int) == 48) = true := by rw [beq_iff_eq]; omega
              by_cases hj1 : 1 < j
              · have hbad : j = 0 ∨ top < n ∨ (atB s i = 48 ∧ 1 < j) := .inr (.inr ⟨h48, hj1⟩)
                have b7 : (i : Int) + 1 < (i : Int) + (j : Int) := by omega
                go_wp2_with fail
                refine HP.out.mono ?_
                rintro e w1 ⟨rfl, hq1⟩
                have HP1 := Lib.hid (peek_any rb tb (i + j) s w1 (hq1.rd HR.out) hle hs)
                have HQ1 := Lib.hid hq1
                clear hq1
                go_wp2_with fail
                refine HP1.out.mono ?_
                rintro e w2 ⟨rfl, hq2⟩
                have HRX := Lib.hid (hq2.rd (HQ1.out.rd HR.out))
                have HWX := Lib.hid ((HW.out.trans (HQ1.out.wrote rb (rb + 1))).trans (hq2.wrote rb (rb + 1)))
                have HBX := Lib.hid (show Blk w2 w.heap.size 27 #[.string ⟨#[]⟩, .int .i64 0, .slice none 0 0, .slice none 0 0] by unfold Blk; rw [hq2.2.2.2, HQ1.out.2.2.2]; exact HB.out)
                clear hq2
                obtain ⟨g1, g2, g3, g4, g5⟩ := four_done (w := w) HBX.out HRX.out (by omega) HWX.out (Nat.le_refl _) (.string ⟨#[]⟩) (.int .i64 0) (.slice none 0 0) (.slice none 0 0)
                obtain ⟨z0, z1, z2, z3⟩ := g1.c2
                have HQZ := Lib.hid (show NumD rb tb s i t top w (.returned (.tuple #[.agg #[.string ⟨#[]⟩, .int .i64 0, .slice none 0 0, .slice none 0 0], .bool false])) (set4 w2 w.heap.size (.string ⟨#[]⟩) (.int .i64 0) (.slice none 0 0) (.slice none 0 0)) from ⟨g3, i + j, hle, g2, .inr ⟨rfl, HN.out.bad hend hbad⟩⟩)
                obtain ⟨wF, hF⟩ : ∃ wF, wF = set4 w2 w.heap.size (.string ⟨#[]⟩) (.int .i64 0) (.slice none 0 0) (.slice none 0 0) := ⟨_, rfl⟩
                rw [← hF] at z0 z1 z2 z3 HQZ
                unfold set4 at hF
                obtain ⟨x0, x1, x2⟩ := HRX.out.c
                obtain ⟨y0, y1, y2, y3⟩ := HBX.out.c2
                obtain ⟨f0, f1, f2, f3⟩ := HBX.out.f4
                clear g1 g2 g3 g4 g5
                go_wp2_with fail
                rw [← hF]
                exact bodyPost_ret (v := .tuple #[.agg #[.string ⟨#[]⟩, .int .i64 0, .slice none 0 0, .slice none 0 0], .bool false]) (by simp [results, Tryd.results45, go_sem, z0, z1, z2, z3]) rfl HQZ.out
              · have hz : ¬ (atB s i = 48 ∧ 1 < j) := fun h => hj1 h.2
                have b7 : ¬ (i : Int) + 1 < (i : Int) + (j : Int) := by omega
                go_wp2_with fail
                refine HP.out.mono ?_
                rintro e w1 ⟨rfl, hq1⟩
                have HP1 := Lib.hid (peek_any rb tb (i + j) s w1 (hq1.rd HR.out) hle hs)
                have HQ1 := Lib.hid hq1
                clear hq1
                go_wp2_with fail
                refine HP1.out.mono ?_
                rintro e w2 ⟨rfl, hq2⟩
                have HRX := Lib.hid (hq2.rd (HQ1.out.rd HR.out))
                have HWX := Lib.hid ((HW.out.trans (HQ1.out.wrote rb (rb + 1))).trans (hq2.wrote rb (rb + 1)))
                have HBX := Lib.hid (show Blk w2 w.heap.size 27 #[.string ⟨#[]⟩, .int .i64 0, .slice none 0 0, .slice none 0 0] by unfold Blk; rw [hq2.2.2.2, HQ1.out.2.2.2]; exact HB.out)
                clear hq2
                obtain ⟨g1, g2, g3, g4, g5⟩ := four_done (w := w) HBX.out HRX.out (by omega) HWX.out (Nat.le_refl _) (.string t) (.int .i64 (n : Int)) (.slice none 0 0) (.slice none 0 0)
                obtain ⟨z0, z1, z2, z3⟩ := g1.c2
                have HQZ := Lib.hid (show NumD rb tb s i t top w (.returned (.tuple #[.agg #[.string t, .int .i64 (n : Int), .slice none 0 0, .slice none 0 0], .bool true])) (set4 w2 w.heap.size (.string t) (.int .i64 (n : Int)) (.slice none 0 0) (.slice none 0 0)) from ⟨g3, i + j, hle, g2, .inl ⟨n, hnt, rfl, HN.out.good hj0 hz, ends_at hnd⟩⟩)
                obtain ⟨wF, hF⟩ : ∃ wF, wF = set4 w2 w.heap.size (.string t) (.int .i64 (n : Int)) (.slice none 0 0) (.slice none 0 0) := ⟨_, rfl⟩
                rw [← hF] at z0 z1 z2 z3 HQZ
                unfold set4 at hF
                obtain ⟨x0, x1, x2⟩ := HRX.out.c
                obtain ⟨y0, y1, y2, y3⟩ := HBX.out.c2
                obtain ⟨f0, f1, f2, f3⟩ := HBX.out.f4
                clear g1 g2 g3 g4 g5
                go_wp2_with fail
                rw [← hF]
                exact bodyPost_ret (v := .tuple #[.agg #[.string t, .int .i64 (n : Int), .slice none 0 0, .slice none 0 0], .bool true]) (by simp [results, Tryd.results45, go_sem, z0, z1, z2, z3]) rfl HQZ.out
            · have hz : ¬ (atB s i = 48 ∧ 1 < j) := fun h => h48 h.1
              have b6 : (((s[i]'hil).toNat : Int) == 48) = false := by rw [beq_eq_false_iff_ne]; omega
              go_wp2_with fail
              refine HP.out.mono ?_
              rintro e w1 ⟨rfl, hq1⟩
              have HP1 := Lib.hid (peek_any rb tb (i + j) s w1 (hq1.rd HR.out) hle hs)
              have HQ1 := Lib.hid hq1
              clear hq1
              go_wp2_with fail
              refine HP1.out.mono ?_
              rintro e w2 ⟨rfl, hq2⟩
              have HRX := Lib.hid (hq2.rd (HQ1.out.rd HR.out))
              have HWX := Lib.hid ((HW.out.trans (HQ1.out.wrote rb (rb + 1))).trans (hq2.wrote rb (rb + 1)))
              have HBX := Lib.hid (show Blk w2 w.heap.size 27 #[.string ⟨#[]⟩, .int .i64 0, .slice none 0 0, .slice none 0 0] by unfold Blk; rw [hq2.2.2.2, HQ1.out.2.2.2]; exact HB.out)
              clear hq2
              obtain ⟨g1, g2, g3, g4, g5⟩ := four_done (w := w) HBX.out HRX.out (by omega) HWX.out (Nat.le_refl _) (.string t) (.int .i64 (n : Int)) (.slice none 0 0) (.slice none 0 0)
              obtain ⟨z0, z1, z2, z3⟩ := g1.c2
              have HQZ := Lib.hid (show NumD rb tb s i t top w (.returned (.tuple #[.agg #[.string t, .int .i64 (n : Int), .slice none 0 0, .slice none 0 0], .bool true])) (set4 w2 w.heap.size (.string t) (.int .i64 (n : Int)) (.slice none 0 0) (.slice none 0 0)) from ⟨g3, i + j, hle, g2, .inl ⟨n, hnt, rfl, HN.out.good hj0 hz, ends_at hnd⟩⟩)
              obtain ⟨wF, hF⟩ : ∃ wF, wF = set4 w2 w.heap.size (.string t) (.int .i64 (n : Int)) (.slice none 0 0) (.slice none 0 0) := ⟨_, rfl⟩
              rw [← hF] at z0 z1 z2 z3 HQZ
              unfold set4 at hF
              obtain ⟨x0, x1, x2⟩ := HRX.out.c
              obtain ⟨y0, y1, y2, y3⟩ := HBX.out.c2
              obtain ⟨f0, f1, f2, f3⟩ := HBX.out.f4
              clear g1 g2 g3 g4 g5
              go_wp2_with fail
              rw [← hF]
              exact bodyPost_ret (v := .tuple #[.agg #[.string t, .int .i64 (n : Int), .slice none 0 0, .slice none 0 0], .bool true]) (by simp [results, Tryd.results45, go_sem, z0, z1, z2, z3]) rfl HQZ.out
end Go.Proofs.YtelhjdccfomafaaDoor
