/- What is drawn for the law of KindsBad. -/
import Derived.Test.YtelhjdccfomafaaFkb
namespace Go.Proofs.Ytelhjdccfomafaa
open Go.ChangeShapes Go.WideShapes Go.ChangeAt Go.RowKit Go.Deep

/-- What is known of drawn kinds, a row of n modules at block a. -/
structure KB (g : Nat) (W0 : World) (a c n : Nat) (kv : List (Value × List Rec)) (w : World) : Prop where
  len : kv.length = n
  few : ∀ y ∈ kv, y.2.length ≤ 3
  rows : Rows3 W0.heap.size a c kv w
  step : Step g 0 400 W0 w
theorem KB.go {g : Nat} {W0 w w' : World} {a c n : Nat} {kv : List (Value × List Rec)} (h : KB g W0 a c n kv w) (hg : g < W0.heap.size) (hs : Step g 0 400 W0 w') (hb : w.grownBy w' (some g)) : KB g W0 a c n kv w' :=
  ⟨h.len, h.few, h.rows.keep hb.size fun i hi hw => hb.block i hw (by simp; omega), hs⟩
theorem KB.out {g : Nat} {w W0 w' : World} {a c n : Nat} {kv : List (Value × List Rec)} (h : KB g W0 a c n kv w') (hg : w.heap.size ≤ g) (hW : Below w.heap.size w W0) : DrawnKs w (.returned (.slice (some ⟨a, 0, none⟩) n c)) w' := by
  refine ⟨a, c, kv.map Prod.snd, by rw [List.length_map, h.len], h.rows.sl.mono fun b hb => ⟨by have := hW.size; have := hb.1; omega, hb.2⟩, ?_⟩
  exact hW.trans (below_grown h.step.grown hg hW.size)

set_option maxRecDepth 100000 in
set_option maxHeartbeats 8000000 in
theorem drawKindsBad_any (F : Nat → Prop) (v : Value) (xs : List Nat) (w : World) (hv : Cod.u8.Sl F w v xs) (hF : ∀ b, F b → b < w.heap.size) :
    Calls Try.prog 6 #[v] w (DrawnKs w) := by
  go_enter Try.func6, Try.ntmps6
  go_wp2_with fail
  refine (open_any F v xs w hv hF).mono ?_
  rintro e w1 ⟨g, rfl, hg, hr, hb⟩
  have HR := Lib.hid hr
  have HB := Lib.hid hb
  have hgl := hr.lt
  clear hr hb
  go_wp2_with fail
  refine (kindsF_any g 0 w1 HR.out (by omega)).mono ?_
  rintro e w2 ⟨ad, cap, ks, rfl, h3, h4, hs, hst, he, how, hfs⟩
  obtain ⟨kvs, hkm, hrw⟩ := Rows3.of how hfs
  obtain ⟨n, hn⟩ : ∃ n, n = ks.length := ⟨_, rfl⟩
  rw [← hn]
  have hln : kvs.length = n := by rw [hn, ← hkm, List.length_map]
  have hn3 : n ≤ 3 := by omega
  have HK2 := Lib.hid (show KB g w1 ad cap n kvs w2 from ⟨hln, fun y hy => h4 _ (by rw [← hkm]; exact List.mem_map_of_mem hy), hrw, hst.more (by omega)⟩)
  have HS2 := Lib.hid (show Step g 0 300 w1 w2 from hst)
  clear h3 h4 hs hst he how hfs hkm hrw hn hln
  have HC := Lib.hid (pick_at (n := 15) HS2.out (by omega) (by omega))
  go_upto_if 11 with (go_at_call 19; refine HC.out.mono ?_; rintro e w3 ⟨k, rfl, hk, hS3, hg3⟩)
  have HK3 := Lib.hid (HK2.out.go hgl (hS3.more (by omega)) hg3)
  have HS3 := Lib.hid hS3
  clear hk hS3 hg3 HC HK2 HS2
  go_cut [4] (fun s4 wx => ∃ (a c n : Nat) (kv : List (Value × List Rec)), s4 = .slice (some ⟨a, 0, none⟩) n c ∧ n ≤ 7 ∧ Hid (KB g w1 a c n kv wx) ∧ Hid (Step g 0 301 w1 wx))
  case first =>
    by_cases hk0 : k = 0
    · have b1 : ((k : Int) == 0) = true := by rw [beq_iff_eq]; omega
      obtain ⟨w4, hw4⟩ : ∃ w4, w4 = w3.alloc (.cells #[.slice none 0 0, .slice none 0 0, .slice none 0 0, .slice none 0 0] 44) := ⟨_, rfl⟩
      have hb4 : Below w3.heap.size w3 w4 := by rw [hw4]; exact (Below.refl _ _).alloc (Nat.le_refl _) _
      have hB4 : Blk w4 w3.heap.size 44 #[.slice none 0 0, .slice none 0 0, .slice none 0 0, .slice none 0 0] := by rw [hw4]; exact Blk.new _ _ _
      have hge := HK3.out.rows.own.ge
      have h13 := HS3.out.size
      obtain ⟨g5, c5, w5, happ, hrw5, hg5⟩ := (HK3.out.rows.keep (w' := w4) hb4.size fun i _ hw => hb4.block i hw).push4 (by have := HK3.out.len; omega) (by have := hb4.size; omega) hB4 hge.2
      rw [HK3.out.len] at happ
      have hb35 : Below w1.heap.size w3 w5 := (hb4.mono h13).trans (grown_below_none hg5 (by have := hb4.size; omega) (by intro k hk; cases hk; exact hge.1))
      have HQ := Lib.hid (show KB g w1 g5 c5 (n + 4) (kvs ++ nils4) w5 from ⟨by have := HK3.out.len; simp [nils4]; omega, fun y hy => by
        rcases List.mem_append.1 hy with hy | hy
        · exact HK3.out.few y hy
        · rw [nils4_all y hy]; exact Nat.zero_le _, hrw5, (HS3.out.far (Nat.le_refl _) hgl hb35).more (by omega)⟩)
      have HSQ := Lib.hid (HS3.out.far (Nat.le_refl _) hgl hb35)
      subst hw4
      clear hb4 hB4 hge h13 hrw5 hg5 hb35 hk0
      go_wp2_with (at_builtin; refine wpList_append_run rfl _ _ _ rfl rfl rfl happ ?_)
      go_meet
      exact ⟨g5, c5, n + 4, _, rfl, by omega, HQ, HSQ.out.more (by omega)⟩
    · have b1 : ((k : Int) == 0) = false := by rw [beq_eq_false_iff_ne]; omega
      go_wp2_with fail
      go_meet
      exact ⟨ad, cap, n, kvs, rfl, by omega, HK3, HS3.out.more (by omega)⟩
  case rest =>
    obtain ⟨a, c, n, kv, rfl, hn7, HKc, HSc⟩ := hcut
    clear HK3 HS3 hn3
    have HC := Lib.hid (pick_at (n := 10) HSc.out (by omega) (by omega))
    go_wp2_with fail
    refine HC.out.mono ?_
    rintro e w6 ⟨k6, rfl, hk6, hS6, hg6⟩
    have HK6 := Lib.hid (HKc.out.go hgl (hS6.more (by omega)) hg6)
    have HS6 := Lib.hid hS6
    clear hk6 hS6 hg6 HC HKc HSc
    by_cases hk0 : k6 = 0
    case neg =>
      have b1 : ((k6 : Int) == 0) = false := by rw [beq_eq_false_iff_ne]; omega
      have HQ := Lib.hid (HK6.out.out hg HB.out)
      go_wp2
      go_ret
      exact HQ.out
    case pos =>
      have b1 : ((k6 : Int) == 0) = true := by rw [beq_iff_eq]; omega
      by_cases hn0 : 0 < n
      case neg =>
        have b2 : decide ((0 : Int) < (n : Int)) = false := by rw [decide_eq_false_iff_not]; omega
        have HQ := Lib.hid (HK6.out.out hg HB.out)
        go_wp2
        go_ret
        exact HQ.out
      case pos =>
        have b2 : decide ((0 : Int) < (n : Int)) = true := by rw [decide_eq_true_eq]; omega
        obtain ⟨⟨v0, rs0⟩, rest, rfl⟩ : ∃ y rest, kv = y :: rest := by
          cases kv with
          | nil => have := HK6.out.len; simp at this; omega
          | cons y rest => exact ⟨y, rest, rfl⟩
        have hl0 : rs0.length ≤ 3 := HK6.out.few (v0, rs0) (by simp)
        obtain ⟨A0, c0, rfl⟩ : ∃ A0 c0, v0 = .slice A0 rs0.length c0 := by
          obtain ⟨_, _, _, _, _, _, h5, _⟩ := HK6.out.rows.fst v0 rs0 rest rfl
          obtain ⟨A0, c0, h, _⟩ := h5.sl (Nat.le_refl _)
          exact ⟨A0, c0, h⟩
        have hge := HK6.out.rows.own.ge
        have hz6 := HS6.out.size
        have x6 := (cellv_at HK6.out.rows.own (Nat.le_refl _) (i := 0) (y := (.slice A0 rs0.length c0, rs0)) rfl).1
        have HSl6 := Lib.hid (show Cod.recs.Sl (fun b => w1.heap.size ≤ b ∧ b < w6.heap.size) w6 (.slice (some ⟨a, 0, none⟩) n c) ((((.slice A0 rs0.length c0, rs0) :: rest) : List (Value × List Rec)).map Prod.snd) by have := HK6.out.rows.sl; rwa [List.length_map, HK6.out.len] at this)
        have Hks1 := Lib.hid (show ((((.slice A0 rs0.length c0, rs0) :: rest) : List (Value × List Rec)).map Prod.snd).length ≤ 10 by rw [List.length_map, HK6.out.len]; omega)
        have Hks2 := Lib.hid (show ∀ r ∈ (((.slice A0 rs0.length c0, rs0) :: rest) : List (Value × List Rec)).map Prod.snd, r.length ≤ 10 from fun r hr => by
          obtain ⟨y, hy, rfl⟩ := List.mem_map.1 hr
          have := HK6.out.few y hy; omega)
        generalize (((.slice A0 rs0.length c0, rs0) :: rest) : List (Value × List Rec)).map Prod.snd = ks at *
        have HD6 := Lib.hid (show Step g 0 302 w1 w6.drew from HS6.out.below (below_drewN (Below.refl _ _) 1))
        have HC1 := Lib.hid (record_step (F := fun b => w1.heap.size ≤ b ∧ b < w6.heap.size) (v := .slice (some ⟨a, 0, none⟩) n c) (ks := ks) (w0 := w1) (w := w6.drew) HD6.out (by omega) (Cod.Sl.keep (w := w6) (w' := w6.drew) (fun _ _ => rfl) HSl6.out) (fun b hb => ⟨hb.2, by omega⟩) Hks1.out Hks2.out)
        have HZ := Lib.hid (show w.heap.size ≤ g ∧ Below w.heap.size w w1 from ⟨hg, HB.out⟩)
        have HP1 := Lib.hid (show ∀ w7 : World, Step g 0 (302 + 30) w1 w7 → w6.drew.grownBy w7 (some g) → w7.cell? ⟨a, 0, none⟩ = some (.slice A0 rs0.length c0) ∧ a < w7.heap.size ∧
            Calls Try.prog 20 #[.pointer (some ⟨g, 0, none⟩), .slice (some ⟨a, 0, none⟩) n c] w7 (RecS g 0 (302 + 30) ks w1 w7) from fun w7 hS hG => by
          have hk : ∀ b, w1.heap.size ≤ b → b < w6.heap.size → w7.heap[b]? = w6.heap[b]? := fun b h1 h2 => hG.block b h2 (by simp; omega)
          have hz : w6.heap.size ≤ w7.heap.size := hG.size
          refine ⟨(World.cell?_of_block (a := ⟨a, 0, none⟩) (hk a hge.1 hge.2)).trans x6, by have := hge.2; omega, ?_⟩
          exact record_step (F := fun b => w1.heap.size ≤ b ∧ b < w6.heap.size) hS (by omega) (HSl6.out.keep fun b (hb : w1.heap.size ≤ b ∧ b < w6.heap.size) => hk b hb.1 hb.2) (fun b (hb : w1.heap.size ≤ b ∧ b < w6.heap.size) => ⟨by have := hb.2; omega, by have := hb.1; omega⟩) Hks1.out Hks2.out)
        have HP2 := Lib.hid (show ∀ (w7 w8 : World) (ab1 : Int) (A1 : Option Addr) (c1 : Nat) (fs1 : List ByteArray) (ab2 : Int) (A2 : Option Addr) (c2 : Nat) (fs2 : List ByteArray), I64 ab1 → I64 ab2 → Cod.str.Sl (Fresh w6.drew w7) w7 (.slice A1 fs1.length c1) fs1 → Cod.str.Sl (Fresh w7 w8) w8 (.slice A2 fs2.length c2) fs2 →
            w6.drew.grownBy w7 (some g) → w7.grownBy w8 (some g) → Step g 0 (302 + 30 + 30) w1 w8 → ∃ g9 c9 w9, (Builtin.append_ #[44, 44] 44 #[.slice A0 rs0.length c0, .slice (some ⟨w8.heap.size, 0, none⟩) 2 2]).run Try.prog (w8.alloc (.cells #[.int .i64 ab1, .slice A1 fs1.length c1, .int .i64 ab2, .slice A2 fs2.length c2] 47)) = .ok (.slice (some ⟨g9, 0, none⟩) (rs0.length + 2) c9) w9 ∧
            (w9.frozen? ⟨a, 0, none⟩ = false ∧ w9.cell? ⟨a, 0, none⟩ = some (.slice A0 rs0.length c0)) ∧ a < w9.heap.size ∧ (w8.cell? ⟨a, 0, none⟩ = some (.slice A0 rs0.length c0) ∧ a < w8.heap.size) ∧ DrawnKs w (.returned (.slice (some ⟨a, 0, none⟩) n c)) (w9.setCell ⟨a, 0, none⟩ (.slice (some ⟨g9, 0, none⟩) (rs0.length + 2) c9)) from fun w7 w8 ab1 A1 c1 fs1 ab2 A2 c2 fs2 hI1 hI2 hf1 hf2 hG7 hG8 hS8 => by
          have hk7 : ∀ b, w1.heap.size ≤ b → b < w6.heap.size → w7.heap[b]? = w6.heap[b]? := fun b h1 h2 => hG7.block b h2 (by simp; omega)
          have hz7 : w6.heap.size ≤ w7.heap.size := hG7.size
          have hz8 := hG8.size
          have hk8 : ∀ b, w1.heap.size ≤ b → b < w7.heap.size → w8.heap[b]? = w7.heap[b]? := fun b h1 h2 => hG8.block b h2 (by simp; omega)
          obtain ⟨wA, hwA⟩ : ∃ wA, wA = w8.alloc (.cells #[.int .i64 ab1, .slice A1 fs1.length c1, .int .i64 ab2, .slice A2 fs2.length c2] 47) := ⟨_, rfl⟩
          have hbA : Below w8.heap.size w8 wA := by rw [hwA]; exact (Below.refl _ _).alloc (Nat.le_refl _) _
          have hBA : Blk wA w8.heap.size 47 #[.int .i64 ab1, .slice A1 fs1.length c1, .int .i64 ab2, .slice A2 fs2.length c2] := by rw [hwA]; exact Blk.new _ _ _
          have hzA := hbA.size
          have hkA : ∀ b, w1.heap.size ≤ b → b < w6.heap.size → wA.heap[b]? = w6.heap[b]? := fun b h1 h2 => (hbA.block b (by omega)).trans ((hk8 b h1 (by omega)).trans (hk7 b h1 h2))
          obtain ⟨g9, c9, w9, hrun, hfz, hb9, ha9, hsl⟩ := HK6.out.rows.app2 (w := wA) (bl := w8.heap.size) (x := ⟨ab1, fs1⟩) (y := ⟨ab2, fs2⟩) (ux := .slice A1 fs1.length c1) (uy := .slice A2 fs2.length c2) (by omega) (by omega) hz6 hkA hBA rfl rfl hI1 hI2
            (((hf1.keep fun b hb => hk8 b (by have : w6.heap.size ≤ b := hb.1; omega) hb.2).keep fun b hb => hbA.block b (by have := hb.2; omega)).mono fun b hb => ⟨hb.1, by have := hb.2; omega⟩)
            ((hf2.keep fun b hb => hbA.block b hb.2).mono fun b hb => ⟨by have := hb.1; omega, by have := hb.2; omega⟩)
          have hcell : w8.cell? ⟨a, 0, none⟩ = some (.slice A0 rs0.length c0) := (World.cell?_of_block (a := ⟨a, 0, none⟩) ((hk8 a hge.1 (by have := hge.2; omega)).trans (hk7 a hge.1 hge.2))).trans x6
          refine ⟨g9, c9, w9, by rw [← hwA]; exact hrun, hfz, ha9, ⟨hcell, by have := hge.2; omega⟩, a, c, (rs0 ++ [⟨ab1, fs1⟩, ⟨ab2, fs2⟩]) :: rest.map Prod.snd, ?_, ⟨(show Cod.recs.Sl _ _ (.slice (some ⟨a, 0, none⟩) ((rs0 ++ [⟨ab1, fs1⟩, ⟨ab2, fs2⟩]) :: rest.map Prod.snd).length c) _ by rw [show ((rs0 ++ [(⟨ab1, fs1⟩ : Rec), ⟨ab2, fs2⟩]) :: rest.map Prod.snd).length = rest.length + 1 by simp]; exact hsl).mono fun b (hb : w1.heap.size ≤ b ∧ b < w9.heap.size) => ⟨by have := HB.out.size; have := hb.1; omega, by rw [size_setCell]; exact hb.2⟩, ?_⟩⟩
          · have := HK6.out.len
            simp only [List.length_cons] at this
            simp [this]
          · have h1 := HB.out.size
            have hw8 : Below w.heap.size w w8 := HB.out.trans (below_grown hS8.grown hg h1)
            exact ((hw8.trans (hbA.mono hw8.size)).trans (hb9.mono h1)).setCell (by have := hge.1; simp; omega) _)
        have i0 : (0 : Int) < (n : Int) := by omega
        have ha6 := hge.2
        clear hge HSl6 Hks1 Hks2 HK6 hl0 hz6 HB hg
        go_upto_region 6 with fail
        go_region_law (first
          | (go_simp; with_reducible refine HC1.out.mono ?_; intro e w7 hq7; unfold RecS at hq7; obtain ⟨ab1, A1, c1, fs1, he7, hI1, hl1, hf1, hn1, hS7, hg7⟩ := hq7; subst he7; go_must (obtain ⟨y7, a7, hc2⟩ := HP1.out w7 hS7 hg7; have HC2 := Lib.hid hc2; have HI1 := Lib.hid hI1; have HF1 := Lib.hid hf1; have HG7 := Lib.hid hg7; clear hc2 hI1 hf1 hg7 hS7 hn1 hl1))
          | (go_simp; with_reducible refine HC2.out.mono ?_; intro e w8 hq8; unfold RecS at hq8; obtain ⟨ab2, A2, c2, fs2, he8, hI2, hl2, hf2, hn2, hS8, hg8⟩ := hq8; subst he8; go_must (obtain ⟨g9, c9, w9, happ, ⟨f9, y9⟩, a9, ⟨y8, a8⟩, hQ⟩ := HP2.out w7 w8 ab1 A1 c1 fs1 ab2 A2 c2 fs2 HI1.out hI2 HF1.out hf2 HG7.out hg8 hS8; have HQ := Lib.hid hQ; clear hI2 hf2 hg8 hS8 hn2 hl2 hQ))
          | (with_reducible refine step_append_at (.tmp 26) (.tmp 33) happ (by kernel_rfl) (by kernel_rfl) (by kernel_rfl) (by kernel_rfl) (by kernel_rfl) ?_))
        all_goals go_wp2
        all_goals go_ret
        all_goals exact HQ.out
end Go.Proofs.Ytelhjdccfomafaa
