/- The text of a shape: of the program. -/
import Derived.Test.YtgfpncpphpkahaaDoorJq
import Derived.Test.YtgfpncpphpkahaaDoorHc
namespace Go.Proofs.YtgfpncpphpkahaaDoor
open Go.RowKit

theorem join_cons (sep : List UInt8) (x : List UInt8) (r : List (List UInt8)) : Lib.join (x :: r) sep = x ++ (r.map (sep ++ ·)).flatten := by
  induction r generalizing x with
  | nil => simp [Lib.join_one]
  | cons y r ih => 
    have h := ih y
    unfold Lib.join at h ⊢
    rw [List.intercalate_cons_cons, h]
    simp
/-- The list of the texts of a shape. -/
def textsOf (x : ShapeR) : List ByteArray := x.stack.map markT ++ [⟨#[124]⟩] ++ x.places.map markT
def spL (xs : List ByteArray) : List UInt8 := (xs.map fun t => 32 :: t.data.toList).flatten
theorem spA_data : ∀ (xs : List MarkR) (acc : ByteArray), (spA xs acc).data.toList = acc.data.toList ++ spL (xs.map markT)
  | [], acc => by simp [spA, spL]
  | x :: r, acc => by
    show (spA r ((acc ++ ⟨#[32]⟩) ++ markT x)).data.toList = _
    rw [spA_data r]
    simp [spL, ByteArray.data_append]
theorem join_sp : ∀ (xs : List ByteArray), xs ≠ [] → 32 :: Lib.join (xs.map (·.data.toList)) [32] = spL xs
  | [], h => absurd rfl h
  | x :: r, _ => by
    rw [List.map_cons, join_cons]
    unfold spL
    simp [List.map_map, Function.comp_def]
theorem extract_tail (s : ByteArray) (c : UInt8) (l : List UInt8) (h : s.data.toList = c :: l) : (s.extract 1 s.size).data.toList = l := by
  rw [ByteArray.data_extract, Array.toList_extract]
  have hs : s.size = s.data.toList.length := by rw [Array.length_toList]; rfl
  rw [hs, h]
  simp [List.extract]
theorem shape_join (x : ShapeR) : (⟨(Lib.join ((textsOf x).map (·.data.toList)) [32]).toArray⟩ : ByteArray) = shapeT x := by
  apply ext_toList
  rw [toList_data, toList_data]
  unfold shapeT
  have hp : (preT x).data.toList = 32 :: Lib.join ((textsOf x).map (·.data.toList)) [32] := by
    rw [join_sp _ (by unfold textsOf; simp)]
    unfold preT textsOf
    rw [ByteArray.data_append, ByteArray.data_append, Array.toList_append, Array.toList_append, spA_data, spA_data]
    unfold spL
    simp
  rw [extract_tail _ _ _ hp]

theorem three_rows {F : Nat → Prop} {w : World} {g : Nat} {u1 u2 u3 : Value} {a b c : List ByteArray} (h : Blk w g 53 #[u1, u2, u3]) (hg : F g) (h1 : Cod.str.Sl F w u1 a) (h2 : Cod.str.Sl F w u2 b) (h3 : Cod.str.Sl F w u3 c) :
    Cod.str.sl.Sl F w (.slice (some ⟨g, 0, none⟩) 3 3) [a, b, c] := by
  refine ⟨_, _, rfl, Nat.le_refl _, by unfold maxLen; omega, fun _ => ⟨g, 0, rfl, hg, fun i x hi => ?_⟩⟩
  match i, hi with
  | 0, hi => simp at hi; subst hi; exact ⟨[u1], fun j u hu => by match j, hu with | 0, hu => simp at hu; subst hu; exact h.cell 0 | j + 1, hu => simp at hu, u1, rfl, h1⟩
  | 1, hi => simp at hi; subst hi; exact ⟨[u2], fun j u hu => by match j, hu with | 0, hu => simp at hu; subst hu; exact h.cell 1 | j + 1, hu => simp at hu, u2, rfl, h2⟩
  | 2, hi => simp at hi; subst hi; exact ⟨[u3], fun j u hu => by match j, hu with | 0, hu => simp at hu; subst hu; exact h.cell 2 | j + 1, hu => simp at hu, u3, rfl, h3⟩
  | i + 3, hi => simp at hi
theorem one_text {F : Nat → Prop} {w : World} {g : Nat} {t : ByteArray} (h : Blk w g 9 #[.string t]) (hg : F g) (ht : t.size ≤ maxLen) : Cod.str.Sl F w (.slice (some ⟨g, 0, none⟩) 1 1) [t] := by
  refine ⟨_, _, rfl, Nat.le_refl _, by unfold maxLen; omega, fun _ => ⟨g, 0, rfl, hg, fun i x hi => ?_⟩⟩
  match i, hi with
  | 0, hi => simp at hi; subst hi; exact ⟨[.string t], fun j u hu => by match j, hu with | 0, hu => simp at hu; subst hu; exact h.cell 0 | j + 1, hu => simp at hu, rfl, ht⟩
  | i + 1, hi => simp at hi
theorem OwnS.form_ {B : Nat} {w : World} {v : Value} {xs : List ByteArray} (h : OwnS B w v xs) (h0 : 0 < xs.length) : ∃ g cap, v = .slice (some ⟨g, 0, none⟩) xs.length cap ∧ g < w.heap.size ∧ xs.length ≤ cap ∧ ∀ (j : Nat) x, xs[j]? = some x → w.cell? ⟨g, 0 + j, none⟩ = some (.string x) := by
  rcases h.2 with ⟨rfl, hn⟩ | ⟨g, cp, cur, rfl, hb, hg, hc, hm, hz, ht⟩
  · omega
  · refine ⟨g, cp, rfl, (Array.getElem?_eq_some_iff.1 hg).1, hc, fun j x hj => ?_⟩
    have hjl : j < xs.length := (List.getElem?_eq_some_iff.1 hj).1
    rw [cell_of_row w g _ cur _ _ hg, Nat.zero_add, ← Array.getElem?_toList]
    have h2 : cur.toList[j]? = (cur.toList.take (xs.length * 1))[j]? := by rw [List.getElem?_take_of_lt (by omega)]
    rw [h2, ht]
    unfold strVs
    rw [List.getElem?_map, hj]
    rfl
theorem len_markW (xs : List MarkR) : xs.length ≤ (xs.map markW).sum := by
  induction xs with
  | nil => exact Nat.le_refl _
  | cons y r ih => rw [List.map_cons, List.sum_cons, List.length_cons]; unfold markW at ih ⊢; omega

set_option maxRecDepth 100000 in
set_option maxHeartbeats 8000000 in
theorem implShapeText_any (F : Nat → Prop) (A0 A1 : Option Addr) (c0 c1 : Nat) (x : ShapeR) (w : World) (h : ShapeRd F w (.slice A0 x.stack.length c0) (.slice A1 x.places.length c1) x) (hF : ∀ b, F b → b < w.heap.size) (hm : (x.stack.map markW).sum + (x.places.map markW).sum ≤ 1048576)  (htab : Lib.TabBelow Tryd.prog w.heap.size w tabN .u64 Lib.pow10Tab) :
    Calls Tryd.prog 20 #[.agg #[.slice A0 x.stack.length c0, .slice A1 x.places.length c1]] w fun e w' => e = .returned (.string (shapeT x)) ∧ Below w.heap.size w w' := by
  obtain ⟨w0, hw0⟩ : ∃ w0, w0 = w.alloc (.cells #[.slice A0 x.stack.length c0, .slice A1 x.places.length c1] 26) := ⟨_, rfl⟩
  have hb0 : Below w.heap.size w w0 := by rw [hw0]; exact (Below.refl _ _).alloc (Nat.le_refl _) _
  have hs0 : w0.heap.size = w.heap.size + 1 := by rw [hw0]; simp
  have hn0 := Nat.le_trans (len_markW x.stack) (Nat.le_trans (Nat.le_add_right _ _) hm)
  have hn1 := Nat.le_trans (len_markW x.places) (Nat.le_trans (Nat.le_add_left _ _) hm)
  have HC0 := Lib.hid (eachStr_any F A0 A1 c0 c1 x w0 (h.keep (below_keeps hb0 hF)) (fun b hb => Nat.lt_of_lt_of_le (hF b hb) hb0.size) hm (by omega) (by omega) (tab_up htab hb0 hb0.size))
  have hjs : (Lib.join ((textsOf x).map (·.data.toList)) [32]).length ≤ 140737488355328 := by
    have e := shape_join x
    have e2 : (shapeT x).size = (Lib.join ((textsOf x).map (·.data.toList)) [32]).length := by rw [← e]; exact size_digits _
    rw [← e2]
    have h1 := spA_few h.stack (by omega)
    have h2 := spA_few h.places (by omega)
    have hp1 : (preT x).size ≤ 100000000 := by unfold preT; rw [ByteArray.size_append, ByteArray.size_append]; have : (⟨#[32, 124]⟩ : ByteArray).size = 2 := rfl; omega
    unfold shapeT
    rw [ByteArray.size_extract]
    omega
  have HJ := Lib.hid hjs
  have HX := Lib.hid (shape_join x)
  have HE := Lib.hid hb0
  have Hw0 := Lib.hid hw0
  have Hs0 := Lib.hid hs0
  clear h hF hw0 hb0 hs0 htab hjs
  go_enter Tryd.func20, Tryd.ntmps20
  go_wp2_with fail
  rw [← Hw0.out]
  refine HC0.out.mono ?_
  rintro e w1 ⟨v1, v2, rfl, hS1, hS2, hb1⟩
  obtain ⟨a1, e1, g1, _⟩ := id hS1
  obtain ⟨a2, e2, g2, _⟩ := id hS2
  rw [List.length_map] at g1 g2
  subst g1
  subst g2
  obtain ⟨w2, hw2⟩ : ∃ w2, w2 = w1.alloc (.cells #[.slice a1 x.stack.length e1, .slice a2 x.places.length e2] 79) := ⟨_, rfl⟩
  have hb2 : Below w1.heap.size w1 w2 := by rw [hw2]; exact (Below.refl _ _).alloc (Nat.le_refl _) _
  have hs2 : w2.heap.size = w1.heap.size + 1 := by rw [hw2]; simp
  have HB2 := Lib.hid (show Blk w2 w1.heap.size 79 #[.slice a1 x.stack.length e1, .slice a2 x.places.length e2] by rw [hw2]; exact Blk.new _ _ _)
  obtain ⟨w4, hw4⟩ : ∃ w4, w4 = (w2.alloc (.cells #[.string ⟨#[124]⟩] 9)).alloc (.cells #[.slice a1 x.stack.length e1, .slice (some ⟨w2.heap.size, 0, none⟩) 1 1, .slice a2 x.places.length e2] 53) := ⟨_, rfl⟩
  have hb4 : Below w2.heap.size w2 w4 := by rw [hw4]; exact ((Below.refl _ _).alloc (Nat.le_refl _) _).alloc (by simp) _
  have hs4 : w4.heap.size = w2.heap.size + 2 := by rw [hw4]; simp
  have hBa : Blk w4 w2.heap.size 9 #[.string ⟨#[124]⟩] := by rw [hw4]; exact (Blk.new _ _ _).alloc _
  have hBb : Blk w4 (w2.heap.size + 1) 53 #[.slice a1 x.stack.length e1, .slice (some ⟨w2.heap.size, 0, none⟩) 1 1, .slice a2 x.places.length e2] := by
    rw [hw4]
    have := Blk.new (w2.alloc (.cells #[.string ⟨#[124]⟩] 9)) 53 #[.slice a1 x.stack.length e1, .slice (some ⟨w2.heap.size, 0, none⟩) 1 1, .slice a2 x.places.length e2]
    simpa only [World.size_alloc] using this
  have hk : ∀ b, b < w1.heap.size → w4.heap[b]? = w1.heap[b]? := fun b hb => (hb4.block b (by omega)).trans (hb2.block b hb)
  have hxs := three_rows (F := fun b => b < w4.heap.size) hBb (by omega) ((hS1.keep fun b hb => hk b hb.2).mono fun b hb => by have := hb.2; omega) (one_text hBa (by omega) (by decide)) ((hS2.keep fun b hb => hk b hb.2).mono fun b hb => by have := hb.2; omega)
  have HC := Lib.hid (concat_any (fun b => b < w4.heap.size) _ _ w4 hxs (fun b hb => hb) (by unfold lens; simp; omega))
  have hfl : [x.stack.map markT, [⟨#[124]⟩], x.places.map markT].flatten = textsOf x := by unfold textsOf; simp
  rw [hfl] at HC
  have HE4 := Lib.hid ((HE.out.trans (hb1.mono HE.out.size)).trans ((hb2.trans (hb4.mono hb2.size)).mono (by have := hb1.size; have := Hs0.out; omega)))
  have Hw2 := Lib.hid hw2
  have Hw4 := Lib.hid hw4
  have hl2 : w1.heap.size < w2.heap.size := by omega
  clear hS1 hS2 hb1 hb2 hb4 hs4 hBa hBb hk hxs hfl hw2 hw4 hs2 HC0
  go_upto_region 2 with fail
  rw [← Hw2.out]
  obtain ⟨y0, y1⟩ := HB2.out.g2
  go_wp2_with fail
  rw [← Hw4.out]
  refine HC.out.mono ?_
  rintro e w5 ⟨v5, rfl, hO, hb5⟩
  obtain ⟨g5, cp5, rfl, hg5, hc5, hcells⟩ := hO.form_ (by unfold textsOf; rw [List.length_append, List.length_append]; show 0 < _ + 1 + _; omega)
  have HCj := Lib.hid (joinS_any g5 0 cp5 (textsOf x) ⟨#[32]⟩ w5 hcells hg5 (by unfold textsOf; rw [List.length_append, List.length_append, List.length_map, List.length_map]; show _ + 1 + _ ≤ _; omega) hc5 HJ.out)
  have HE5 := Lib.hid (HE4.out.trans (hb5.mono HE4.out.size))
  clear y0 y1 hO hb5 hcells HC
  go_wp2_with fail
  refine HCj.out.mono ?_
  rintro e w6 ⟨rfl, hb6⟩
  have HE6 := Lib.hid (HE5.out.trans (hb6.mono HE5.out.size))
  clear hb6 HCj
  go_wp2_with fail
  go_ret
  exact ⟨ret_str HX.out, HE6.out⟩
end Go.Proofs.YtgfpncpphpkahaaDoor
