/- ShapeFirst, of the program. -/
import Derived.Test.YtmomdflfjcboiaaDoorJu
import Derived.Test.YtmomdflfjcboiaaDoorHe
import Derived.Test.YtmomdflfjcboiaaDoorMap
namespace Go.Proofs.YtmomdflfjcboiaaDoor
open Go.RowKit

def OFirstD (o : Option (List MarkR)) (w : World) (e : Ending) (w' : World) : Prop :=
  ∃ a0 A' c', e = .returned (.tuple #[.agg #[.slice a0 0 0, .slice A' (o.getD []).length c'], .bool o.isSome]) ∧ ShapeRo w.heap.size w'.heap.size w' (.slice a0 0 0) (.slice A' (o.getD []).length c') ⟨[], o.getD []⟩ ∧ Below w.heap.size w w'
theorem sign_none {t : ByteArray} (h : refB t = false) : (signB t).toList = [] := by
  unfold signB; rw [h, if_neg (by simp), toList_data]; rfl
theorem sign_some {t : ByteArray} (h : refB t = true) : ¬ (signB t).toList = [] := by
  have hp : 0 < t.size := by
    unfold refB at h
    split at h
    · assumption
    · cases h
  unfold signB
  rw [h, if_pos rfl, extract_one hp]
  simp
set_option maxHeartbeats 400000 in
theorem isReference_any (t : ByteArray) (w : World) (hs : t.size ≤ maxLen) :
    Calls Tryd.prog 20 #[.string t] w fun e w' => e = .returned (.bool (refB t)) ∧ ∃ n, w' = w.drewN n := by
  have HCs := Lib.hid (splitSign_any t w hs)
  cases r : refB t
  · have hsg := sign_none r
    have t1 : (signB t).toList.isEmpty = true := by rw [hsg]; rfl
    have t2 : ((signB t).toList == []) = true := by rw [hsg]; rfl
    clear r
    go_enter Tryd.func20, Tryd.ntmps20
    go_wp2_with fail
    refine HCs.out.mono ?_
    rintro e wb ⟨rfl, n, rfl⟩
    go_wp2
    go_ret
    exact ⟨rfl, n, rfl⟩
  · have hsg := sign_some r
    have t1 : (signB t).toList.isEmpty = false := by rw [List.isEmpty_eq_false_iff]; exact hsg
    have t2 : ((signB t).toList == []) = false := by rw [beq_eq_false_iff_ne]; exact hsg
    clear r
    go_enter Tryd.func20, Tryd.ntmps20
    go_wp2_with fail
    refine HCs.out.mono ?_
    rintro e wb ⟨rfl, n, rfl⟩
    go_wp2
    go_ret
    exact ⟨rfl, n, rfl⟩

/-- The marks of the first k arguments among n places, as the program lays them: one list of origins for all. -/
structure FirstR (G : Nat) (x : FunR) (n k : Nat) (cs : Array Value) : Prop where
  size : cs.size = n * 2
  done : ∀ i t, x.args[i]? = some t → i < k → cs[i * 2]? = some (.string t) ∧ cs[i * 2 + 1]? = some (if refB t then .slice (some ⟨G, 0, none⟩) 1 1 else .slice none 0 0)
  rest : ∀ i, k ≤ i → i < n → cs[i * 2]? = some (.string ⟨#[]⟩) ∧ cs[i * 2 + 1]? = some (.slice none 0 0)
theorem made_at {a b : Value} {n i : Nat} (hi : i < n) : (madeCells #[a, b] (n * 2))[i * 2]? = some a ∧ (madeCells #[a, b] (n * 2))[i * 2 + 1]? = some b := by
  have h0 : i * 2 % 2 = 0 := by omega
  have h1 : (i * 2 + 1) % 2 = 1 := by omega
  constructor
  · rw [Array.getElem?_eq_getElem (by simp [madeCells]; omega)]
    simp [madeCells]
  · rw [Array.getElem?_eq_getElem (by simp [madeCells]; omega)]
    simp [madeCells, h1]
theorem FirstR.start (G : Nat) (x : FunR) (n : Nat) : FirstR G x n 0 (madeCells #[.string ⟨#[]⟩, .slice none 0 0] (n * 2)) :=
  ⟨by simp [madeCells], fun _ _ _ h => absurd h (by omega), fun i _ hi => made_at hi⟩
theorem FirstR.next {G : Nat} {x : FunR} {n k : Nat} {cs cs' : Array Value} (h : FirstR G x n k cs) (hk : k < x.args.length) (hsz : cs'.size = cs.size) (h0 : cs'[k * 2]? = some (.string x.args[k])) (h1 : cs'[k * 2 + 1]? = some (if refB x.args[k] then .slice (some ⟨G, 0, none⟩) 1 1 else .slice none 0 0)) (hr : ∀ j, j ≠ k * 2 → j ≠ k * 2 + 1 → cs'[j]? = cs[j]?) : FirstR G x n (k + 1) cs' := by
  refine ⟨hsz.trans h.size, fun i t ht hi => ?_, fun i h2 h3 => ?_⟩
  · by_cases he : i = k
    · subst he
      rw [List.getElem?_eq_getElem hk] at ht
      cases ht
      exact ⟨h0, h1⟩
    · rw [hr _ (by omega) (by omega), hr _ (by omega) (by omega)]
      exact h.done i t ht (by omega)
  · rw [hr _ (by omega) (by omega), hr _ (by omega) (by omega)]
    exact h.rest i (by omega) h3
/-- What has been laid reads as the places. -/
theorem FirstR.reads {G P : Nat} {x : FunR} {cs : Array Value} {w : World} (h : FirstR G x (x.args.length + x.locals.length) x.args.length cs) (hB : Blk w P 57 cs) (hG : Blk w G 3 #[.int .i64 9]) (hs : ∀ t ∈ x.args, t.size ≤ maxLen) (hn : x.args.length + x.locals.length ≤ 2000000) :
    Cod.markr.Sl (fun b => b < w.heap.size) w (.slice (some ⟨P, 0, none⟩) (firstP x).length (firstP x).length) (firstP x) := by
  refine ⟨_, _, rfl, Nat.le_refl _, by unfold maxLen; rw [firstP_len]; omega, fun _ => ⟨P, 0, rfl, hB.lt, fun i m hi => ?_⟩⟩
  by_cases hl : i < x.args.length
  · have hm : m = argM x.args[i] := by
      unfold firstP at hi
      rw [List.getElem?_append_left (by simpa using hl), List.getElem?_map, List.getElem?_eq_getElem hl] at hi
      simpa using hi.symm
    obtain ⟨d0, d1⟩ := h.done i x.args[i] (List.getElem?_eq_getElem hl) hl
    refine ⟨[.string x.args[i], if refB x.args[i] then .slice (some ⟨G, 0, none⟩) 1 1 else .slice none 0 0], fun j u hu => ?_, _, by rw [hm]; rfl, ⟨by rw [hm]; exact hs _ (List.getElem_mem hl), ?_⟩⟩
    · rw [hB.cell]
      match j, hu with
      | 0, hu => simp at hu; subst hu; simpa [Cod.markr] using d0
      | 1, hu => simp at hu; subst hu; simpa [Cod.markr] using d1
      | j + 2, hu => simp at hu
    · rw [hm]
      unfold argM
      cases refB x.args[i] with
      | false => exact Cod.Sl.nil_
      | true =>
        refine ⟨_, 1, rfl, Nat.le_refl _, by unfold maxLen; omega, fun _ => ⟨G, 0, rfl, hG.lt, fun j n hj => ?_⟩⟩
        match j, hj with
        | 0, hj => simp at hj; subst hj; exact ⟨[.int .i64 9], fun q u hu => by match q, hu with | 0, hu => simp at hu; subst hu; exact hG.cell 0 | q + 1, hu => simp at hu, rfl, by unfold I64; omega⟩
        | j + 1, hj => simp at hj
  · have hi2 : i < x.args.length + x.locals.length := by have := (List.getElem?_eq_some_iff.1 hi).1; rw [firstP_len] at this; exact this
    have hm : m = ⟨⟨#[]⟩, []⟩ := by
      unfold firstP at hi
      rw [List.getElem?_append_right (by simp; omega), List.getElem?_map] at hi
      obtain ⟨t, _, ht⟩ := Option.map_eq_some_iff.1 hi
      exact ht.symm
    obtain ⟨d0, d1⟩ := h.rest i (by omega) hi2
    refine ⟨[.string ⟨#[]⟩, .slice none 0 0], fun j u hu => ?_, _, by rw [hm], ⟨by rw [hm]; decide, by rw [hm]; exact Cod.Sl.nil_⟩⟩
    rw [hB.cell]
    match j, hu with
    | 0, hu => simp at hu; subst hu; simpa [Cod.markr] using d0
    | 1, hu => simp at hu; subst hu; simpa [Cod.markr] using d1
    | j + 2, hu => simp at hu
theorem firstP_smol (x : FunR) : ∀ y ∈ firstP x, SmolMarkr y := by
  intro y hy
  unfold firstP at hy
  rcases List.mem_append.1 hy with h | h
  · obtain ⟨t, _, rfl⟩ := List.mem_map.1 h
    unfold SmolMarkr argM
    cases refB t <;> simp
  · obtain ⟨t, _, rfl⟩ := List.mem_map.1 h
    unfold SmolMarkr locM
    simp

set_option maxRecDepth 100000 in
set_option maxHeartbeats 8000000 in
theorem implShapeFirst_any (T : Nat → Prop) (tv : Value) (F : Nat → Prop) (v : Value) (xs : List ModR) (m f : Int) (w : World) (hT : ITab T w tv) (hTF : ∀ b, T b → b < w.heap.size) (h : Cod.modr.Sl F w v xs) (hF : ∀ b, F b → b < w.heap.size) (hn : xs.length ≤ 2000000) (hsm : ∀ x ∈ xs, SmolModr x) (hm64 : I64 m) (hf64 : I64 f) :
    Calls Tryd.prog 7 #[v, .int .i64 m, .int .i64 f] w (OFirstD (firstO xs m f) w) := by
  have HS := Lib.hid h
  have HF := Lib.hid hF
  obtain ⟨A, cap, rfl, hlc, hcm, _⟩ := h
  unfold maxLen at hcm
  obtain ⟨w0, hw0⟩ : ∃ w0, w0 = w.alloc (.cells #[.slice none 0 0, .slice none 0 0] 26) := ⟨_, rfl⟩
  have hb0 : Below w.heap.size w w0 := by rw [hw0]; exact (Below.refl _ _).alloc (Nat.le_refl _) _
  have HR0 := Lib.hid (show Blk w0 w.heap.size 26 #[.slice none 0 0, .slice none 0 0] by rw [hw0]; exact Blk.new _ _ _)
  have HF0 := Lib.hid (show ∀ b, F b → b < w0.heap.size from fun b hb => Nat.lt_of_lt_of_le (hF b hb) hb0.size)
  have HS0 := Lib.hid (HS.out.keep (below_keeps hb0 hF))
  have HC := Lib.hid (implShelfFunc_any F _ xs m f w0 HS0.out HF0.out hsm hm64 hf64)
  have HE := Lib.hid hb0
  have Hw0 := Lib.hid hw0
  have HSm := Lib.hid hsm
  have HTb := Lib.hid hT
  have HTf := Lib.hid hTF
  clear hF hw0 hb0 hsm hT hTF hm64 hf64
  have bad : ∀ (w1 : World), Below w0.heap.size w0 w1 → firstO xs m f = none → OFirstD (firstO xs m f) w (.returned (.tuple #[.agg #[.slice none 0 0, .slice none 0 0], .bool false])) ((w1.setCell ⟨w.heap.size, 0, none⟩ (.slice none 0 0)).setCell ⟨w.heap.size, 1, none⟩ (.slice none 0 0)) := fun w1 hb1 ho => by
    rw [ho]
    have hb2 : Below w.heap.size w ((w1.setCell ⟨w.heap.size, 0, none⟩ (.slice none 0 0)).setCell ⟨w.heap.size, 1, none⟩ (.slice none 0 0)) := ((HE.out.trans (hb1.mono HE.out.size)).setCell (by simp) _).setCell (by simp) _
    exact ⟨none, none, 0, rfl, ⟨⟨_, Nat.le_refl _, hb2.size, own_none, own_none⟩⟩, hb2⟩
  have Bad := Lib.hid bad
  clear bad
  cases hat : fAt xs m f with
  | none =>
    have HO := Lib.hid (show firstO xs m f = none by unfold firstO; rw [hat]; split <;> rfl)
    rw [hat] at HC
    clear hat
    go_enter Tryd.func7, Tryd.ntmps7
    go_wp2_with fail
    rw [← Hw0.out]
    refine HC.out.mono ?_
    rintro e w1 ⟨A1, A2, A3, A4, A5, c1, c2, c3, c4, c5, rfl, _, hb1⟩
    dsimp only [funV, Option.getD, Option.isSome]
    obtain ⟨w2, hw2⟩ : ∃ w2, w2 = w1.alloc (.cells #[.int .i64 zeroF.seen, .slice A1 zeroF.args.length c1, .slice A2 zeroF.rets.length c2, .slice A3 zeroF.locals.length c3, .slice A4 zeroF.takes.length c4, .slice A5 zeroF.code.length c5] 48) := ⟨_, rfl⟩
    have hb2 : Below w0.heap.size w0 w2 := by rw [hw2]; exact hb1.alloc hb1.size _
    have hR := HR0.out.below hb2 HR0.out.lt
    obtain ⟨r0, r1⟩ := hR.g2
    obtain ⟨f0, f1⟩ := hR.h2
    obtain ⟨wE, hwE⟩ : ∃ wE, wE = (w2.setCell ⟨w.heap.size, 0, none⟩ (.slice none 0 0)).setCell ⟨w.heap.size, 1, none⟩ (.slice none 0 0) := ⟨_, rfl⟩
    have HRE := Lib.hid (show Blk wE w.heap.size 26 #[.slice none 0 0, .slice none 0 0] by rw [hwE]; exact (hR.set_ 0 _).set_ 1 _)
    have HQ := Lib.hid (Bad.out w2 hb2 HO.out)
    rw [← hwE] at HQ
    have HwE := Lib.hid hwE
    have Hw2 := Lib.hid hw2
    clear hwE hR hb1 hb2 HC hw2
    go_upto_region 2 with fail
    rw [← Hw2.out]
    go_wp2
    rw [← HwE.out]
    obtain ⟨q0, q1⟩ := HRE.out.g2
    exact bodyPost_ret (v := .tuple #[.agg #[.slice none 0 0, .slice none 0 0], .bool false]) (by simp [results, Tryd.results7, go_sem, q0, q1]) rfl HQ.out
  | some y =>
    have HSy := Lib.hid (fAt_smol hat HSm.out)
    rw [hat] at HC
    have Hat := Lib.hid hat
    clear hat
    go_enter Tryd.func7, Tryd.ntmps7
    go_wp2_with fail
    rw [← Hw0.out]
    refine HC.out.mono ?_
    rintro e w1 ⟨A1, A2, A3, A4, A5, c1, c2, c3, c4, c5, rfl, hO, hb1⟩
    dsimp only [funV, Option.getD, Option.isSome] at hO ⊢
    obtain ⟨w2, hw2⟩ : ∃ w2, w2 = w1.alloc (.cells #[.int .i64 y.seen, .slice A1 y.args.length c1, .slice A2 y.rets.length c2, .slice A3 y.locals.length c3, .slice A4 y.takes.length c4, .slice A5 y.code.length c5] 48) := ⟨_, rfl⟩
    have hb12 : Below w1.heap.size w1 w2 := by rw [hw2]; exact (Below.refl _ _).alloc (Nat.le_refl _) _
    have hb2 : Below w0.heap.size w0 w2 := hb1.trans (hb12.mono hb1.size)
    have HB2 := Lib.hid (show Blk w2 w1.heap.size 48 #[.int .i64 y.seen, .slice A1 y.args.length c1, .slice A2 y.rets.length c2, .slice A3 y.locals.length c3, .slice A4 y.takes.length c4, .slice A5 y.code.length c5] by rw [hw2]; exact Blk.new _ _ _)
    have HV2 := Lib.hid ((hO.keep (w' := w2) fun b g1 g2 => hb12.block b g2).rd)
    have HCs := Lib.hid (show Calls Tryd.prog 19 #[.slice A xs.length cap] w2 fun e w' => e = .returned (.bool (shapeB xs)) ∧ Below w2.heap.size w2 w' by
      rw [← shape_eq]
      exact implShelfShape_any T tv F _ xs w2 (HTb.out.keep fun b hb => (hb2.block b (by have := HTf.out b hb; have := HE.out.size; omega)).trans (HE.out.block b (HTf.out b hb))) (fun b hb => by have := HTf.out b hb; have := HE.out.size; have := hb2.size; omega) (HS0.out.keep (below_keeps hb2 HF0.out)) (fun b hb => Nat.lt_of_lt_of_le (HF0.out b hb) hb2.size) hn HSm.out)
    have HE2 := Lib.hid hb2
    have Hw2 := Lib.hid hw2
    have hl12 : w1.heap.size < w2.heap.size := HB2.out.lt
    have hl01 := hb1.size
    clear hO hb1 hb12 hb2 hw2 HC
    go_upto_region 2 with fail
    rw [← Hw2.out]
    go_wp2_with fail
    refine HCs.out.mono ?_
    rintro e w3 ⟨rfl, hb3⟩
    have HE3 := Lib.hid (HE2.out.trans (hb3.mono HE2.out.size))
    cases q : shapeB xs with
    | false =>
      have HO := Lib.hid (show firstO xs m f = none by unfold firstO; rw [q]; rfl)
      have hR := HR0.out.below HE3.out HR0.out.lt
      obtain ⟨r0, r1⟩ := hR.g2
      obtain ⟨f0, f1⟩ := hR.h2
      obtain ⟨wE, hwE⟩ : ∃ wE, wE = (w3.setCell ⟨w.heap.size, 0, none⟩ (.slice none 0 0)).setCell ⟨w.heap.size, 1, none⟩ (.slice none 0 0) := ⟨_, rfl⟩
      have HRE := Lib.hid (show Blk wE w.heap.size 26 #[.slice none 0 0, .slice none 0 0] by rw [hwE]; exact (hR.set_ 0 _).set_ 1 _)
      have HQ := Lib.hid (Bad.out w3 HE3.out HO.out)
      rw [← hwE] at HQ
      have HwE := Lib.hid hwE
      clear hwE hR hb3 HCs q
      go_wp2
      rw [← HwE.out]
      obtain ⟨q0, q1⟩ := HRE.out.g2
      exact bodyPost_ret (v := .tuple #[.agg #[.slice none 0 0, .slice none 0 0], .bool false]) (by simp [results, Tryd.results7, go_sem, q0, q1]) rfl HQ.out
    | true =>
      have HO := Lib.hid (show firstO xs m f = some (firstP y) by unfold firstO; rw [q, Hat.out]; rfl)
      rw [HO.out]
      obtain ⟨xm, hxm, hfb⟩ := shape_fun q Hat.out
      have hfew := fun_few hfb
      clear q hxm hfb
      have hz3 := hb3.size
      have hB3 := HB2.out.below hb3 hl12
      have HV3 := Lib.hid (HV2.out.keep (w' := w3) fun b hb => hb3.block b (by have := hb.2; omega))
      obtain ⟨x0, x1, x2, x3, x4, x5⟩ := hB3.g6
      obtain ⟨na, hna⟩ : ∃ na, na = y.args.length + y.locals.length := ⟨_, rfl⟩
      have hmk : ∀ w : World, (Instr.makeSlice 24 (.int .i64 ((y.args.length : Int) + (y.locals.length : Int))) (.int .i64 ((y.args.length : Int) + (y.locals.length : Int)))).run Tryd.prog w = .ok (.slice (some ⟨w.heap.size, 0, none⟩) na na) (w.alloc (.cells (madeCells #[.string ⟨#[]⟩, .slice none 0 0] (na * 2)) 57)) := fun w => by
        have := make_len (P := Tryd.prog) 24 57 _ 2 40 Tryd.underlying24 info_markr (by omega) na (by omega) w
        rw [show ((na : Nat) : Int) = (y.args.length : Int) + (y.locals.length : Int) by omega] at this
        exact this
      obtain ⟨w4, hw4⟩ : ∃ w4, w4 = w3.alloc (.cells #[.int .i64 9] 3) := ⟨_, rfl⟩
      have hs4 : w4.heap.size = w3.heap.size + 1 := by rw [hw4]; simp
      have hb34 : Below w3.heap.size w3 w4 := by rw [hw4]; exact (Below.refl _ _).alloc (Nat.le_refl _) _
      have hG4 : Blk w4 w3.heap.size 3 #[.int .i64 9] := by rw [hw4]; exact Blk.new _ _ _
      obtain ⟨w6, hw6⟩ : ∃ w6, w6 = (w4.alloc (.cells (madeCells #[.string ⟨#[]⟩, .slice none 0 0] (na * 2)) 57)).alloc (.cells #[.slice none 0 0, .slice (some ⟨w4.heap.size, 0, none⟩) na na] 26) := ⟨_, rfl⟩
      have hs6 : w6.heap.size = w4.heap.size + 2 := by rw [hw6]; simp
      have hb46 : Below w4.heap.size w4 w6 := by rw [hw6]; exact ((Below.refl _ _).alloc (Nat.le_refl _) _).alloc (by simp) _
      have HP6 := Lib.hid (show Blk w6 w4.heap.size 57 (madeCells #[.string ⟨#[]⟩, .slice none 0 0] (na * 2)) by rw [hw6]; exact (Blk.new _ _ _).alloc _)
      have HT6 := Lib.hid (show Blk w6 (w4.heap.size + 1) 26 #[.slice none 0 0, .slice (some ⟨w4.heap.size, 0, none⟩) na na] by
        rw [hw6]
        have := Blk.new (w4.alloc (.cells (madeCells #[.string ⟨#[]⟩, .slice none 0 0] (na * 2)) 57)) 26 #[.slice none 0 0, .slice (some ⟨w4.heap.size, 0, none⟩) na na]
        simpa only [World.size_alloc] using this)
      have HG6 := Lib.hid (hG4.below hb46 (by omega))
      have hk36 : ∀ b, b < w3.heap.size → w6.heap[b]? = w3.heap[b]? := fun b hb => (hb46.block b (by omega)).trans (hb34.block b hb)
      have HB6 := Lib.hid (show Blk w6 w1.heap.size 48 #[.int .i64 y.seen, .slice A1 y.args.length c1, .slice A2 y.rets.length c2, .slice A3 y.locals.length c3, .slice A4 y.takes.length c4, .slice A5 y.code.length c5] from (hk36 w1.heap.size (by omega)).trans hB3)
      have HV6 := Lib.hid (HV3.out.keep (w' := w6) fun b hb => hk36 b (by have := hb.2; omega))
      have Hsz1 := Lib.hid (show w1.heap.size < w3.heap.size by omega)
      have HR6 := Lib.hid (show Blk w6 w.heap.size 26 #[.slice none 0 0, .slice none 0 0] from (hk36 w.heap.size (by have := HR0.out.lt; have := HE3.out.size; omega)).trans (HR0.out.below HE3.out HR0.out.lt))
      have HE6 := Lib.hid (show Below w.heap.size w w6 from (HE.out.trans (HE3.out.mono HE.out.size)).trans ((hb34.trans (hb46.mono hb34.size)).mono (by have := HE.out.size; have := HE3.out.size; omega)))
      have hgr : w.heap.size < w0.heap.size := HR0.out.lt
      have hz3' := HE3.out.size
      have hlx : w1.heap.size < w4.heap.size := by omega
      have Hna := Lib.hid hna
      have Hfew := Lib.hid hfew
      have Hs4 := Lib.hid hs4
      have Hs6 := Lib.hid hs6
      have Hw4 := Lib.hid hw4
      have Hw6 := Lib.hid hw6
      have hx4 : w4.cell? ⟨w1.heap.size, 1, none⟩ = some (.slice A1 y.args.length c1) := (hb34.cell (p := ⟨w1.heap.size, 1, none⟩) (by simp; omega)).trans x1
      have hx4' : w4.cell? ⟨w1.heap.size, 3, none⟩ = some (.slice A3 y.locals.length c3) := (hb34.cell (p := ⟨w1.heap.size, 3, none⟩) (by simp; omega)).trans x3
      have i6 : (y.args.length : Int) + (y.locals.length : Int) ≤ 100 := by omega
      have i7 : (0 : Int) ≤ (y.args.length : Int) + (y.locals.length : Int) := by omega
      clear hna hs4 hs6 hw4 hw6 hb34 hb46 hG4 hk36 hB3 hb3 HCs
      go_upto_region 5 with fail
      rw [← Hw4.out]
      go_upto_region 6 with fail
      rw [← Hw6.out]
      obtain ⟨y0, y1, y2, y3, y4, y5⟩ := HB6.out.g6
      have HF60 := Lib.hid (FirstR.start w3.heap.size y na)
      clear x0 x1 x2 x3 x4 x5 hx4 hx4' hmk i6 i7
      go_wp2
      clear y0 y1 y2 y3 y4 y5
      go_loopw [42] (fun i wr => ∃ (k : Nat) (cs : Array Value), k ≤ y.args.length ∧ i = .int .i64 k ∧ Hid (Blk wr w4.heap.size 57 cs) ∧ Hid (FirstR w3.heap.size y na k cs) ∧ Hid (Blk wr (w4.heap.size + 1) 26 #[.slice none 0 0, .slice (some ⟨w4.heap.size, 0, none⟩) na na]) ∧ Hid (Below w4.heap.size w6 wr)) (fun i _ => y.args.length - (intOf i).toNat)
      case atStart => exact ⟨0, _, Nat.zero_le _, rfl, HP6, HF60, HT6, Below.refl _ _⟩
      case round =>
      obtain ⟨k, cs, hk, rfl, HPr, HFi, HTr, HBr⟩ := hrel
      obtain ⟨z0, z1⟩ := HTr.out.g2
      have hltp := HPr.out.lt
      have hltt := HTr.out.lt
      by_cases hlk : k < y.args.length
      · have hkn : k < na := by have := Hna.out; omega
        obtain ⟨b1, off1, cp1, hv1, hFb, _, hcm1, ha0, hts⟩ := (HV6.out.keep (w' := wr) fun b hb => HBr.out.block b (by have := hb.2; have := Hsz1.out; have := Hs4.out; omega)).args.str_at hlk
        obtain ⟨rfl, rfl⟩ : A1 = some ⟨b1, off1, none⟩ ∧ c1 = cp1 := by simpa using hv1
        unfold maxLen at hcm1
        have hszc := HFi.out.size
        obtain ⟨hr0, hr1⟩ := HFi.out.rest k (Nat.le_refl _) hkn
        have hc0 : wr.cell? ⟨w4.heap.size, k * 2, none⟩ = some (.string ⟨#[]⟩) := by rw [HPr.out.cell]; exact hr0
        have hf0 := HPr.out.frozen (k * 2)
        obtain ⟨wa, hwa⟩ : ∃ wa, wa = wr.setCell ⟨w4.heap.size, k * 2, none⟩ (.string y.args[k]) := ⟨_, rfl⟩
        have HGa := Lib.hid (show Blk wa w4.heap.size 57 (cs.setIfInBounds (k * 2) (.string y.args[k])) by rw [hwa]; exact HPr.out.set_ _ _)
        have HTa := Lib.hid (show Blk wa (w4.heap.size + 1) 26 #[.slice none 0 0, .slice (some ⟨w4.heap.size, 0, none⟩) na na] by rw [hwa]; exact HTr.out.far (by simp) _)
        have HBa := Lib.hid (show Below w4.heap.size w6 wa by rw [hwa]; exact HBr.out.setCell (by simp) _)
        have HCs := Lib.hid (isReference_any y.args[k] wa hts)
        have i0 : (0 : Int) ≤ k := by omega
        have i1 : (k : Int) < y.args.length := by omega
        have i2 : (k : Int) < na := by omega
        have Hwa := Lib.hid hwa
        clear hv1 hwa
        cases r : refB y.args[k]
        · have hcs2 : FirstR w3.heap.size y na (k + 1) (cs.setIfInBounds (k * 2) (.string y.args[k])) := HFi.out.next hlk (by simp) (by rw [Array.getElem?_setIfInBounds_self_of_lt (by omega)]) (by rw [r, if_neg (by simp), Array.getElem?_setIfInBounds_ne (by omega)]; exact hr1) (fun j h1 _ => by rw [Array.getElem?_setIfInBounds_ne (by omega)])
          have HF2 := Lib.hid hcs2
          rw [r] at HCs
          clear r hcs2
          go_wp2_with fail
          rw [← Hwa.out]
          refine HCs.out.mono ?_
          rintro e wb ⟨rfl, n, rfl⟩
          go_wp2
          go_roundw
          case rel => exact ⟨k + 1, (cs.setIfInBounds (k * 2) (.string y.args[k])), by omega, by go_num, show Blk (wa.drewN n) w4.heap.size 57 _ from HGa.out, HF2, show Blk (wa.drewN n) (w4.heap.size + 1) 26 _ from HTa.out, below_drewN HBa.out n⟩
          case measure => simp [intOf]; omega
        · have hcs2 : FirstR w3.heap.size y na (k + 1) ((cs.setIfInBounds (k * 2) (.string y.args[k])).setIfInBounds (k * 2 + 1) (.slice (some ⟨w3.heap.size, 0, none⟩) 1 1)) := HFi.out.next hlk (by simp) (by rw [Array.getElem?_setIfInBounds_ne (by omega), Array.getElem?_setIfInBounds_self_of_lt (by omega)]) (by rw [r, if_pos rfl, Array.getElem?_setIfInBounds_self_of_lt (by simp; omega)]) (fun j h1 h2 => by rw [Array.getElem?_setIfInBounds_ne (by omega), Array.getElem?_setIfInBounds_ne (by omega)])
          have HF2 := Lib.hid hcs2
          rw [r] at HCs
          clear r hcs2
          go_wp2_with fail
          rw [← Hwa.out]
          refine HCs.out.mono ?_
          rintro e wb ⟨rfl, n, rfl⟩
          obtain ⟨p0, p1⟩ := HTa.out.g2
          have p1' : (wa.drewN n).cell? ⟨w4.heap.size + 1, 1, none⟩ = some (.slice (some ⟨w4.heap.size, 0, none⟩) na na) := p1
          have hb2 : (wa.drewN n).cell? ⟨w4.heap.size, k * 2 + 1, none⟩ = some (.slice none 0 0) := by
            show wa.cell? _ = _
            rw [HGa.out.cell, Array.getElem?_setIfInBounds_ne (by omega)]; exact hr1
          have hf2 : (wa.drewN n).frozen? ⟨w4.heap.size, k * 2 + 1, none⟩ = false := HGa.out.frozen _
          go_wp2
          go_roundw
          case rel => exact ⟨k + 1, ((cs.setIfInBounds (k * 2) (.string y.args[k])).setIfInBounds (k * 2 + 1) (.slice (some ⟨w3.heap.size, 0, none⟩) 1 1)), by omega, by go_num, (show Blk (wa.drewN n) w4.heap.size 57 _ from HGa.out).set_ (k * 2 + 1) _, HF2, (show Blk (wa.drewN n) (w4.heap.size + 1) 26 _ from HTa.out).far (by simp) _, (below_drewN HBa.out n).setCell (by simp) _⟩
          case measure => simp [intOf]; omega
      · obtain rfl : k = y.args.length := by omega
        have hna := Hna.out
        have hG := HG6.out.below HBr.out (by have := Hs4.out; omega)
        have hF2 := HFi.out
        rw [hna] at hF2
        have hsl := hF2.reads HPr.out hG (fun t ht => by
          obtain ⟨i, hi, rfl⟩ := List.getElem_of_mem ht
          obtain ⟨_, _, _, _, _, _, _, _, h⟩ := HV6.out.args.str_at hi
          exact h) (by have := Hfew.out; omega)
        have hln : (firstP y).length = na := by rw [firstP_len]; exact hna.symm
        have HCc := Lib.hid (copyShape_any _ none _ 0 _ (firstP y) wr hsl (fun b hb => hb) (by rw [hln]; have := Hfew.out; omega) (firstP_smol y))
        rw [hln] at HCc
        have hR := HR6.out.below HBr.out (by have := Hs4.out; have := HE3.out.size; omega)
        have HRr := Lib.hid (show Blk wr w.heap.size 26 #[.slice none 0 0, .slice none 0 0] from hR)
        have HEr := Lib.hid (show Below w.heap.size w wr from HE6.out.trans (HBr.out.mono (by have := Hs4.out; have := HE3.out.size; omega)))
        have Hln := Lib.hid hln
        have j2 : ¬ ((y.args.length : Nat) : Int) < y.args.length := by omega
        clear hna hG hF2 hsl hln hR
        go_wp2_with fail
        refine HCc.out.mono ?_
        rintro e wc ⟨a0, A', c', rfl, hO, hbc⟩
        rw [Hln.out]
        have hR := HRr.out.below hbc HRr.out.lt
        obtain ⟨r0, r1⟩ := hR.g2
        obtain ⟨f0, f1⟩ := hR.h2
        obtain ⟨wE, hwE⟩ : ∃ wE, wE = (wc.setCell ⟨w.heap.size, 0, none⟩ (.slice a0 0 0)).setCell ⟨w.heap.size, 1, none⟩ (.slice A' na c') := ⟨_, rfl⟩
        have HRE := Lib.hid (show Blk wE w.heap.size 26 #[.slice a0 0 0, .slice A' na c'] by rw [hwE]; exact (hR.set_ 0 _).set_ 1 _)
        have hkE : ∀ b, b ≠ w.heap.size → wE.heap[b]? = wc.heap[b]? := fun b h1 => by rw [hwE, Below.heap_setCell _ _ _ _ h1, Below.heap_setCell _ _ _ _ h1]
        have hsE : wE.heap.size = wc.heap.size := by rw [hwE]; simp [World.setCell]
        have hzr := HEr.out.size
        have hlr := HRr.out.lt
        rw [Hln.out] at hO
        have HQ := Lib.hid (show OFirstD (some (firstP y)) w (.returned (.tuple #[.agg #[.slice a0 0 0, .slice A' na c'], .bool true])) wE from
          ⟨a0, A', c', by rw [show ((some (firstP y)).getD []).length = na from Hln.out]; rfl, by rw [show ((some (firstP y)).getD []).length = na from Hln.out]; exact (hO.keep fun b g1 g2 => hkE b (by omega)).mono (by omega) (by omega), by rw [hwE]; exact ((HEr.out.trans (hbc.mono hzr)).setCell (by simp) _).setCell (by simp) _⟩)
        have HwE := Lib.hid hwE
        clear hwE hR hkE hO hbc HCc
        go_wp2
        rw [← HwE.out]
        obtain ⟨q0, q1⟩ := HRE.out.g2
        exact bodyPost_ret (v := .tuple #[.agg #[.slice a0 0 0, .slice A' na c'], .bool true]) (by simp [results, Tryd.results7, go_sem, q0, q1]) rfl (HO.out ▸ HQ.out)
end Go.Proofs.YtmomdflfjcboiaaDoor
