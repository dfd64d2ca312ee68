/- The program's vaultsOk: whether vaults of a table's kinds are ones. -/
import Derived.Test.YthkdkefkgmmoiaaYe
namespace Go.Proofs.Ythkdkefkgmmoiaa
open Go.RowKit
attribute [local go_sem] Oper.semAt_some

theorem pieces_one {d : Nat} {F : Nat → Prop} {w : World} {b : Nat} {v : Value} {xs : List KepR} (hB : Blk w b 57 #[v]) (h : (Cod.kept (Cod.val d)).Sl F w v xs) : Pieces d F w b [xs] :=
  ⟨[v], hB, fun i hi => by
    have : i = 0 := by simpa using hi
    subst this
    exact ⟨v, rfl, h⟩⟩
theorem keeps_put {F : Nat → Prop} {x p B : Nat} (h : ∀ b, F b ∨ b = x ∨ b = p → b < B) (W : World) (l : Nat) (o o' : Obj) (hl : B ≤ l) (_ : W.heap[l]? = some o) (_ : o.isCells = false) (_ : o.isWalk = false) : KeepsIt F x p W (W.putObj l o') := fun b hb => World.putObj_heap_other (by have := h b hb; omega)

theorem from_size {β : Type} {B N : Nat} : OwnFrom B (fun (_ : β) W => N ≤ W.heap.size) := fun _ _ _ _ hs hg _ => Nat.le_trans hs hg.size
theorem set5_below {w w' : World} {B g : Nat} (hb : Below B w w') (hg : B ≤ g) (a b c d e : Value) : Below B w (((((w'.setCell ⟨g, 0, none⟩ a).setCell ⟨g, 1, none⟩ b).setCell ⟨g, 2, none⟩ c).setCell ⟨g, 3, none⟩ d).setCell ⟨g, 4, none⟩ e) := ((((hb.setCell hg _).setCell hg _).setCell hg _).setCell hg _).setCell hg _
theorem set5_blk {w : World} {g : Nat} {t : TypeId} {a0 b0 c0 d0 e0 : Value} (h : Blk w g t #[a0, b0, c0, d0, e0]) (a b c d e : Value) : Blk (((((w.setCell ⟨g, 0, none⟩ a).setCell ⟨g, 1, none⟩ b).setCell ⟨g, 2, none⟩ c).setCell ⟨g, 3, none⟩ d).setCell ⟨g, 4, none⟩ e) g t #[a, b, c, d, e] := ((((h.set_ 0 _).set_ 1 _).set_ 2 _).set_ 3 _).set_ 4 _
theorem set5_heap {w : World} {g : Nat} (a b c d e : Value) {i : Nat} (h : i ≠ g) : (((((w.setCell ⟨g, 0, none⟩ a).setCell ⟨g, 1, none⟩ b).setCell ⟨g, 2, none⟩ c).setCell ⟨g, 3, none⟩ d).setCell ⟨g, 4, none⟩ e).heap[i]? = w.heap[i]? := by
  rw [Below.heap_setCell _ _ _ _ h, Below.heap_setCell _ _ _ _ h, Below.heap_setCell _ _ _ _ h, Below.heap_setCell _ _ _ _ h, Below.heap_setCell _ _ _ _ h]
theorem set5_size {w : World} {g : Nat} (a b c d e : Value) : (((((w.setCell ⟨g, 0, none⟩ a).setCell ⟨g, 1, none⟩ b).setCell ⟨g, 2, none⟩ c).setCell ⟨g, 3, none⟩ d).setCell ⟨g, 4, none⟩ e).heap.size = w.heap.size := by simp [World.setCell]
theorem set5_keeps (w : World) (g : Nat) (a b c d e : Value) : KeepsOthers w (((((w.setCell ⟨g, 0, none⟩ a).setCell ⟨g, 1, none⟩ b).setCell ⟨g, 2, none⟩ c).setCell ⟨g, 3, none⟩ d).setCell ⟨g, 4, none⟩ e) := ((((KeepsOthers.setCell _ _ _).trans (KeepsOthers.setCell _ _ _)).trans (KeepsOthers.setCell _ _ _)).trans (KeepsOthers.setCell _ _ _)).trans (KeepsOthers.setCell _ _ _)
/-- What came last. -/
def lastK (ys : List KepR) : KepR := ys.getLast?.getD zeroK
/-- The cells of what came last. -/
def lastV {d : Nat} {F : Nat → Prop} {w : World} {G : KepR → Prop} (ys : List (KEl d F w G)) : Array Value :=
  match ys.getLast? with
  | some x => #[.int .i64 x.k.o, .string x.k.v.ty, .int .i64 x.k.v.n, .slice x.A x.k.v.parts.length x.cA, .slice x.B x.k.v.path.length x.cB]
  | none => #[.int .i64 0, .string ⟨#[]⟩, .int .i64 0, .slice none 0 0, .slice none 0 0]
theorem lastV_form {d : Nat} {F : Nat → Prop} {w : World} {G : KepR → Prop} (ys : List (KEl d F w G)) : ∃ (y : KepR) (A B : Option Addr) (n cA m cB : Nat), lastV ys = #[.int .i64 y.o, .string y.v.ty, .int .i64 y.v.n, .slice A n cA, .slice B m cB] ∧ y = lastK (ys.map KEl.k) := by
  unfold lastV lastK
  rw [List.getLast?_map]
  cases ys.getLast? with
  | none => exact ⟨zeroK, none, none, 0, 0, 0, 0, rfl, rfl⟩
  | some x => exact ⟨x.k, x.A, x.B, _, _, _, _, rfl, rfl⟩
theorem lastV_snoc {d : Nat} {F : Nat → Prop} {w : World} {G : KepR → Prop} (ys : List (KEl d F w G)) (x : KEl d F w G) : lastV (ys ++ [x]) = #[.int .i64 x.k.o, .string x.k.v.ty, .int .i64 x.k.v.n, .slice x.A x.k.v.parts.length x.cA, .slice x.B x.k.v.path.length x.cB] := by
  unfold lastV
  rw [List.getLast?_append]
  rfl

def okTo (ks : Ks) (d : Nat) (ys : List KepR) : Prop := ∀ i, i < ys.length → okAtK ks d ys i = true
def badTo (ks : Ks) (d : Nat) (ys : List KepR) : Prop := ∃ i, i < ys.length ∧ okAtK ks d ys i = false
theorem okAt_old {ks : Ks} {d : Nat} {ys zs : List KepR} {i : Nat} (h : i < ys.length) : okAtK ks d (ys ++ zs) i = okAtK ks d ys i := by
  unfold okAtK
  have g : ∀ j, j < ys.length → (ys ++ zs).getD j zeroK = ys.getD j zeroK := fun j hj => by
    simp only [List.getD_eq_getElem?_getD, List.getElem?_append_left hj]
  rw [g i h, g (i - 1) (by omega)]
theorem okAt_snoc {ks : Ks} {d : Nat} {ys : List KepR} {x : KepR} : okAtK ks d (ys ++ [x]) ys.length = (mayB ks d x && (decide (ys.length = 0) || ltK (lastK ys) x)) := by
  unfold okAtK mayB
  have g : (ys ++ [x]).getD ys.length zeroK = x := by simp [List.getD_eq_getElem?_getD]
  rw [g]
  rcases Nat.eq_zero_or_pos ys.length with h | h
  · rw [decide_eq_true h]; rfl
  · have g2 : (ys ++ [x]).getD (ys.length - 1) zeroK = lastK ys := by
      unfold lastK
      rw [List.getLast?_eq_getElem?]
      simp only [List.getD_eq_getElem?_getD, List.getElem?_append_left (show ys.length - 1 < ys.length by omega)]
    rw [g2]
theorem okTo_snoc {ks : Ks} {d : Nat} {ys : List KepR} {x : KepR} (h : okTo ks d ys) (h1 : mayB ks d x = true) (h2 : ltK (lastK ys) x = true) : okTo ks d (ys ++ [x]) := fun i hi => by
  rcases Nat.lt_or_ge i ys.length with g | g
  · rw [okAt_old g]; exact h i g
  · have : i = ys.length := by simp at hi; omega
    rw [this, okAt_snoc, h1, h2]
    simp
theorem badTo_may {ks : Ks} {d : Nat} {ys : List KepR} {x : KepR} (h1 : mayB ks d x = false) : badTo ks d (ys ++ [x]) := ⟨ys.length, by simp, by rw [okAt_snoc, h1]; rfl⟩
theorem ltK_zero {ks : Ks} {d : Nat} {x : KepR} (h : mayB ks d x = true) : ltK zeroK x = true := by
  unfold mayB at h
  simp only [Bool.and_eq_true] at h
  obtain ⟨h1, h2⟩ := h
  unfold inB at h1
  unfold keptB at h2
  simp only [Bool.and_eq_true, decide_eq_true_eq] at h1 h2
  rw [ltK_iff]
  by_cases h0 : (0 : Int) < x.o
  · exact .inl h0
  · refine .inr ⟨by show (0 : Int) = x.o; omega, ?_⟩
    have hs : x.v.ty.size = 3 := by
      rcases Nat.decEq x.v.ty.size 3 with h | h
      · rw [kind_three h] at h2; cases h2.1
      · exact h
    have hl := length_toList x.v.ty
    cases hx : x.v.ty.toList with
    | nil => rw [hx] at hl; simp at hl; omega
    | cons a r =>
      have h0' : zeroK.v.ty.toList = [] := List.eq_nil_of_length_eq_zero (by rw [length_toList]; rfl)
      rw [h0']
      rfl
theorem badTo_lt {ks : Ks} {d : Nat} {ys : List KepR} {x : KepR} (h1 : mayB ks d x = true) (h2 : ltK (lastK ys) x = false) : badTo ks d (ys ++ [x]) := ⟨ys.length, by simp, by
  rw [okAt_snoc, h1, h2, decide_eq_false]
  · rfl
  · intro h3
    rw [List.eq_nil_of_length_eq_zero h3] at h2
    have := ltK_zero h1
    rw [show lastK [] = zeroK from rfl] at h2
    rw [this] at h2
    cases h2⟩
theorem badTo_list {ks : Ks} {d : Nat} {ys xs : List KepR} (h : badTo ks d ys) (hp : ys <+: xs) : okList ks d xs = false := by
  obtain ⟨zs, rfl⟩ := hp
  obtain ⟨i, hi, hb⟩ := h
  exact okList_bad (i := i) (by simp; omega) (by rw [okAt_old hi]; exact hb)

set_option maxRecDepth 100000 in
set_option maxHeartbeats 4000000 in
theorem tabVaultsOk_any {ks : Ks} (d : Nat) (F : Nat → Prop) (g : Nat) (v : Value) (xs : List KepR) (w : World) (hab : AblesIn ks) (ht : Table F ks g w) (h : (Cod.kept (Cod.val d)).Sl F w v xs) (hF : ∀ b, F b → b < w.heap.size) :
    Calls Try.prog 55 #[.map (some g), v] w fun e w' => e = .returned (.bool (okList ks d xs)) ∧ Below w.heap.size w w' := by
  have HT := Lib.hid ht
  have HV := Lib.hid h
  have HF := Lib.hid hF
  have Hab := Lib.hid hab
  obtain ⟨A, cap, rfl, hlc, hcm, _⟩ := h
  unfold maxLen at hcm
  clear ht hF hab
  refine (callsIn_wide (n := 6)).1 ?_
  refine callsIn_of_wp_marks Try.func55 rfl trivial ?_ rfl
  simp only [Try.ntmps55, List.size_toArray, List.length_cons, List.length_nil, Nat.reduceAdd, Nat.reduceSub, Array.replicate_succ, Array.replicate_zero, List.push_toArray, List.append_toArray, List.nil_append, List.cons_append]
  by_cases hlen : 36 < xs.length
  · have hl : (36 : Int) < xs.length := by omega
    have HR := Lib.hid (show okList ks d xs = false by unfold okList; rw [decide_eq_false (by omega), Bool.and_false])
    gi_wp2
    refine ⟨.bool false, ?_, ret_bool HR.out.symm, ((Below.refl w.heap.size w).alloc (Nat.le_refl _) _).alloc (by simp) _⟩
    simp [results, Try.results55, go_sem]
  · have hl : ¬ (36 : Int) < xs.length := by omega
    have hlen2 : xs.length ≤ 36 := by omega
    obtain ⟨w5, hw5⟩ : ∃ u, u = ((((w.alloc (.cells #[.map (some g)] 101)).alloc (.cells #[.bool false] 4)).alloc (.cells #[.int .i64 0, .string ⟨#[]⟩, .int .i64 0, .slice none 0 0, .slice none 0 0] 97)).alloc (.cells #[.slice A xs.length cap] 57)).alloc (.cells #[.slice (some ⟨w.heap.size + 1 + 1 + 1, 0, none⟩) 1 1] 147) := ⟨_, rfl⟩
    have hs5 : w5.heap.size = w.heap.size + 5 := by rw [hw5]; simp
    have hb5 : Below w.heap.size w w5 := by rw [hw5]; exact (((((Below.refl _ _).alloc (Nat.le_refl _) _).alloc (by simp) _).alloc (by simp; omega) _).alloc (by simp; omega) _).alloc (by simp; omega) _
    have c0 : Blk w5 w.heap.size 101 #[.map (some g)] := by rw [hw5]; exact ((((Blk.new w _ _).alloc _).alloc _).alloc _).alloc _
    have c1 : Blk w5 (w.heap.size + 1) 4 #[.bool false] := by
      rw [hw5]
      have := (((Blk.new (w.alloc (.cells #[.map (some g)] 101)) 4 #[.bool false]).alloc (.cells #[.int .i64 0, .string ⟨#[]⟩, .int .i64 0, .slice none 0 0, .slice none 0 0] 97)).alloc (.cells #[.slice A xs.length cap] 57)).alloc (.cells #[.slice (some ⟨w.heap.size + 1 + 1 + 1, 0, none⟩) 1 1] 147)
      simpa using this
    have c2 : Blk w5 (w.heap.size + 1 + 1) 97 #[.int .i64 0, .string ⟨#[]⟩, .int .i64 0, .slice none 0 0, .slice none 0 0] := by
      rw [hw5]
      have := ((Blk.new ((w.alloc (.cells #[.map (some g)] 101)).alloc (.cells #[.bool false] 4)) 97 #[.int .i64 0, .string ⟨#[]⟩, .int .i64 0, .slice none 0 0, .slice none 0 0]).alloc (.cells #[.slice A xs.length cap] 57)).alloc (.cells #[.slice (some ⟨w.heap.size + 1 + 1 + 1, 0, none⟩) 1 1] 147)
      simpa using this
    have c3 : Blk w5 (w.heap.size + 1 + 1 + 1) 57 #[.slice A xs.length cap] := by
      rw [hw5]
      have := (Blk.new (((w.alloc (.cells #[.map (some g)] 101)).alloc (.cells #[.bool false] 4)).alloc (.cells #[.int .i64 0, .string ⟨#[]⟩, .int .i64 0, .slice none 0 0, .slice none 0 0] 97)) 57 #[.slice A xs.length cap]).alloc (.cells #[.slice (some ⟨w.heap.size + 1 + 1 + 1, 0, none⟩) 1 1] 147)
      simpa using this
    have c4 : Blk w5 (w.heap.size + 1 + 1 + 1 + 1) 147 #[.slice (some ⟨w.heap.size + 1 + 1 + 1, 0, none⟩) 1 1] := by
      rw [hw5]
      have := Blk.new ((((w.alloc (.cells #[.map (some g)] 101)).alloc (.cells #[.bool false] 4)).alloc (.cells #[.int .i64 0, .string ⟨#[]⟩, .int .i64 0, .slice none 0 0, .slice none 0 0] 97)).alloc (.cells #[.slice A xs.length cap] 57)) 147 #[.slice (some ⟨w.heap.size + 1 + 1 + 1, 0, none⟩) 1 1]
      simpa using this
    have hF5 : ∀ b, F b → b < w5.heap.size := fun b hb => by have := HF.out b hb; omega
    have hP5 : Pieces d F w5 (w.heap.size + 1 + 1 + 1) [xs] := pieces_one c3 (HV.out.keep (below_keeps hb5 HF.out))
    have hg := HT.out.lt
    gi_wp2_with (refine ⟨trivial, ?_⟩; gi_at_call 74; refine (keptIn_any _ _ _ _ _).mono ?_; rintro e w' ⟨rfl, rfl⟩)
    rw [← hw5]
    refine wpIn_rangeFunc_ownH rfl (by omega) (gf := 97) (lb := #[.pointer (some ⟨w.heap.size + 1 + 1 + 1 + 1, 0, none⟩)]) rfl trivial (enters_of Try.func97 (by kernel_rfl) rfl)
      (keptIn_stops 5 d (by omega) F (fun _ => True) w5 (w.heap.size + 1 + 1 + 1 + 1) (w.heap.size + 1 + 1 + 1) 1 [xs] (by simp) hP5 (fun _ _ => trivial) hF5 (by omega) (by omega) (c4.cell 0))
      (fun h k => KeepsIt.trans h k) (keeps_put (fun b hb => by rcases hb with h | h | h; exact hF5 b h; omega; omega)) (Below.refl _ _) (fun _ => rfl)
      (fun pre W => (okTo ks d (pre.map KEl.k) ∧ (Blk W (w.heap.size + 1 + 1) 97 (lastV pre) ∧ (Blk W w.heap.size 101 #[.map (some g)] ∧ Blk W (w.heap.size + 1) 4 #[.bool false]))) ∧ (Below w.heap.size w W ∧ w5.heap.size ≤ W.heap.size))
      (fun c pre W => ((c = .ret ∧ badTo ks d (pre.map KEl.k)) ∧ Blk W (w.heap.size + 1) 4 #[.bool false]) ∧ Below w.heap.size w W)
      (OwnFrom.and (OwnFrom.and (ownFrom_pure _ _) (OwnFrom.and (Own.from (blk_own _ _ _) _) (OwnFrom.and (Own.from (blk_own _ _ _) _) (Own.from (blk_own _ _ _) _)))) (OwnFrom.and (ownFrom_below (Nat.le_refl _) (by omega)) from_size))
      (fun c => OwnFrom.and (OwnFrom.and (ownFrom_pure _ _) (Own.from (blk_own _ _ _) _)) (ownFrom_below (Nat.le_refl _) (by omega)))
      ⟨⟨fun i hi => absurd hi (by simp), c2, c0, c1⟩, hb5, Nat.le_refl _⟩
      (fun x a' W => ∃ Bx, w.heap.size + 1 + 1 < Bx ∧ Blk W Bx 97 #[.int .i64 x.k.o, .string x.k.v.ty, .int .i64 x.k.v.n, .slice x.A x.k.v.parts.length x.cA, .slice x.B x.k.v.path.length x.cB] ∧ a' = { tmps := #[.map (some g), .slice A xs.length cap, .pointer (some ⟨w.heap.size, 0, none⟩), undef, .pointer (some ⟨w.heap.size + 1, 0, none⟩), .pointer (some ⟨w.heap.size + 1 + 1, 0, none⟩), .pointer (some ⟨Bx, 0, none⟩), .slice A xs.length cap, .int .i64 xs.length, .bool false, .agg #[.int .i64 0, .string ⟨#[]⟩, .int .i64 0, .slice none 0 0, .slice none 0 0], .slice A xs.length cap, .slice (some ⟨w.heap.size + 1 + 1 + 1, 0, none⟩) 1 1, .func (.func 97) #[] #[.pointer (some ⟨w.heap.size + 1 + 1 + 1 + 1, 0, none⟩)], x.val, undef, undef, undef, undef, undef, undef, undef, undef, undef, undef, undef], defers := [] })
      ?hax ?assign ?body ?done ?stop
    case hax =>
      rintro x a' _ W W' row ⟨Bx, h1, h2, h3⟩ hg' hr
      exact ⟨Bx, h1, blk_own Bx _ (fun _ : Unit => _) () W W' row h2 hg' (fun r e => (hr r e).2), h3⟩
    case assign =>
      rintro l pre ⟨k, Aa, ca, Ba, cb, ho, hv, hgd⟩ W K ⟨⟨h1, h2, h3, h4⟩, h5, h6⟩ hK
      dsimp only [KEl.val] at hK ⊢
      gi_wp2
      have hb := (Below.refl W.heap.size W).alloc (Nat.le_refl _) (.cells #[.int .i64 k.o, .string k.v.ty, .int .i64 k.v.n, .slice Aa k.v.parts.length ca, .slice Ba k.v.path.length cb] 97)
      exact hK _ _ ((keeps_below hb).from _) (keeps_it hb (fun b hb => by rcases hb with h | h | h; have := hF5 b h; omega; omega; omega)) ⟨⟨h1, h2.alloc _, h3.alloc _, h4.alloc _⟩, h5.trans (hb.mono h5.size), Nat.le_trans h6 hb.size⟩ ⟨W.heap.size, h2.lt, Blk.new _ _ _, rfl⟩
    case body =>
      rintro l pre ⟨k, Aa, ca, Ba, cb, ho, hv, hgd⟩ a' W hl ⟨r, hr⟩ ⟨⟨hok, hlast, hm, hres⟩, hB, hsz⟩ ⟨Bx, hBx, hx, rfl⟩ hlt
      obtain ⟨y, A1, B1, n1, ca1, m1, cb1, hly, hy⟩ := lastV_form pre
      rw [hly] at hlast
      dsimp only [KEl.val] at hx ⊢
      have hkw : ∀ b, b < w.heap.size → W.heap[b]? = w5.heap[b]? := fun b hb => (hB.block b hb).trans (hb5.block b hb).symm
      have HC := Lib.hid (keptOk_any d F g Aa Ba k.v.parts.length k.v.path.length ca cb k W Hab.out (HT.out.keep (fun b hb => hB.block b (HF.out b hb)) (hB.block g hg)) (hv.keep (fun b hb => hkw b (HF.out b hb))) (fun b hb => by have := hF5 b hb; omega))
      have HC2 := Lib.hid (fun w' => compareKept_any y k A1 B1 Aa Ba n1 ca1 m1 cb1 k.v.parts.length ca k.v.path.length cb w')
      obtain ⟨x0, x1, x2, x3, x4⟩ := hx.c5
      have m0 := hm.cell 0
      have m0' : W.cell? ⟨w.heap.size, 0, none⟩ = some (.map (some g)) := m0
      have r0 : W.cell? ⟨w.heap.size + 1, 0, none⟩ = some (.bool false) := hres.cell 0
      have rf := hres.frozen 0
      have HXb := Lib.hid hx
      have HLb := Lib.hid hlast
      have HMb := Lib.hid hm
      have HRb := Lib.hid hres
      have HBb := Lib.hid hB
      have HOk := Lib.hid hok
      have hwl := hB.size
      have HSn : ∀ (q : KepR), (pre ++ [⟨k, Aa, ca, Ba, cb, ho, hv, hgd⟩] : List (KEl d F w5 (fun _ => True))).map KEl.k = pre.map KEl.k ++ [k] := fun _ => by rw [List.map_append]; rfl
      have HSn := Lib.hid (HSn k)
      have HSv := Lib.hid (lastV_snoc pre ⟨k, Aa, ca, Ba, cb, ho, hv, hgd⟩)
      have HFlt := Lib.hid (show ∀ b, F b ∨ b = w.heap.size + 1 + 1 + 1 + 1 ∨ b = w.heap.size + 1 + 1 + 1 → b < W.heap.size from fun b hb => by rcases hb with h | h | h; have := hF5 b h; omega; omega; omega)
      clear hx hlast hm hres hB hok m0 hr
      cases hmay : mayB ks d k with
      | false =>
        rw [hmay] at HC
        have HBad := Lib.hid (show badTo ks d (pre.map KEl.k ++ [k]) from badTo_may hmay)
        clear hmay
        gi_wp2_with (refine ⟨trivial, ?_⟩; gi_at_call 75; refine (CallsIn.inRound l (callsIn_wide.2 HC.out)).mono ?_; rintro e w1 ⟨rfl, hb1⟩; have HR1 := HRb.out.below hb1 HRb.out.lt; have q0 : w1.cell? ⟨w.heap.size + 1, 0, none⟩ = some (.bool false) := HR1.cell 0; have qf := HR1.frozen 0)
        refine ⟨trivial, ?_⟩
        gi_wp2
        exact ⟨((keeps_below hb1).trans (KeepsOthers.setCell _ _ _)).from _, ⟨⟨rfl, by rw [HSn.out]; exact HBad.out⟩, HR1.set_ 0 _⟩, (HBb.out.trans (hb1.mono hwl)).setCell (Nat.le_succ w.heap.size) _⟩
      | true =>
        rw [hmay] at HC
        obtain ⟨c, hcd⟩ : ∃ c, c = cmpK y k := ⟨_, rfl⟩
        rw [← hcd] at HC2
        by_cases hc : 0 ≤ c
        · have HBad := Lib.hid (show badTo ks d (pre.map KEl.k ++ [k]) from badTo_lt hmay (by
            rw [← hy, Bool.eq_false_iff, ne_eq, ← cmpK_lt, ← hcd]
            omega))
          clear hmay hcd hy
          gi_wp2_with (first
            | (refine ⟨trivial, ?_⟩; gi_at_call 75; refine (CallsIn.inRound l (callsIn_wide.2 HC.out)).mono ?_; rintro e w1 ⟨rfl, hb1⟩; obtain ⟨u0, u1, u2, u3, u4⟩ := Blk.c5 (HXb.out.below hb1 HXb.out.lt); obtain ⟨l0, l1, l2, l3, l4⟩ := Blk.c5 (HLb.out.below hb1 HLb.out.lt))
            | (refine ⟨trivial, ?_⟩; gi_at_call 76; refine (CallsIn.inRound l (callsIn_wide.2 (HC2.out _))).mono ?_; rintro e w2 ⟨rfl, hb2⟩; have hb12 := hb1.trans (hb2.mono hb1.size); have HR1 := HRb.out.below hb12 HRb.out.lt; have q0 : w2.cell? ⟨w.heap.size + 1, 0, none⟩ = some (.bool false) := HR1.cell 0; have qf := HR1.frozen 0))
          exact ⟨((keeps_below hb12).trans (KeepsOthers.setCell _ _ _)).from _, ⟨⟨rfl, by rw [HSn.out]; exact HBad.out⟩, HR1.set_ 0 _⟩, (HBb.out.trans (hb12.mono hwl)).setCell (Nat.le_succ w.heap.size) _⟩
        · have HGo := Lib.hid (show okTo ks d (pre.map KEl.k ++ [k]) from okTo_snoc HOk.out hmay (by
            rw [← hy, ← cmpK_lt, ← hcd]
            omega))
          clear hmay hcd hy
          gi_wp2_with (first
            | (refine ⟨trivial, ?_⟩; gi_at_call 75; refine (CallsIn.inRound l (callsIn_wide.2 HC.out)).mono ?_; rintro e w1 ⟨rfl, hb1⟩; obtain ⟨u0, u1, u2, u3, u4⟩ := Blk.c5 (HXb.out.below hb1 HXb.out.lt); obtain ⟨l0, l1, l2, l3, l4⟩ := Blk.c5 (HLb.out.below hb1 HLb.out.lt))
            | (refine ⟨trivial, ?_⟩; gi_at_call 76; refine (CallsIn.inRound l (callsIn_wide.2 (HC2.out _))).mono ?_; rintro e w2 ⟨rfl, hb2⟩; have hb12 := hb1.trans (hb2.mono hb1.size); obtain ⟨v0, v1, v2, v3, v4⟩ := Blk.c5 (HXb.out.below hb12 HXb.out.lt); obtain ⟨n0, n1, n2, n3, n4⟩ := Blk.c5 (HLb.out.below hb12 HLb.out.lt); obtain ⟨f0, f1, f2, f3, f4⟩ := Blk.f5 (HLb.out.below hb12 HLb.out.lt)))
          have hs12 := hb12.size
          exact ⟨((keeps_below hb12).trans (set5_keeps _ _ _ _ _ _ _)).from _,
            fun b hb => by
              have h0 := HFlt.out b hb
              rw [set5_heap _ _ _ _ _ (by rcases hb with h | h | h; have := HF.out b h; omega; omega; omega)]
              exact hb12.block b h0,
            ⟨by rw [HSn.out]; exact HGo.out, by rw [HSv.out]; exact set5_blk (HLb.out.below hb12 HLb.out.lt) _ _ _ _ _, (set5_heap _ _ _ _ _ (by omega)).trans (HMb.out.below hb12 HMb.out.lt), (set5_heap _ _ _ _ _ (by omega)).trans (HRb.out.below hb12 HRb.out.lt)⟩,
            set5_below (HBb.out.trans (hb12.mono hwl)) (by omega) _ _ _ _ _, by rw [set5_size]; omega⟩
    case done =>
      rintro D ys W hD hS ⟨⟨hok, hlast, hm, hres⟩, hB, hsz⟩ hK
      have hys : ys.map KEl.k = xs := by rw [hS]; simp
      have HR := Lib.hid (show okList ks d xs = true by rw [← hys, okList_end hok, decide_eq_true_eq, hys]; exact hlen2)
      have r0 : W.cell? ⟨w.heap.size + 1, 0, none⟩ = some (.bool false) := hres.cell 0
      have rf := hres.frozen 0
      clear hlast hm
      gi_wp2
      have hK' := (KeepsOthers.setCell W ⟨w.heap.size + 1, 0, none⟩ (.bool true)).same D _ hK rfl
      refine ⟨by simp, .inl ⟨_, _, rfl, run_takeDeferred hK', ?_⟩⟩
      have hc5 := cell_kept (World.cell?_setCell_same' W ⟨w.heap.size + 1, 0, none⟩ (.bool true) (by rw [r0]; rfl)) (grownBy_putObj' _ D (.deferred none)) (fun r e => by cases e; exact ⟨_, hK', rfl⟩)
      refine ⟨.bool true, ?_, ret_bool HR.out.symm, (hB.setCell (p := ⟨w.heap.size + 1, 0, none⟩) (Nat.le_succ w.heap.size) _).trans (belowK_b (w := w) (Nat.le_refl _) _ D _ _ (by omega) hK' rfl rfl)⟩
      simp [results, Try.results55, go_sem, hc5]
    case stop =>
      rintro D c pre W hD hpre ⟨⟨⟨rfl, hbad⟩, hres⟩, hB⟩ hK
      have HR := Lib.hid (show okList ks d xs = false from badTo_list hbad (by simpa using hpre))
      have r0 : W.cell? ⟨w.heap.size + 1, 0, none⟩ = some (.bool false) := hres.cell 0
      gi_wp2
      refine ⟨by simp, .inl ⟨_, _, rfl, run_takeDeferred hK, ?_⟩⟩
      have hc5 := cell_kept r0 (grownBy_putObj' _ D (.deferred none)) (fun r e => by cases e; exact ⟨_, hK, rfl⟩)
      refine ⟨.bool false, ?_, ret_bool HR.out.symm, hB.trans (belowK_b (w := w) (Nat.le_refl _) W D _ _ (by omega) hK rfl rfl)⟩
      simp [results, Try.results55, go_sem, hc5]

end Go.Proofs.Ythkdkefkgmmoiaa
