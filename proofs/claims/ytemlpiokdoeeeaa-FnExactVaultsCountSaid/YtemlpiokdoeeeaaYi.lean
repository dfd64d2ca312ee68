/- The program's copyKept: vaults of pieces, which share no memory with these. -/
import Derived.Test.YtemlpiokdoeeeaaYc
import Derived.Test.YtemlpiokdoeeeaaYf
import Derived.Test.YtemlpiokdoeeeaaYh
import Derived.Deep.RegionHeld3
namespace Go.Proofs.Ytemlpiokdoeeeaa
open Go.RowKit
attribute [local go_sem] Oper.semAt_some

theorem RGrow.row_cells {α : Type} {c : OCod α} {t : TypeId} {lo X m : Nat} {w : World} {v : Value} {xs : List α} (h : RGrow c t lo X m w v xs) {j : Nat} {o : Obj} (hj : v.ownBlock = some j) (ho : w.heap[j]? = some o) : o.isCells = true := by
  obtain ⟨us, h0, -⟩ := h
  rcases h0.2 with ⟨rfl, _⟩ | ⟨g, cap, cur, rfl, _, hh, _⟩
  · simp [Value.ownBlock] at hj
  · obtain rfl : g = j := by simpa [Value.ownBlock] using hj
    have h2 : Blk w g t cur := hh
    rw [show w.heap[g]? = _ from h2] at ho
    cases ho
    rfl
theorem RGrow.row_lo {α : Type} {c : OCod α} {t : TypeId} {lo X m : Nat} {w : World} {v : Value} {xs : List α} (h : RGrow c t lo X m w v xs) {j : Nat} (hj : v.ownBlock = some j) : lo ≤ j := by
  obtain ⟨us, h0, -⟩ := h
  rcases h0.2 with ⟨rfl, _⟩ | ⟨g, cap, cur, rfl, hl, hh, _⟩
  · simp [Value.ownBlock] at hj
  · obtain rfl : g = j := by simpa [Value.ownBlock] using hj
    exact hl

theorem info_kep5 : (Try.prog.info? 35).map (fun i => (i.zero, i.size, i.bytes)) = some (some (.agg #[.int .i64 0, .string ⟨#[]⟩, .int .i64 0, .slice none 0 0, .slice none 0 0]), 5, 80) := by kernel_rfl

/-- What lies behind one more record. -/
structure PushD (d : Nat) (w0 X : Nat) (W w4 : World) (b3 : Nat) (Y0 : Option Addr) (n0 c0 : Nat) (Y : Option Addr) (n cap : Nat) (xs : List KepR) : Prop where
  box : Blk w4 b3 24 #[.slice Y n cap]
  row : ∃ m, RGrow (OKept d) 35 w0 X m w4 (.slice Y n cap) xs
  below : Below w0 W w4
  others : KeepsOthers W w4
  size : W.heap.size ≤ w4.heap.size
  rest : ∀ b, b < W.heap.size → b ≠ b3 → (Value.slice Y0 n0 c0).ownBlock ≠ some b → w4.heap[b]? = W.heap[b]?

theorem copyKept_push {d w0 X b3 m n cy : Nat} {W w1 : World} {Y A2 : Option Addr} {c2 : Nat} {xs : List KepR} {k : KepR} (hn : n = xs.length) (h : RGrow (OKept d) 35 w0 X m W (.slice Y n cy) xs) (hB3 : Blk W b3 24 #[.slice Y n cy]) (h30 : w0 ≤ b3) (h3X : b3 < X) (hlen : n ≤ 2000000)
    (hO : Go.Proofs.Ytemlpiokdoeeeaa.Own (OCod.val 31 3 d) 31 W.heap.size w1.heap.size w1 (.slice A2 k.v.parts.length c2) k.v.parts) (hb : Below W.heap.size W w1) (hc : CellsOn W.heap.size w1) (hko : I64 k.o) (hty : k.v.ty.size ≤ maxLen) (hkn : I64 k.v.n) (hkp : k.v.path = []) :
    ∃ g cap w3, (Builtin.append_ #[24, 24] 24 #[.slice Y n cy, .slice (some ⟨w1.heap.size, 0, none⟩) 1 1]).run Try.prog (w1.alloc (.cells #[.int .i64 k.o, .string k.v.ty, .int .i64 k.v.n, .slice A2 k.v.parts.length c2, .slice none 0 0] 35)) = .ok (.slice (some ⟨g, 0, none⟩) (n + 1) cap) w3 ∧
      Blk w3 b3 24 #[.slice Y n cy] ∧ PushD d w0 X W (w3.setCell ⟨b3, 0, none⟩ (.slice (some ⟨g, 0, none⟩) (n + 1) cap)) b3 Y n cy (some ⟨g, 0, none⟩) (n + 1) cap (xs ++ [k]) ∧
      (∀ b, b < W.heap.size → (Value.slice Y n cy).ownBlock ≠ some b → w3.heap[b]? = W.heap[b]?) := by
  subst hn
  obtain ⟨w2, hw2⟩ : ∃ w2, w2 = w1.alloc (.cells #[.int .i64 k.o, .string k.v.ty, .int .i64 k.v.n, .slice A2 k.v.parts.length c2, .slice none 0 0] 35) := ⟨_, rfl⟩
  have hs2 : w2.heap.size = w1.heap.size + 1 := by rw [hw2]; simp
  have hb12 : Below w1.heap.size w1 w2 := by rw [hw2]; exact (Below.refl _ _).alloc (Nat.le_refl _) _
  have hb2 : Below W.heap.size W w2 := hb.trans (hb12.mono hb.size)
  have hs1 := hb.size
  have hX0 : w0 ≤ W.heap.size := by obtain ⟨_, _, _, h1, _⟩ := h; exact h1
  have hmW : m ≤ W.heap.size := by obtain ⟨_, _, _, _, _, h1, _⟩ := h; exact h1
  have hXm : X ≤ m := by obtain ⟨_, _, _, _, h1, _⟩ := h; exact h1
  have hrl : ∀ b, (Value.slice Y xs.length cy).ownBlock = some b → b < m := by obtain ⟨_, _, _, _, _, _, h1, _⟩ := h; exact h1
  have h2 : RGrow (OKept d) 35 w0 X m w2 (.slice Y xs.length cy) xs := h.keep hb2.size (fun b _ g2 => hb2.block b (by omega)) (fun b hb' => hb2.block b (by have := hrl b hb'; omega))
  have hcell2 : CellsOn W.heap.size w2 := by rw [hw2]; exact hc.alloc _ _
  have hOV : (OKept d).rd W.heap.size w1.heap.size w2 [.int .i64 k.o, .string k.v.ty, .int .i64 k.v.n, .slice A2 k.v.parts.length c2, .slice none 0 0] k :=
    ⟨_, _, rfl, hko, hty, hkn, w1.heap.size, hs1, Nat.le_refl _, hO.keep fun b _ g2 => hb12.block b g2, by rw [hkp]; exact own_nil5⟩
  obtain ⟨g, cap, w3, happ, hR3, hg3⟩ := h2.push (P := Try.prog) 24 24 _ 5 80 Try.underlying24 info_kep5 rfl rfl (by omega) (by omega) hlen W.heap.size w1.heap.size w1.heap.size 1 _ k (by rw [hw2]; exact Blk.new w1 _ _) (fun u hu => by simp at hu; rcases hu with rfl | rfl | rfl | rfl | rfl <;> rfl) (by omega) (by omega) (by omega) hOV (fun b o g1 _ ho => hcell2 b o g1 ho)
  have hne : (Value.slice Y xs.length cy).ownBlock ≠ some b3 := h2.row_ne (hB3.below hb2 hB3.lt) (by decide)
  have hB33 : Blk w3 b3 24 #[.slice Y xs.length cy] := (hg3.block b3 (by have := hB3.lt; omega) (fun e => hne e.symm)).trans (hB3.below hb2 hB3.lt)
  have hne3 : (Value.slice (some ⟨g, 0, none⟩) (xs.length + 1) cap).ownBlock ≠ some b3 := hR3.row_ne hB33 (by decide)
  have hs3 := hg3.size
  have hrest : ∀ b, b < W.heap.size → (Value.slice Y xs.length cy).ownBlock ≠ some b → w3.heap[b]? = W.heap[b]? := fun b h1 h2 => (hg3.block b (by omega) (fun e => h2 e.symm)).trans (hb2.block b h1)
  refine ⟨g, cap, w3, by rw [← hw2]; exact happ, hB33, ⟨?_, ⟨w3.heap.size, ?_⟩, ?_, ?_, by simp [World.setCell]; omega, fun b h1 h2 h3 => (Below.heap_setCell _ _ _ _ h2).trans (hrest b h1 h3)⟩, hrest⟩
  · exact hB33.set_ 0 _
  · refine hR3.keep (by simp [World.setCell]) (fun b g1 _ => Below.heap_setCell _ _ _ _ (by simp; omega)) (fun b hb' => Below.heap_setCell _ _ _ _ (fun e => hne3 (by rw [hb', e])))
  · exact ((hb2.mono hX0).grown hg3 (by omega) (fun j e => h2.row_lo e)).setCell h30 _
  · exact ((keeps_below hb2).trans (KeepsOthers.of_grownBy hg3 fun j o ej hj => h2.row_cells ej hj)).trans (KeepsOthers.setCell _ _ _)

/-- In a round, at the widest fence, an operation that defers nothing goes as everywhere. -/
theorem wpIn_round {l n : Nat} {P : Program} {o : Oper} {a : Act} {w : World} {K : Act → World → Prop} {Q : Exit → Act → World → Prop} (hd : ∀ c, o.op ≠ .defer c) (h : Oper.wp P o a w K Q) : Oper.wpIn (Fence.wide.inRound l) n P o a w K Q := by
  unfold Oper.wpIn
  refine ⟨fun _ _ => trivial, ?_⟩
  rw [Fence.inRound_round, Oper.semAt_some l _ o hd]
  unfold Oper.wp at h
  revert h
  cases (execOp a.eval o).run P w with
  | ok x w' =>
    cases x with
    | value v => exact fun h => h
    | skip => exact fun h => h
    | defer d => exact fun h => h
    | enter f args =>
      intro h
      exact And.intro (fun hh => by simp [Fence.wide] at hh) (CallsIn.inRound l (callsIn_wide.2 h))
    | row r args =>
      intro h
      refine And.intro (fun hh => by simp [Fence.wide] at hh) (fun c cs _ => ?_)
      obtain ⟨v, w'', h1, h2⟩ := (show Rows P r args w' _ from h) c cs
      exact ⟨v, w'', h1, stepsIn_wide.2 h2⟩
    | _ => exact fun h => h.elim
  | halt x w' =>
    cases x with
    | panic v => exact fun h => h
    | _ => exact fun h => h.elim
/-- .. and so does a region that draws. -/
theorem wpAnyIn_round {l n : Nat} {P : Program} {md : Region.Mode} {ops : Array Oper} {Q : Exit → Act → World → Prop} (hd : ∀ (i : Nat) (o : Oper), ops[i]? = some o → ∀ c, o.op ≠ .defer c) (hQ : ¬ LetsOut Q) :
    ∀ (fuel : Nat) (listed : Array Bool) (a : Act) (w : World), wpAny P md ops Q fuel listed a w → wpAnyIn (Fence.wide.inRound l) n P md ops Q fuel listed a w
  | 0, _, _, _, h => h
  | fuel + 1, listed, a, w, h => by
    refine ⟨h.1, fun i hi => ?_⟩
    have h2 := h.2 i hi
    unfold wpOp at h2
    unfold wpOpIn
    cases ho : ops[i]? with
    | none =>
      rw [ho] at h2
      exact wpAnyIn_round hd hQ fuel _ _ _ h2
    | some o =>
      rw [ho] at h2
      simp only at h2 ⊢
      split at h2
      · rename_i hw
        rw [if_pos hw]
        rcases h2 with h2 | ⟨_, h2⟩
        · exact wpIn_round (hd i o ho) (Oper.wp_mono (fun a w h => wpAnyIn_round hd hQ fuel _ a w h) h2)
        · exact absurd h2 hQ
      · rename_i hw
        rw [if_neg hw]
        exact ⟨fun _ _ => trivial, wpAnyIn_round hd hQ fuel _ _ _ h2⟩
def noDefer (ops : Array Oper) : Bool := ops.all fun o => match o.op with | .defer _ => false | _ => true
theorem noDefer_spec {ops : Array Oper} (h : noDefer ops = true) (i : Nat) (o : Oper) (ho : ops[i]? = some o) (c : Call) : o.op ≠ .defer c := fun hc => by
  unfold noDefer at h
  rw [Array.all_eq_true] at h
  obtain ⟨hlt, hi⟩ := Array.getElem?_eq_some_iff.1 ho
  have := h i hlt
  rw [hi, hc] at this
  cases this
theorem wpIn_region_round {l n id : Nat} {P : Program} {ops : Array Oper} {Q : Exit → Act → World → Prop} {a : Act} {w : World} {S : World → Prop} (hm : P.follows .mixedOrders = true) (hd : noDefer ops = true) (hQ : ¬ LetsOut Q)
    (hS : S w.drew) (h : S w.drew → wpAnyH P .any ops Q S ops.size (Array.replicate ops.size false) a w.drew) : (Code.region id ops true).wpIn (Fence.wide.inRound l) n P Q a w :=
  wpIn_region_any hm (wpAnyIn_round (noDefer_spec hd) hQ _ _ _ _ (wpAny_of_held _ _ _ _ (h hS)))

set_option maxRecDepth 100000 in
set_option maxHeartbeats 8000000 in
theorem copyKept_any {ks : Ks} (d : Nat) (F : Nat → Prop) (bp cp : Nat) (ps : List (List KepR)) (w : World) (hP : Pieces d F w bp ps) (hbp : bp < w.heap.size) (hF : ∀ b, F b → b < w.heap.size) (hpl : ps.length ≤ 3) (hcp : cp ≤ 1000) (hpc : ps.length ≤ cp)
    (hG : ∀ x ∈ ps.flatten, okOf ks (okV ks d) x.v = true ∧ SmolKep d x) (hlen : ps.flatten.length ≤ 1000000) :
    Calls Try.prog 77 #[.slice (some ⟨bp, 0, none⟩) ps.length cp] w fun e w' => ∃ Y cy, e = .returned (.slice Y ps.flatten.length cy) ∧ Go.Proofs.Ytemlpiokdoeeeaa.Own (OKept d) 35 w.heap.size w'.heap.size w' (.slice Y ps.flatten.length cy) ps.flatten ∧ Below w.heap.size w w' := by
  have HF := Lib.hid hF
  obtain ⟨w3, hw3⟩ : ∃ u, u = ((w.alloc (.cells #[] 35)).alloc (.cells #[.slice (some ⟨w.heap.size, 0, none⟩) 0 0] 24)).alloc (.cells #[.slice (some ⟨bp, 0, none⟩) ps.length cp] 138) := ⟨_, rfl⟩
  have hs3 : w3.heap.size = w.heap.size + 3 := by rw [hw3]; simp
  have hb3 : Below w.heap.size w w3 := by rw [hw3]; exact (((Below.refl _ _).alloc (Nat.le_refl _) _).alloc (by simp) _).alloc (by simp; omega) _
  have c0 : Blk w3 w.heap.size 35 #[] := by rw [hw3]; exact ((Blk.new w _ _).alloc _).alloc _
  have c1 : Blk w3 (w.heap.size + 1) 24 #[.slice (some ⟨w.heap.size, 0, none⟩) 0 0] := by
    rw [hw3]
    have := (Blk.new (w.alloc (.cells #[] 35)) 24 #[.slice (some ⟨w.heap.size, 0, none⟩) 0 0]).alloc (.cells #[.slice (some ⟨bp, 0, none⟩) ps.length cp] 138)
    simpa using this
  have c2 : Blk w3 (w.heap.size + 1 + 1) 138 #[.slice (some ⟨bp, 0, none⟩) ps.length cp] := by
    rw [hw3]
    have := Blk.new ((w.alloc (.cells #[] 35)).alloc (.cells #[.slice (some ⟨w.heap.size, 0, none⟩) 0 0] 24)) 138 #[.slice (some ⟨bp, 0, none⟩) ps.length cp]
    simpa using this
  have hF3 : ∀ b, F b → b < w3.heap.size := fun b hb => by have := hF b hb; omega
  have hP3 : Pieces d F w3 bp ps := by
    obtain ⟨vs, h1, h2⟩ := hP
    exact ⟨vs, h1.below hb3 hbp, fun i hi => by
      obtain ⟨v, h3, h4⟩ := h2 i hi
      exact ⟨v, h3, h4.keep (below_keeps hb3 hF)⟩⟩
  clear hP hF
  refine (callsIn_wide (n := 6)).1 ?_
  refine callsIn_of_wp_marks Try.func77 rfl trivial ?_ rfl
  simp only [Try.ntmps77, List.size_toArray, List.length_cons, List.length_nil, Nat.reduceAdd, Nat.reduceSub, Array.replicate_succ, Array.replicate_zero, List.push_toArray, List.append_toArray, List.nil_append, List.cons_append]
  gi_wp2_with (refine ⟨trivial, ?_⟩; gi_at_call 83; refine (keptIn_any _ _ _ _ _).mono ?_; rintro e w' ⟨rfl, rfl⟩)
  rw [← hw3]
  refine wpIn_rangeFunc_ownH rfl (by omega) (gf := 105) (lb := #[.pointer (some ⟨w.heap.size + 1 + 1, 0, none⟩)]) rfl trivial (enters_of Try.func105 (by kernel_rfl) rfl)
    (keptIn_stops 5 d (by omega) F (fun x => okOf ks (okV ks d) x.v = true ∧ SmolKep d x) w3 (w.heap.size + 1 + 1) bp cp ps hpl hP3 hG hF3 (by omega) (by omega) (c2.cell 0))
    (fun h k => KeepsIt.trans h k) (keeps_put (fun b hb => by rcases hb with h | h | h; exact hF3 b h; omega; omega)) (Below.refl _ _) (fun _ => rfl)
    (fun pre W => (∃ (Y : Option Addr) (cy : Nat), Blk W (w.heap.size + 1) 24 #[.slice Y pre.length cy] ∧ ∃ m, RGrow (OKept d) 35 w.heap.size (w.heap.size + 3) m W (.slice Y pre.length cy) (pre.map KEl.k)) ∧ (Blk W (w.heap.size + 1 + 1) 138 #[.slice (some ⟨bp, 0, none⟩) ps.length cp] ∧ (Below w.heap.size w W ∧ w3.heap.size ≤ W.heap.size)))
    (fun _ _ _ => False)
    (OwnFrom.and (fun s W W' row ⟨Y, cy, h1, m, h2⟩ hg hr => ⟨Y, cy, blk_own _ _ (fun _ : Unit => _) () W W' row h1 hg (fun r e => (hr r e).2), m, h2.turn hg (fun r e => (hr r e).2)⟩) (OwnFrom.and (Own.from (blk_own _ _ _) _) (OwnFrom.and (ownFrom_below (Nat.le_refl _) (by omega)) from_size)))
    (fun c _ _ _ _ h _ _ => h)
    ⟨⟨_, _, c1, _, RGrow.lit c0 (Nat.le_refl _) (by omega) (by omega)⟩, c2, hb3, Nat.le_refl _⟩
    (fun x a' W => ∃ (Bx : Nat) (Y0 : Option Addr) (n0 c0 : Nat), (Blk W (w.heap.size + 1) 24 #[.slice Y0 n0 c0] ∧ (Value.slice Y0 n0 c0).ownBlock ≠ some Bx) ∧ w.heap.size + 1 + 1 < Bx ∧ Blk W Bx 35 #[.int .i64 x.k.o, .string x.k.v.ty, .int .i64 x.k.v.n, .slice x.A x.k.v.parts.length x.cA, .slice x.B x.k.v.path.length x.cB] ∧ a' = { tmps := #[.slice (some ⟨bp, 0, none⟩) ps.length cp, undef, .slice none 0 0, .pointer (some ⟨w.heap.size + 1, 0, none⟩), .pointer (some ⟨Bx, 0, none⟩), .slice (some ⟨w.heap.size, 0, none⟩) 0 0, .slice (some ⟨bp, 0, none⟩) ps.length cp, .func (.func 105) #[] #[.pointer (some ⟨w.heap.size + 1 + 1, 0, none⟩)], x.val, undef, undef, undef, undef, undef, undef, undef, undef, undef, undef], defers := [] })
    ?hax ?assign ?body ?done ?stop
  case hax =>
    rintro x a' _ W W' row ⟨Bx, Y0, n0, c0, ⟨g1, g2⟩, h1, h2, h3⟩ hg' hr
    exact ⟨Bx, Y0, n0, c0, ⟨blk_own _ _ (fun _ : Unit => _) () W W' row g1 hg' (fun r e => (hr r e).2), g2⟩, h1, blk_own Bx _ (fun _ : Unit => _) () W W' row h2 hg' (fun r e => (hr r e).2), h3⟩
  case assign =>
    rintro l pre ⟨k, Aa, ca, Ba, cb, ho, hv, hgd⟩ W K ⟨⟨Y, cy, h1, m, h2⟩, h4, h5, h6⟩ hK
    dsimp only [KEl.val] at hK ⊢
    gi_wp2
    have hb := (Below.refl W.heap.size W).alloc (Nat.le_refl _) (.cells #[.int .i64 k.o, .string k.v.ty, .int .i64 k.v.n, .slice Aa k.v.parts.length ca, .slice Ba k.v.path.length cb] 35)
    have hmW : m ≤ W.heap.size := by obtain ⟨_, _, _, _, _, h1, _⟩ := h2; exact h1
    have hrl : ∀ b, (Value.slice Y pre.length cy).ownBlock = some b → b < m := by obtain ⟨_, _, _, _, _, _, h1, _⟩ := h2; exact h1
    exact hK _ _ ((keeps_below hb).from _) (keeps_it hb (fun b hb => by rcases hb with h | h | h; have := hF3 b h; omega; omega; omega)) ⟨⟨Y, cy, h1.alloc _, m, h2.keep hb.size (fun b _ g2 => hb.block b (by omega)) (fun b hb' => hb.block b (by have := hrl b hb'; omega))⟩, h4.alloc _, h5.trans (hb.mono h5.size), Nat.le_trans h6 hb.size⟩ ⟨W.heap.size, Y, pre.length, cy, ⟨h1.alloc _, fun e => by have := hrl _ e; omega⟩, h4.lt, Blk.new _ _ _, rfl⟩
  case body =>
    rintro l pre ⟨k, Aa, ca, Ba, cb, ho, hv, hgd⟩ a' W hl ⟨r, hr⟩ ⟨⟨Y, cy, hbox, m, hrow⟩, hbx, hB, hsz⟩ ⟨Bx, Y0, n0, c0, ⟨hb0, hne0⟩, hBx, hx, rfl⟩ hlt
    have hne : (Value.slice Y pre.length cy).ownBlock ≠ some Bx := by
      unfold Blk at hb0 hbox
      rw [hbox] at hb0
      simp only [Option.some.injEq, Obj.cells.injEq, Array.mk.injEq, List.cons.injEq, Value.slice.injEq, and_true] at hb0
      obtain ⟨rfl, rfl, rfl⟩ := hb0
      exact hne0
    dsimp only [KEl.val] at hx ⊢
    have hkw : ∀ b, b < w.heap.size → W.heap[b]? = w3.heap[b]? := fun b hb => (hB.block b hb).trans (hb3.block b hb).symm
    have hC := copyValue_any ks d F Aa Ba _ _ ca cb k.v W.drew (by rw [OCod.val_cod]; exact VRd.keep (w := w3) (w' := W.drew) (fun b hb => hkw b (HF.out b hb)) hv) (fun b hb => by have := hF3 b hb; show b < W.heap.size; omega) hgd.1 hgd.2
    have hkp := (ok_bare hgd.1).1
    have HPush := Lib.hid (fun (A2 : Option Addr) (c2 : Nat) (w1 : World) (hO : Go.Proofs.Ytemlpiokdoeeeaa.Own (OCod.val 31 3 d) 31 W.heap.size w1.heap.size w1 (.slice A2 k.v.parts.length c2) k.v.parts) (hb : Below W.heap.size W w1) (hc : CellsOn W.heap.size w1) => copyKept_push (by simp) hrow hbox (by omega) (by omega) (by omega) hO hb hc ho hv.ty hv.n hkp)
    have hbl : w.heap.size + 1 < W.heap.size := hbox.lt
    have hxl : Bx < W.heap.size := hx.lt
    have HC : Hid (Calls Try.prog 48 #[.agg #[.string k.v.ty, .int .i64 k.v.n, .slice Aa k.v.parts.length ca, .slice Ba k.v.path.length cb]] W.drew fun e w1 => ∃ (A2 : Option Addr) (c2 g cap : Nat) (w3' : World), e = .returned (.agg #[.string k.v.ty, .int .i64 k.v.n, .slice A2 k.v.parts.length c2, .slice none 0 0]) ∧
        (Builtin.append_ #[24, 24] 24 #[.slice Y pre.length cy, .slice (some ⟨w1.heap.size, 0, none⟩) 1 1]).run Try.prog (w1.alloc (.cells #[.int .i64 k.o, .string k.v.ty, .int .i64 k.v.n, .slice A2 k.v.parts.length c2, .slice none 0 0] 35)) = .ok (.slice (some ⟨g, 0, none⟩) (pre.length + 1) cap) w3' ∧
        (w3'.cell? ⟨w.heap.size + 1, 0, none⟩ = some (.slice Y pre.length cy) ∧ w3'.frozen? ⟨w.heap.size + 1, 0, none⟩ = false) ∧
        Hid (PushD d w.heap.size (w.heap.size + 3) W (w3'.setCell ⟨w.heap.size + 1, 0, none⟩ (.slice (some ⟨g, 0, none⟩) (pre.length + 1) cap)) (w.heap.size + 1) Y pre.length cy (some ⟨g, 0, none⟩) (pre.length + 1) cap (pre.map KEl.k ++ [k])) ∧
        w1.cell? ⟨w.heap.size + 1, 0, none⟩ = some (.slice Y pre.length cy) ∧ Hid (w1.heap[Bx]? = W.heap[Bx]?) ∧ Hid (w3'.heap[Bx]? = W.heap[Bx]?) ∧ w.heap.size + 1 < w1.heap.size ∧ Bx < w1.heap.size) := Lib.hid (hC.mono fun e w1 ⟨A2, c2, he, hO, hb1, hc1⟩ => by
      obtain ⟨g, cap, w3', happ, hB3', hP, hrest⟩ := HPush.out A2 c2 w1 hO ((below_draw W).trans hb1) hc1
      have hs1 : W.heap.size ≤ w1.heap.size := hb1.size
      have hb1' : Blk w1 (w.heap.size + 1) 24 _ := (show Blk W.drew (w.heap.size + 1) 24 _ from hbox).below hb1 hbl
      exact ⟨A2, c2, g, cap, w3', he, happ, ⟨hB3'.cell 0, hB3'.frozen 0⟩, hP, hb1'.cell 0, hb1.block Bx hxl, hrest Bx hxl hne, by omega, by omega⟩)
    have hbxl : w.heap.size + 1 + 1 < W.heap.size ∧ w.heap.size + 1 + 1 ≠ w.heap.size + 1 ∧ (Value.slice Y pre.length cy).ownBlock ≠ some (w.heap.size + 1 + 1) := ⟨hbx.lt, by omega, hrow.row_ne hbx (by decide)⟩
    have HKp := Lib.hid (fun (w4 : World) (hb4 : Below w.heap.size W w4) (hr : ∀ b, b < W.heap.size → b ≠ w.heap.size + 1 → (Value.slice Y pre.length cy).ownBlock ≠ some b → w4.heap[b]? = W.heap[b]?) => show KeepsIt F (w.heap.size + 1 + 1) bp W w4 from fun b hb => by
      rcases hb with h | h | h
      · exact hb4.block b (HF.out b h)
      · rw [h]; exact hr _ hbxl.1 hbxl.2.1 hbxl.2.2
      · exact hb4.block b (by omega))
    have HXb := Lib.hid hx
    have HBox := Lib.hid hbox
    have HBx := Lib.hid hbx
    have HB := Lib.hid hB
    have HSn := Lib.hid (show (pre ++ [⟨k, Aa, ca, Ba, cb, ho, hv, hgd⟩] : List (KEl d F w3 (fun x => okOf ks (okV ks d) x.v = true ∧ SmolKep d x))).map KEl.k = pre.map KEl.k ++ [k] by rw [List.map_append]; rfl)
    have HSl := Lib.hid (show (pre ++ [⟨k, Aa, ca, Ba, cb, ho, hv, hgd⟩] : List (KEl d F w3 (fun x => okOf ks (okV ks d) x.v = true ∧ SmolKep d x))).length = pre.length + 1 by simp)
    obtain ⟨x0, x1, x2, x3, x4⟩ := hx.c5
    have b0 : W.cell? ⟨w.heap.size + 1, 0, none⟩ = some (.slice Y pre.length cy) := hbox.cell 0
    have hmx : Try.prog.follows .mixedOrders = true := by kernel_rfl
    clear hrow hbx hB hbox hx hC hr hkp HPush hb0 hne0 hne
    gi_wp2
    have HSx := Lib.hid (fun (w' : World) (he : w'.heap[Bx]? = W.heap[Bx]?) => show (w'.cell? ⟨Bx, 0, none⟩ = some (.int .i64 k.o) ∧ w'.cell? ⟨Bx, 1, none⟩ = some (.string k.v.ty)) ∧ w'.cell? ⟨Bx, 2, none⟩ = some (.int .i64 k.v.n) ∧ w'.cell? ⟨Bx, 3, none⟩ = some (.slice Aa k.v.parts.length ca) ∧ w'.cell? ⟨Bx, 4, none⟩ = some (.slice Ba k.v.path.length cb) from ⟨⟨(World.cell?_of_block (a := ⟨Bx, 0, none⟩) he).trans x0, (World.cell?_of_block (a := ⟨Bx, 1, none⟩) he).trans x1⟩, (World.cell?_of_block (a := ⟨Bx, 2, none⟩) he).trans x2, (World.cell?_of_block (a := ⟨Bx, 3, none⟩) he).trans x3, (World.cell?_of_block (a := ⟨Bx, 4, none⟩) he).trans x4⟩)
    refine wpIn_region_round (S := fun w' => (w'.cell? ⟨Bx, 0, none⟩ = some (.int .i64 k.o) ∧ w'.cell? ⟨Bx, 1, none⟩ = some (.string k.v.ty)) ∧ w'.cell? ⟨Bx, 2, none⟩ = some (.int .i64 k.v.n) ∧ w'.cell? ⟨Bx, 3, none⟩ = some (.slice Aa k.v.parts.length ca) ∧ w'.cell? ⟨Bx, 4, none⟩ = some (.slice Ba k.v.path.length cb)) hmx (by kernel_rfl) (fun ⟨a, w, h⟩ => (show False from h)) ⟨⟨x0, x1⟩, x2, x3, x4⟩ (fun hHeld => ?_)
    refine wpAnyH_take (i := 1) (v := .pointer (some ⟨Bx, 0, none⟩)) rfl (by kernel_rfl) (by kernel_rfl) (by kernel_rfl) (fun _ _ _ h => h) (Or.inl ⟨by rfl, ?_⟩) (by assumption) ?_
    · intro w hSw
      go_simp
    simp only [Act.put, List.setIfInBounds_toArray, List.set_cons_zero, List.set_cons_succ]
    refine wpAnyH_take (i := 2) (v := .int .i64 k.o) rfl (by kernel_rfl) (by kernel_rfl) (by kernel_rfl) (fun _ _ _ h => h) (Or.inl ⟨by rfl, ?_⟩) (by assumption) ?_
    · rintro w ⟨⟨s0, s1⟩, s2, s3, s4⟩
      go_simp
    simp only [Act.put, List.setIfInBounds_toArray, List.set_cons_zero, List.set_cons_succ]
    refine wpAnyH_take (i := 3) (v := .pointer (some ⟨Bx, 1, none⟩)) rfl (by kernel_rfl) (by kernel_rfl) (by kernel_rfl) (fun _ _ _ h => h) (Or.inl ⟨by rfl, ?_⟩) (by assumption) ?_
    · intro w hSw
      go_simp
    simp only [Act.put, List.setIfInBounds_toArray, List.set_cons_zero, List.set_cons_succ]
    refine wpAnyH_take (i := 4) (v := .agg #[.string k.v.ty, .int .i64 k.v.n, .slice Aa k.v.parts.length ca, .slice Ba k.v.path.length cb]) rfl (by kernel_rfl) (by kernel_rfl) (by kernel_rfl) (fun _ _ _ h => h) (Or.inl ⟨by rfl, ?_⟩) (by assumption) ?_
    · rintro w ⟨⟨s0, s1⟩, s2, s3, s4⟩
      go_simp
    simp only [Act.put, List.setIfInBounds_toArray, List.set_cons_zero, List.set_cons_succ]
    refine wpAnyH_ready (rs := [0, 5]) (by kernel_rfl) (by simp) ?_
    refine AllReadyH.cons rfl (fun K hK => ?_) (AllReadyH.cons rfl (fun K hK => ?_) AllReadyH.nil)
    · go_simp
      refine hK.out _ _ (HSx.out _ rfl) (fun hHeld => ?_)
      clear hK K
      try simp only [Act.put, List.setIfInBounds_toArray, List.set_cons_zero, List.set_cons_succ]
      refine wpAnyH_ready (rs := [5]) (by kernel_rfl) (by simp) ?_
      refine AllReadyH.cons rfl (fun K hK => ?_) AllReadyH.nil
      go_simp
      with_reducible refine HC.out.mono ?_
      rintro e w1 ⟨A2, c2, g, cap, w3', rfl, happ, ⟨q0, q1⟩, hP, z0, hk1, hk3, hl1, hl2⟩
      refine hK.out _ _ (HSx.out _ hk1.out) (fun hHeld => ?_)
      clear hK K
      try simp only [Act.put, List.setIfInBounds_toArray, List.set_cons_zero, List.set_cons_succ]
      refine wpAnyH_take (i := 6) (v := .agg #[.int .i64 k.o, .string k.v.ty, .int .i64 k.v.n, .slice A2 k.v.parts.length c2, .slice none 0 0]) rfl (by kernel_rfl) (by kernel_rfl) (by kernel_rfl) (fun _ _ _ h => h) (Or.inl ⟨by rfl, ?_⟩) (by assumption) ?_
      · intro w hSw
        go_simp
      simp only [Act.put, List.setIfInBounds_toArray, List.set_cons_zero, List.set_cons_succ]
      refine wpAnyH_ready (rs := [7]) (by kernel_rfl) (by simp) ?_
      refine AllReadyH.cons rfl (fun K hK => ?_) AllReadyH.nil
      go_simp
      refine hK.out _ _ (HSx.out _ ((Below.heap_alloc _ _ _ hl2).trans hk1.out)) (fun hHeld => ?_)
      clear hK K
      try simp only [Act.put, List.setIfInBounds_toArray, List.set_cons_zero, List.set_cons_succ]
      refine wpAnyH_ready (rs := [8]) (by kernel_rfl) (by simp) ?_
      refine AllReadyH.cons rfl (fun K hK => ?_) AllReadyH.nil
      with_reducible refine step_append_at (.tmp 9) (.tmp 16) happ (by kernel_rfl) (by kernel_rfl) (by kernel_rfl) (by kernel_rfl) (by kernel_rfl) ?_
      refine hK.out _ _ (HSx.out _ hk3.out) (fun hHeld => ?_)
      clear hK K
      try simp only [Act.put, List.setIfInBounds_toArray, List.set_cons_zero, List.set_cons_succ]
      refine wpAnyH_ready (rs := [9]) (by kernel_rfl) (by simp) ?_
      refine AllReadyH.cons rfl (fun K hK => ?_) AllReadyH.nil
      go_simp
      refine hK.out _ _ (HSx.out _ ((Below.heap_setCell _ _ _ _ (by simp; omega)).trans hk3.out)) (fun hHeld => ?_)
      clear hK K
      try simp only [Act.put, List.setIfInBounds_toArray, List.set_cons_zero, List.set_cons_succ]
      refine wpAnyH_done (by kernel_rfl) ?_ _
      have hlx : (pre ++ [⟨k, Aa, ca, Ba, cb, ho, hv, hgd⟩] : List (KEl d F w3 (fun x => okOf ks (okV ks d) x.v = true ∧ SmolKep d x))).length = pre.length + 1 := HSl.out
      exact ⟨hP.out.others.from _, HKp.out _ hP.out.below hP.out.rest, ⟨⟨_, _, by rw [hlx]; exact hP.out.box, by rw [hlx, HSn.out]; exact hP.out.row⟩, (hP.out.rest _ hbxl.1 hbxl.2.1 hbxl.2.2).trans HBx.out, HB.out.trans (hP.out.below), Nat.le_trans hsz hP.out.size⟩⟩
    · go_simp
      with_reducible refine HC.out.mono ?_
      rintro e w1 ⟨A2, c2, g, cap, w3', rfl, happ, ⟨q0, q1⟩, hP, z0, hk1, hk3, hl1, hl2⟩
      refine hK.out _ _ (HSx.out _ hk1.out) (fun hHeld => ?_)
      clear hK K
      try simp only [Act.put, List.setIfInBounds_toArray, List.set_cons_zero, List.set_cons_succ]
      refine wpAnyH_take (i := 6) (v := .agg #[.int .i64 k.o, .string k.v.ty, .int .i64 k.v.n, .slice A2 k.v.parts.length c2, .slice none 0 0]) rfl (by kernel_rfl) (by kernel_rfl) (by kernel_rfl) (fun _ _ _ h => h) (Or.inl ⟨by rfl, ?_⟩) (by assumption) ?_
      · intro w hSw
        go_simp
      simp only [Act.put, List.setIfInBounds_toArray, List.set_cons_zero, List.set_cons_succ]
      refine wpAnyH_ready (rs := [0, 7]) (by kernel_rfl) (by simp) ?_
      refine AllReadyH.cons rfl (fun K hK => ?_) (AllReadyH.cons rfl (fun K hK => ?_) AllReadyH.nil)
      · go_simp
        refine hK.out _ _ (HSx.out _ hk1.out) (fun hHeld => ?_)
        clear hK K
        try simp only [Act.put, List.setIfInBounds_toArray, List.set_cons_zero, List.set_cons_succ]
        refine wpAnyH_ready (rs := [7]) (by kernel_rfl) (by simp) ?_
        refine AllReadyH.cons rfl (fun K hK => ?_) AllReadyH.nil
        go_simp
        refine hK.out _ _ (HSx.out _ ((Below.heap_alloc _ _ _ hl2).trans hk1.out)) (fun hHeld => ?_)
        clear hK K
        try simp only [Act.put, List.setIfInBounds_toArray, List.set_cons_zero, List.set_cons_succ]
        refine wpAnyH_ready (rs := [8]) (by kernel_rfl) (by simp) ?_
        refine AllReadyH.cons rfl (fun K hK => ?_) AllReadyH.nil
        with_reducible refine step_append_at (.tmp 9) (.tmp 16) happ (by kernel_rfl) (by kernel_rfl) (by kernel_rfl) (by kernel_rfl) (by kernel_rfl) ?_
        refine hK.out _ _ (HSx.out _ hk3.out) (fun hHeld => ?_)
        clear hK K
        try simp only [Act.put, List.setIfInBounds_toArray, List.set_cons_zero, List.set_cons_succ]
        refine wpAnyH_ready (rs := [9]) (by kernel_rfl) (by simp) ?_
        refine AllReadyH.cons rfl (fun K hK => ?_) AllReadyH.nil
        go_simp
        refine hK.out _ _ (HSx.out _ ((Below.heap_setCell _ _ _ _ (by simp; omega)).trans hk3.out)) (fun hHeld => ?_)
        clear hK K
        try simp only [Act.put, List.setIfInBounds_toArray, List.set_cons_zero, List.set_cons_succ]
        refine wpAnyH_done (by kernel_rfl) ?_ _
        have hlx : (pre ++ [⟨k, Aa, ca, Ba, cb, ho, hv, hgd⟩] : List (KEl d F w3 (fun x => okOf ks (okV ks d) x.v = true ∧ SmolKep d x))).length = pre.length + 1 := HSl.out
        exact ⟨hP.out.others.from _, HKp.out _ hP.out.below hP.out.rest, ⟨⟨_, _, by rw [hlx]; exact hP.out.box, by rw [hlx, HSn.out]; exact hP.out.row⟩, (hP.out.rest _ hbxl.1 hbxl.2.1 hbxl.2.2).trans HBx.out, HB.out.trans (hP.out.below), Nat.le_trans hsz hP.out.size⟩⟩
      · go_simp
        refine hK.out _ _ (HSx.out _ ((Below.heap_alloc _ _ _ hl2).trans hk1.out)) (fun hHeld => ?_)
        clear hK K
        try simp only [Act.put, List.setIfInBounds_toArray, List.set_cons_zero, List.set_cons_succ]
        refine wpAnyH_ready (rs := [0]) (by kernel_rfl) (by simp) ?_
        refine AllReadyH.cons rfl (fun K hK => ?_) AllReadyH.nil
        go_simp
        refine hK.out _ _ (HSx.out _ ((Below.heap_alloc _ _ _ hl2).trans hk1.out)) (fun hHeld => ?_)
        clear hK K
        try simp only [Act.put, List.setIfInBounds_toArray, List.set_cons_zero, List.set_cons_succ]
        refine wpAnyH_ready (rs := [8]) (by kernel_rfl) (by simp) ?_
        refine AllReadyH.cons rfl (fun K hK => ?_) AllReadyH.nil
        with_reducible refine step_append_at (.tmp 9) (.tmp 16) happ (by kernel_rfl) (by kernel_rfl) (by kernel_rfl) (by kernel_rfl) (by kernel_rfl) ?_
        refine hK.out _ _ (HSx.out _ hk3.out) (fun hHeld => ?_)
        clear hK K
        try simp only [Act.put, List.setIfInBounds_toArray, List.set_cons_zero, List.set_cons_succ]
        refine wpAnyH_ready (rs := [9]) (by kernel_rfl) (by simp) ?_
        refine AllReadyH.cons rfl (fun K hK => ?_) AllReadyH.nil
        go_simp
        refine hK.out _ _ (HSx.out _ ((Below.heap_setCell _ _ _ _ (by simp; omega)).trans hk3.out)) (fun hHeld => ?_)
        clear hK K
        try simp only [Act.put, List.setIfInBounds_toArray, List.set_cons_zero, List.set_cons_succ]
        refine wpAnyH_done (by kernel_rfl) ?_ _
        have hlx : (pre ++ [⟨k, Aa, ca, Ba, cb, ho, hv, hgd⟩] : List (KEl d F w3 (fun x => okOf ks (okV ks d) x.v = true ∧ SmolKep d x))).length = pre.length + 1 := HSl.out
        exact ⟨hP.out.others.from _, HKp.out _ hP.out.below hP.out.rest, ⟨⟨_, _, by rw [hlx]; exact hP.out.box, by rw [hlx, HSn.out]; exact hP.out.row⟩, (hP.out.rest _ hbxl.1 hbxl.2.1 hbxl.2.2).trans HBx.out, HB.out.trans (hP.out.below), Nat.le_trans hsz hP.out.size⟩⟩
  case done =>
    rintro D ys W hD hS ⟨⟨Y, cy, hbox, m, hrow⟩, hbx, hB, hsz⟩ hK
    have hyl : ys.length = ps.flatten.length := by rw [← hS, List.length_map]
    rw [hyl] at hbox hrow
    rw [hS] at hrow
    have b0 : W.cell? ⟨w.heap.size + 1, 0, none⟩ = some (.slice Y ps.flatten.length cy) := hbox.cell 0
    have hDW : D < W.heap.size := (Array.getElem?_eq_some_iff.1 hK).1
    have hOw := (hrow.turn (grownBy_putObj' W D (.deferred none)) (fun r e => by cases e; exact ⟨_, hK, rfl⟩)).own (by omega)
    have hmW : m ≤ W.heap.size := by obtain ⟨_, _, _, _, _, h1, _⟩ := hrow; exact h1
    clear hrow hbx hbox
    gi_wp2
    refine ⟨by simp, .inl ⟨_, _, rfl, run_takeDeferred hK, ?_⟩⟩
    refine ⟨_, results_tmp rfl _ _ _, Y, cy, by rw [List.length_flatten]; rfl, ?_, hB.trans (belowK_b (w := w) (Nat.le_refl _) W D _ _ (by omega) hK rfl rfl)⟩
    exact hOw.mono (Nat.le_refl _) (by simp; omega)
  case stop =>
    rintro D c pre W _ _ h _
    exact h.elim
end Go.Proofs.Ytemlpiokdoeeeaa
