/- What is drawn: kinds. -/
import Derived.Test.YtmomdflfjcboiaaDrawd
import Derived.Test.YtmomdflfjcboiaaRow
import Derived.Test.YtmomdflfjcboiaaSpb
namespace Go.Proofs.Ytmomdflfjcboiaa
open Go.RowKit

/-- Each field names a kind that is earlier, or one with the number 9, or none. -/
def Early (ks : Ks) : Prop := ∀ m k, hasB ks m k = true → (recAt ks m k).fields.length ≤ 4 ∧ ∀ f ∈ (recAt ks m k).fields, f.size ≤ 50 ∧ ∀ m' k', kindOf f = some (m', k') → k' = 9 ∨ (hasB ks m' k' = true ∧ (m' < m ∨ m' = m ∧ k' < k))
theorem has_snoc {ks : Ks} {rs : List Rec} {m k : Nat} : hasB (ks ++ [rs]) m k = true ↔ (m < ks.length ∧ hasB ks m k = true) ∨ (m = ks.length ∧ k < rs.length) := by
  unfold hasB
  rcases Nat.lt_trichotomy m ks.length with h | h | h
  · rw [List.getElem?_append_left h]
    constructor
    · intro g
      exact .inl ⟨h, g⟩
    · rintro (⟨_, g⟩ | ⟨g, _⟩)
      · exact g
      · omega
  · subst h
    rw [List.getElem?_append_right (Nat.le_refl _), Nat.sub_self]
    simp
  · rw [List.getElem?_eq_none (by simp; omega)]
    constructor
    · intro g
      cases g
    · rintro (⟨g, _⟩ | ⟨g, _⟩) <;> omega
theorem rec_snoc {ks : Ks} {rs : List Rec} {m k : Nat} (h : m < ks.length) : recAt (ks ++ [rs]) m k = recAt ks m k := by
  have e : (ks ++ [rs]).getD m [] = ks.getD m [] := by simp [List.getD_eq_getElem?_getD, List.getElem?_append_left h]
  unfold recAt; rw [e]
theorem rec_last {ks : Ks} {rs : List Rec} {k : Nat} : recAt (ks ++ [rs]) ks.length k = rs.getD k ⟨0, []⟩ := by
  have e : (ks ++ [rs]).getD ks.length [] = rs := by simp [List.getD_eq_getElem?_getD]
  unfold recAt; rw [e]
theorem early_empty : Early [] := fun m k h => by unfold hasB at h; simp at h
theorem early_nil {ks : Ks} (h : Early ks) : Early (ks ++ [[]]) := fun m k hh => by
  rcases has_snoc.1 hh with ⟨h1, h2⟩ | ⟨_, h2⟩
  · rw [rec_snoc h1]
    refine ⟨(h m k h2).1, fun f hf => ?_⟩
    obtain ⟨h3, h4⟩ := (h m k h2).2 f hf
    refine ⟨h3, fun m' k' hk => (h4 m' k' hk).imp id fun h5 => ⟨has_snoc.2 (.inl ⟨by omega, h5.1⟩), h5.2⟩⟩
  · simp at h2
theorem early_push {ks : Ks} {rs : List Rec} {able : Int} {fs : List ByteArray} (h : Early (ks ++ [rs])) (hl : fs.length ≤ 4) (hn : ∀ f ∈ fs, Near (ks ++ [rs]) f) : Early (ks ++ [rs ++ [⟨able, fs⟩]]) := fun m k hh => by
  have up : ∀ m' k', hasB (ks ++ [rs]) m' k' = true → hasB (ks ++ [rs ++ [⟨able, fs⟩]]) m' k' = true := fun m' k' g => by
    rcases has_snoc.1 g with g | ⟨g1, g2⟩
    · exact has_snoc.2 (.inl g)
    · exact has_snoc.2 (.inr ⟨g1, by simp; omega⟩)
  rcases has_snoc.1 hh with ⟨h1, h2⟩ | ⟨h1, h2⟩
  · rw [rec_snoc h1, ← rec_snoc (rs := rs) h1]
    have h0 := h m k (has_snoc.2 (.inl ⟨h1, h2⟩))
    refine ⟨h0.1, fun f hf => ?_⟩
    obtain ⟨h3, h4⟩ := h0.2 f hf
    exact ⟨h3, fun m' k' hk => (h4 m' k' hk).imp id fun h5 => ⟨up _ _ h5.1, h5.2⟩⟩
  · subst h1
    rw [rec_last]
    by_cases hk : k < rs.length
    · have e1 : (rs ++ [(⟨able, fs⟩ : Rec)]).getD k ⟨0, []⟩ = recAt (ks ++ [rs]) ks.length k := by
        rw [rec_last]; simp [List.getD_eq_getElem?_getD, List.getElem?_append_left hk]
      rw [e1]
      have h0 := h ks.length k (has_snoc.2 (.inr ⟨rfl, hk⟩))
      refine ⟨h0.1, fun f hf => ?_⟩
      obtain ⟨h3, h4⟩ := h0.2 f hf
      exact ⟨h3, fun m' k' hk => (h4 m' k' hk).imp id fun h5 => ⟨up _ _ h5.1, h5.2⟩⟩
    · have e : k = rs.length := by simp at h2; omega
      subst e
      have e1 : (rs ++ [(⟨able, fs⟩ : Rec)]).getD rs.length ⟨0, []⟩ = ⟨able, fs⟩ := by simp [List.getD_eq_getElem?_getD]
      rw [e1]
      refine ⟨hl, fun f hf => ?_⟩
      obtain ⟨h3, h4⟩ := hn f hf
      refine ⟨h3, fun m' k' hk => (h4 m' k' hk).imp id fun h5 => ⟨up _ _ h5, ?_⟩⟩
      rcases has_snoc.1 h5 with ⟨g1, _⟩ | ⟨g1, g2⟩
      · exact .inl g1
      · exact .inr ⟨g1, g2⟩

/-- Drawn kinds. -/
def KsD (g p N : Nat) (W : World) (e : Ending) (w' : World) : Prop :=
  ∃ (ad cap : Nat) (ks : Ks), e = .returned (.slice (some ⟨ad, 0, none⟩) ks.length cap) ∧ ks.length ≤ 3 ∧ (∀ r ∈ ks, r.length ≤ 3) ∧ Cod.recs.Sl (Fresh W w') w' (.slice (some ⟨ad, 0, none⟩) ks.length cap) ks ∧ Step g p N W w' ∧ Early ks

/-- What is known while kinds are drawn. -/
structure Kinds (g p N : Nat) (W : World) (a cap : Nat) (ks : Ks) (w : World) : Prop where
  step : Step g p N W w
  own : OwnRow Cod.recs 29 W.heap.size W.heap.size w (.slice (some ⟨a, 0, none⟩) ks.length cap) ks
  len : ∀ r ∈ ks, r.length ≤ 3
  near : Early ks

/-- And within one module. -/
structure Mod (g p N : Nat) (W : World) (a cap : Nat) (ks : Ks) (L a2 cap2 : Nat) (rs : List Rec) (w : World) : Prop where
  out : Kinds g p N W a cap ks w
  lt : a < L
  row : OwnRow Cod.rec_ 67 L L w (.slice (some ⟨a2, 0, none⟩) rs.length cap2) rs
  early : Early (ks ++ [rs])

theorem OwnRow.ge {α : Type} {c : Cod α} {e : TypeId} {base cb : Nat} {w : World} {a n cap : Nat} {xs : List α} (h : OwnRow c e base cb w (.slice (some ⟨a, 0, none⟩) n cap) xs) : base ≤ a ∧ a < w.heap.size := by
  obtain ⟨us, h, _⟩ := h
  exact h.lt a rfl
theorem Kinds.go {g p N M : Nat} {W w w' : World} {a cap : Nat} {ks : Ks} (h : Kinds g p N W a cap ks w) (hg : g < W.heap.size) (hs : Step g p M W w') (hb : w.grownBy w' (some g)) : Kinds g p M W a cap ks w' :=
  ⟨hs, h.own.grow (Nat.le_refl _) hb hg, h.len, h.near⟩
theorem Kinds.below {g p N : Nat} {W w w' : World} {a cap : Nat} {ks : Ks} (h : Kinds g p N W a cap ks w) (hb : Below w.heap.size w w') : Kinds g p N W a cap ks w' :=
  ⟨h.step.below hb, h.own.below (Nat.le_refl _) hb, h.len, h.near⟩

theorem grown_below_none {w w' : World} {r : Option Nat} {B : Nat} (h : w.grownBy w' r) (hB : B ≤ w.heap.size) (hr : ∀ k, r = some k → B ≤ k) : Below B w w' :=
  ⟨h.os, h.tape, h.output, h.size, fun i hi => h.block i (by omega) fun he => by have := hr i he.symm; omega⟩

theorem below_drew {B : Nat} {w w' : World} (h : Below B w w') : Below B w w'.drew := ⟨h.os, h.tape, h.output, h.size, h.block⟩
/-- append(append([][]T{}, out...), list): a row that is new. -/
theorem room_out {wr W : World} {L a cap a2 n2 cap2 : Nat} {ks : Ks} {rs : List Rec} (hn2 : n2 = rs.length)
    (ho : OwnRow Cod.recs 29 W.heap.size W.heap.size wr (.slice (some ⟨a, 0, none⟩) ks.length cap) ks) (hk : ks.length ≤ 1000)
    (hr : OwnRow Cod.rec_ 67 L L wr (.slice (some ⟨a2, 0, none⟩) n2 cap2) rs) (hW : W.heap.size ≤ wr.heap.size) (hL : W.heap.size ≤ L) (cp : Nat) :
    ∃ g1 c1 w1 g2 c2 w2,
      (Builtin.append_ #[25, 25] 25 #[.slice (some ⟨wr.heap.size, 0, none⟩) 0 0, .slice (some ⟨a, 0, none⟩) ks.length cap]).run Try.prog (wr.alloc (.cells #[] 29)) = .ok (.slice (some ⟨g1, 0, none⟩) ks.length c1) w1 ∧
      (Builtin.append_ #[25, 25] 25 #[.slice (some ⟨g1, 0, none⟩) ks.length c1, .slice (some ⟨w1.heap.size, 0, none⟩) 1 cp]).run Try.prog (w1.alloc (.cells #[.slice (some ⟨a2, 0, none⟩) n2 cap2] 29)) = .ok (.slice (some ⟨g2, 0, none⟩) (ks.length + 1) c2) w2 ∧
      Cod.recs.Sl (fun b => W.heap.size ≤ b ∧ b < w2.heap.size) w2 (.slice (some ⟨g2, 0, none⟩) (ks.length + 1) c2) (ks ++ [rs]) ∧ Below wr.heap.size wr w2 := by
  subst hn2
  obtain ⟨g1, c1, w1, hr1, ho1, hg1, hge1⟩ := OwnRow.copy (P := Try.prog) 25 25 _ 24 Try.underlying25 info_recs rfl (by decide) (by omega) rfl ho (by omega)
  have hb1 : Below wr.heap.size wr w1 := grown_below_none hg1 (Nat.le_refl _) (by simp)
  have hl1 := (hr.sl (Nat.le_refl _)).keep (w' := w1) fun b hb => hb1.block b hb.2
  obtain ⟨g2, c2, w2, hr2, ho2, hg2, hge2, _⟩ := OwnRow.push (P := Try.prog) 25 25 _ 24 Try.underlying25 info_recs rfl (by decide) (by omega) ho1 (by omega) hW hg1.size cp [.slice (some ⟨a2, 0, none⟩) rs.length cap2] rs (fun u hu => by simp at hu; subst hu; rfl) ⟨_, rfl, hl1.mono fun b hb => ⟨by omega, by have := hg1.size; omega, by simp [Value.ownBlock]; omega⟩⟩
  have hb2 : Below wr.heap.size w1 w2 := grown_below_none hg2 hg1.size (by intro k hk; simp [Value.ownBlock] at hk; omega)
  have hs2 := ho2.sl hW
  exact ⟨g1, c1, w1, g2, c2, w2, hr1, hr2, hs2, hb1.trans hb2⟩

/-- append(append([]T{}, list...), x), both literals laid ahead. -/
theorem room_at {w4 wB : World} {L a2 cap2 b0 bx : Nat} {rs : List Rec} {able : Int} {A : Option Addr} {n c : Nat} {fs : List ByteArray} {F : Nat → Prop}
    (hr : OwnRow Cod.rec_ 67 L L w4 (.slice (some ⟨a2, 0, none⟩) rs.length cap2) rs) (hk : rs.length ≤ 1000) (hL : L ≤ w4.heap.size)
    (hx : Cod.str.Sl F w4 (.slice A n c) fs) (hF : ∀ b, F b → L ≤ b ∧ b < w4.heap.size) (hi : I64 able) (cp : Nat)
    (hB : Below w4.heap.size w4 wB) (h0 : w4.heap.size ≤ b0) (hne : bx ≠ b0) (hE : Blk wB b0 67 #[]) (hX : Blk wB bx 67 #[.int .i64 able, .slice A n c]) :
    ∃ g1 c1 w1 g2 c2 w2,
      (Builtin.append_ #[29, 29] 29 #[.slice (some ⟨b0, 0, none⟩) 0 0, .slice (some ⟨a2, 0, none⟩) rs.length cap2]).run Try.prog wB = .ok (.slice (some ⟨g1, 0, none⟩) rs.length c1) w1 ∧
      (Builtin.append_ #[29, 29] 29 #[.slice (some ⟨g1, 0, none⟩) rs.length c1, .slice (some ⟨bx, 0, none⟩) 1 cp]).run Try.prog w1 = .ok (.slice (some ⟨g2, 0, none⟩) (rs.length + 1) c2) w2 ∧
      OwnRow Cod.rec_ 67 L L w2 (.slice (some ⟨g2, 0, none⟩) (rs.length + 1) c2) (rs ++ [⟨able, fs⟩]) ∧ Below w4.heap.size w4 w2 := by
  obtain ⟨g1, c1, w1, hr1, ho1, hg1, hge1, hat⟩ := OwnRow.copyAt (P := Try.prog) 29 29 _ 32 Try.underlying29 info_rec rfl (by decide) (by omega) rfl hr (by omega) h0 hE hB
  have hb1 : Below w4.heap.size wB w1 := grown_below_none hg1 hB.size (by simp; omega)
  have hb01 := hB.trans hb1
  have hx1 := hx.keep (w' := w1) fun b hb => hb01.block b (hF b hb).2
  have hX1 : Blk w1 bx 67 #[.int .i64 able, .slice A n c] := (hg1.block bx hX.lt (by simpa using hne)).trans hX
  obtain ⟨g2, c2, w2, hr2, ho2, hg2, hge2, _⟩ := OwnRow.pushAt (P := Try.prog) 29 29 _ 32 Try.underlying29 info_rec rfl (by decide) (by omega) ho1 (by omega) hb01.size cp bx [.int .i64 able, .slice A n c] ⟨able, fs⟩ hX1 (fun u hu => by simp at hu; rcases hu with rfl | rfl <;> rfl) ⟨_, rfl, hi, hx1.mono fun b hb => ⟨(hF b hb).1, by have := hb01.size; have := (hF b hb).2; omega, by have := (hF b hb).2; simp [Value.ownBlock]; omega⟩⟩
  have hb2 : Below w4.heap.size w1 w2 := grown_below_none hg2 hb01.size (by intro k hk; simp [Value.ownBlock] at hk; omega)
  exact ⟨g1, c1, w1, g2, c2, w2, hr1, hr2, ho2.down hL (Nat.le_refl _), hb01.trans hb2⟩
/-- The same, x laid between the two. -/
theorem room_seq {w4 : World} {L a2 cap2 b0 : Nat} {rs : List Rec} {able : Int} {A : Option Addr} {n c : Nat} {fs : List ByteArray} {F : Nat → Prop}
    (hr : OwnRow Cod.rec_ 67 L L w4 (.slice (some ⟨a2, 0, none⟩) rs.length cap2) rs) (hk : rs.length ≤ 1000) (hL : L ≤ w4.heap.size)
    (hx : Cod.str.Sl F w4 (.slice A n c) fs) (hF : ∀ b, F b → L ≤ b ∧ b < w4.heap.size) (hi : I64 able) (cp : Nat) (h0 : b0 = w4.heap.size) :
    ∃ g1 c1 w1 g2 c2 w2,
      (Builtin.append_ #[29, 29] 29 #[.slice (some ⟨b0, 0, none⟩) 0 0, .slice (some ⟨a2, 0, none⟩) rs.length cap2]).run Try.prog (w4.alloc (.cells #[] 67)).drew = .ok (.slice (some ⟨g1, 0, none⟩) rs.length c1) w1 ∧
      (Builtin.append_ #[29, 29] 29 #[.slice (some ⟨g1, 0, none⟩) rs.length c1, .slice (some ⟨w1.heap.size, 0, none⟩) 1 cp]).run Try.prog (w1.alloc (.cells #[.int .i64 able, .slice A n c] 67)) = .ok (.slice (some ⟨g2, 0, none⟩) (rs.length + 1) c2) w2 ∧
      OwnRow Cod.rec_ 67 L L w2 (.slice (some ⟨g2, 0, none⟩) (rs.length + 1) c2) (rs ++ [⟨able, fs⟩]) ∧ Below w4.heap.size w4 w1 ∧ Below w4.heap.size w4 w2 := by
  subst h0
  have hB : Below w4.heap.size w4 (w4.alloc (.cells #[] 67)).drew := below_drew ((Below.refl _ _).alloc (Nat.le_refl _) _)
  obtain ⟨g1, c1, w1, hr1, ho1, hg1, hge1, _⟩ := OwnRow.copyAt (P := Try.prog) 29 29 _ 32 Try.underlying29 info_rec rfl (by decide) (by omega) rfl hr (by omega) (Nat.le_refl _) (show Blk (w4.alloc (.cells #[] 67)).drew w4.heap.size 67 #[] from Blk.new w4 67 #[]) hB
  have hb1 : Below w4.heap.size w4 w1 := hB.trans (grown_below_none hg1 hB.size (by simp))
  have hx1 := hx.keep (w' := w1) fun b hb => hb1.block b (hF b hb).2
  obtain ⟨g2, c2, w2, hr2, ho2, hg2, hge2, _⟩ := OwnRow.push (P := Try.prog) 29 29 _ 32 Try.underlying29 info_rec rfl (by decide) (by omega) ho1 (by omega) hL hb1.size cp [.int .i64 able, .slice A n c] ⟨able, fs⟩ (fun u hu => by simp at hu; rcases hu with rfl | rfl <;> rfl) ⟨_, rfl, hi, hx1.mono fun b hb => ⟨(hF b hb).1, by have := hb1.size; have := (hF b hb).2; omega, by have := (hF b hb).2; simp [Value.ownBlock]; omega⟩⟩
  have hb2 : Below w4.heap.size w1 w2 := grown_below_none hg2 hb1.size (by intro k hk; simp [Value.ownBlock] at hk; omega)
  exact ⟨g1, c1, w1, g2, c2, w2, hr1, hr2, ho2.down hL (Nat.le_refl _), hb1, hb1.trans hb2⟩

def RecS (g p N : Nat) (ks : Ks) (W0 W : World) (e : Ending) (w' : World) : Prop :=
  ∃ (able : Int) (A : Option Addr) (c : Nat) (fs : List ByteArray), e = .returned (.agg #[.int .i64 able, .slice A fs.length c]) ∧ I64 able ∧ fs.length ≤ 4 ∧ Cod.str.Sl (Fresh W w') w' (.slice A fs.length c) fs ∧ (∀ f ∈ fs, Near ks f) ∧ Step g p (N + 30) W0 w' ∧ W.grownBy w' (some g)
theorem record_step {F : Nat → Prop} {g p N : Nat} {v : Value} {ks : Ks} {w0 w : World} (h : Step g p N w0 w) (hp : p + N ≤ 80000000) (hv : Cod.recs.Sl F w v ks) (hF : ∀ b, F b → b < w.heap.size ∧ b ≠ g) (h1 : ks.length ≤ 10) (h2 : ∀ r ∈ ks, r.length ≤ 10) :
    Calls Try.prog 56 #[.pointer (some ⟨g, 0, none⟩), v] w (RecS g p N ks w0 w) := by
  obtain ⟨q, hq, hr⟩ := h.rdr
  refine (record_any F g q v ks w hr (by omega) hv hF h1 h2).mono ?_
  rintro e w' ⟨able, v', fs, rfl, hi, hl4, hs, hnr, ⟨⟨q', hq', hr'⟩, hg'⟩⟩
  obtain ⟨A, c, rfl, hh⟩ := hs
  exact ⟨able, A, c, fs, rfl, hi, hl4, ⟨A, c, rfl, hh⟩, hnr, ⟨⟨q', by omega, hr'⟩, grown_trans h.grown hg'⟩, hg'⟩
theorem Mod.go {g p N M : Nat} {W w w' : World} {a cap : Nat} {ks : Ks} {L a2 cap2 : Nat} {rs : List Rec} (h : Mod g p N W a cap ks L a2 cap2 rs w) (hg : g < W.heap.size) (hL : W.heap.size ≤ L) (hs : Step g p M W w') (hb : w.grownBy w' (some g)) : Mod g p M W a cap ks L a2 cap2 rs w' :=
  ⟨h.out.go hg hs hb, h.lt, h.row.grow (Nat.le_refl _) hb (by omega), h.early⟩
theorem Mod.below {g p N : Nat} {W w w' : World} {a cap : Nat} {ks : Ks} {L a2 cap2 : Nat} {rs : List Rec} (h : Mod g p N W a cap ks L a2 cap2 rs w) (hb : Below w.heap.size w w') : Mod g p N W a cap ks L a2 cap2 rs w' :=
  ⟨h.out.below hb, h.lt, h.row.below (Nat.le_refl _) hb, h.early⟩

theorem Mod.with_ {g p N M : Nat} {W w : World} {a cap : Nat} {ks : Ks} {L a2 cap2 : Nat} {rs : List Rec} (h : Mod g p N W a cap ks L a2 cap2 rs w) {a3 n cap3 : Nat} {rs' : List Rec} (hn : n = rs'.length) (hr : OwnRow Cod.rec_ 67 L L w (.slice (some ⟨a3, 0, none⟩) n cap3) rs') (hm : N ≤ M) (he : Early (ks ++ [rs'])) : Mod g p M W a cap ks L a3 cap3 rs' w := by
  subst hn
  exact ⟨⟨h.out.step.more hm, h.out.own, h.out.len, h.out.near⟩, h.lt, hr, he⟩

set_option maxRecDepth 100000 in
set_option maxHeartbeats 6000000 in
theorem kinds_any (g p : Nat) (w : World) (h : Rdr g p w) (hp : p ≤ 70000000) :
    Calls Try.prog 43 #[.pointer (some ⟨g, 0, none⟩)] w (KsD g p 300 w) := by
  have HR := Lib.hid h
  have hgl := h.lt
  clear h
  have HK0 := Lib.hid (show Kinds g p 0 w w.heap.size 0 [] (w.alloc (.cells #[] 29)) from ⟨(Step.start HR.out).below ((Below.refl _ _).alloc (Nat.le_refl _) _), OwnRow.lit w (Nat.le_refl _), fun _ h => by simp at h, early_empty⟩)
  go_enter Try.func43, Try.ntmps43
  go_wp2_with fail
  refine (pick_at HK0.out.step (by omega) (by omega)).mono ?_
  rintro e w3 ⟨k, rfl, hk, hS3, hg3⟩
  have HK3 := Lib.hid (HK0.out.go hgl hS3 hg3)
  have hk3 : k ≤ 3 := by omega
  clear hS3 hg3 hk HK0
  go_wp2_with fail
  go_loopw [3, 4] (fun o i wr => ∃ (k a cap : Nat) (ks : Ks), i = .int .i64 k ∧ o = .slice (some ⟨a, 0, none⟩) ks.length cap ∧ ks.length + k ≤ 3 ∧ Hid (Kinds g p (1 + 95 * ks.length) w a cap ks wr)) (fun _ i _ => (intOf i).toNat)
  case atStart => exact ⟨k, w.heap.size, 0, [], rfl, rfl, by simpa using hk3, HK3⟩
  case round =>
    obtain ⟨i, a, cap, ks, rfl, rfl, hki, HKr⟩ := hrel
    by_cases hi : 0 < i
    · obtain ⟨wo, rfl⟩ : ∃ wo : World, wo = wr := ⟨_, rfl⟩
      have hWo := HKr.out.own.ge
      have HM0 := Lib.hid (show Mod g p (1 + 95 * ks.length) w a cap ks wo.heap.size wo.heap.size 0 [] (wo.alloc (.cells #[] 67)) from ⟨HKr.out.below ((Below.refl _ _).alloc (Nat.le_refl _) _), hWo.2, OwnRow.lit wo (Nat.le_refl _), early_nil HKr.out.near⟩)
      go_wp2_with fail
      refine (pick_at HM0.out.out.step (by omega) (by omega)).mono ?_
      rintro e w5 ⟨k5, rfl, hk5, hS5, hg5⟩
      have HM5 := Lib.hid (show Mod g p (2 + 95 * ks.length) w a cap ks wo.heap.size wo.heap.size 0 [] w5 from ⟨HM0.out.out.go hgl (hS5.more (by omega)) hg5, hWo.2, HM0.out.row.grow (Nat.le_refl _) hg5 (by have := HKr.out.step.size; omega), HM0.out.early⟩)
      have hk53 : k5 ≤ 3 := by omega
      clear hS5 hg5 hk5 HM0
      go_wp2_with fail
      go_loopw [5, 6] (fun o i wr => ∃ (k j a2 cap2 : Nat) (rs : List Rec), i = .int .i64 k ∧ o = .slice (some ⟨a2, 0, none⟩) rs.length cap2 ∧ j + k ≤ 3 ∧ rs.length ≤ j ∧ Hid (Mod g p (2 + 95 * ks.length + 31 * j) w a cap ks wo.heap.size a2 cap2 rs wr)) (fun _ i _ => (intOf i).toNat)
      case atStart => exact ⟨k5, 0, wo.heap.size, 0, [], rfl, rfl, by omega, by simp, HM5⟩
      case round =>
        obtain ⟨k6, j, a2, cap2, rs, rfl, rfl, hjk, hrj, HMr⟩ := hrel
        by_cases hk6 : 0 < k6
        · have hW1 := HMr.out.out.step.size
          have hL1 : wo.heap.size ≤ wr.heap.size := by have := HMr.out.row.ge; omega
          have hL0 : w.heap.size ≤ wo.heap.size := by omega
          obtain ⟨g1, c1, w1, g2, c2, w2, happ1, happ2, hs2, hb2⟩ := room_out rfl HMr.out.out.own (by omega) HMr.out.row hW1 hL0 1
          have HM2 := Lib.hid (HMr.out.below hb2)
          have HS2 := Lib.hid hs2
          clear hs2
          have Hlen := Lib.hid (show ∀ r ∈ ks ++ [rs], r.length ≤ 10 from by
            intro r hr
            rcases List.mem_append.1 hr with hr | hr
            · have := HMr.out.out.len r hr; omega
            · simp at hr; subst hr; omega)
          go_wp2_with (first | (at_builtin; refine wpList_append_run rfl _ _ _ rfl rfl rfl happ1 ?_) | (at_builtin; refine wpList_append_run rfl _ _ _ rfl rfl rfl happ2 ?_))
          refine (record_step HM2.out.out.step (by omega) HS2.out (fun b hb => ⟨hb.2, by omega⟩) (by simp; omega) Hlen.out).mono ?_
          rintro e w3 ⟨able, A, c, fs, rfl, hI, hl4, hfs, hnear, hS3, hg3⟩
          have HI := Lib.hid hI
          have HNr := Lib.hid (And.intro hl4 hnear)
          have HM3 := Lib.hid (HM2.out.go hgl hL0 hS3 hg3)
          have HM4 := Lib.hid (HM3.out.below (w' := w3.alloc (.cells #[.int .i64 able, .slice A fs.length c] 67)) ((Below.refl _ _).alloc (Nat.le_refl _) _))
          have hw3 := hg3.size
          have hw2 := hb2.size
          have HX := Lib.hid (Blk.new w3 67 #[.int .i64 able, .slice A fs.length c])
          have hfs4 := (hfs.keep (w' := w3.alloc (.cells #[.int .i64 able, .slice A fs.length c] 67)) fun b hb => Below.heap_alloc _ _ _ hb.2)
          obtain ⟨w4, hw4⟩ : ∃ w4 : World, w4 = w3.alloc (.cells #[.int .i64 able, .slice A fs.length c] 67) := ⟨_, rfl⟩
          have hs4 : w4.heap.size = w3.heap.size + 1 := by rw [hw4]; simp
          rw [← hw4] at HM4 hfs4 HX
          have hF4 : ∀ b, Fresh w2 w3 b → wo.heap.size ≤ b ∧ b < w4.heap.size := fun b hb => ⟨by have := hb.1; omega, by have := hb.2; omega⟩
          have hL4 : wo.heap.size ≤ w4.heap.size := by omega
          obtain ⟨g5, c5, w5, g6, c6, w6, happ3, happ4, ho6, hb5, hb6⟩ := room_seq (b0 := w3.heap.size + 1) HM4.out.row (by omega) hL4 hfs4 hF4 HI.out 1 hs4.symm
          obtain ⟨g5b, c5b, w5b, g6b, c6b, w6b, happ3b, happ4b, ho6b, hb6b⟩ := room_at (b0 := w3.heap.size + 1) (bx := w3.heap.size + 2) (wB := ((w4.alloc (.cells #[] 67)).alloc (.cells #[.int .i64 able, .slice A fs.length c] 67)).drew) HM4.out.row (by omega) hL4 hfs4 hF4 HI.out 1 (below_drew (((Below.refl _ _).alloc (Nat.le_refl _) _).alloc (by simp) _)) (by omega) (by omega) (by
            have := (Blk.new w4 67 #[]).alloc (.cells #[.int .i64 able, .slice A fs.length c] 67)
            rw [hs4] at this; exact this) (by
            have := Blk.new (w4.alloc (.cells #[] 67)) 67 #[.int .i64 able, .slice A fs.length c]
            simp only [World.size_alloc] at this
            rw [hs4] at this; exact this)
          obtain ⟨g5c, c5c, w5c, g6c, c6c, w6c, happ3c, happ4c, ho6c, hb6c⟩ := room_at (b0 := w3.heap.size + 2) (bx := w3.heap.size + 1) (wB := ((w4.alloc (.cells #[.int .i64 able, .slice A fs.length c] 67)).alloc (.cells #[] 67)).drew) HM4.out.row (by omega) hL4 hfs4 hF4 HI.out 1 (below_drew (((Below.refl _ _).alloc (Nat.le_refl _) _).alloc (by simp) _)) (by omega) (by omega) (by
            have := Blk.new (w4.alloc (.cells #[.int .i64 able, .slice A fs.length c] 67)) 67 #[]
            simp only [World.size_alloc] at this
            rw [hs4] at this; exact this) (by
            have := (Blk.new w4 67 #[.int .i64 able, .slice A fs.length c]).alloc (.cells #[] 67)
            rw [hs4] at this; exact this)
          have HO6 := Lib.hid (And.intro ho6 (HM4.out.below hb6))
          have HO6b := Lib.hid (And.intro ho6b (HM4.out.below hb6b))
          have HO6c := Lib.hid (And.intro ho6c (HM4.out.below hb6c))
          have x0 := HX.out.cell0
          have x1 := HX.out.cell1
          have y0 := (HX.out.below hb5 (by omega)).cell0
          have y1 := (HX.out.below hb5 (by omega)).cell1
          subst hw4
          clear hI hl4 hfs hnear hfs4 hS3 hg3 ho6 hb5 hb6 ho6b hb6b ho6c hb6c happ1 happ2 hF4
          go_upto_region 10 with fail
          go_cut [8] from 19 to 49 (fun s8 wx => ∃ (g6 c6 : Nat), s8 = .slice (some ⟨g6, 0, none⟩) (rs.length + 1) c6 ∧ Hid (OwnRow Cod.rec_ 67 wo.heap.size wo.heap.size wx (.slice (some ⟨g6, 0, none⟩) (rs.length + 1) c6) (rs ++ [⟨able, fs⟩]) ∧ Mod g p (2 + 95 * ks.length + 31 * j + 30) w a cap ks wo.heap.size a2 cap2 rs wx))
          case first =>
            go_region_law (first | (with_reducible refine step_append_at (.tmp 31) (.tmp 32) happ3 (by kernel_rfl) (by kernel_rfl) (by kernel_rfl) (by kernel_rfl) (by kernel_rfl) ?_) | (with_reducible refine step_append_at (.tmp 33) (.tmp 35) happ4 (by kernel_rfl) (by kernel_rfl) (by kernel_rfl) (by kernel_rfl) (by kernel_rfl) ?_) | (with_reducible refine step_append_at (.tmp 31) (.tmp 32) happ3b (by kernel_rfl) (by kernel_rfl) (by kernel_rfl) (by kernel_rfl) (by kernel_rfl) ?_) | (with_reducible refine step_append_at (.tmp 33) (.tmp 35) happ4b (by kernel_rfl) (by kernel_rfl) (by kernel_rfl) (by kernel_rfl) (by kernel_rfl) ?_) | (with_reducible refine step_append_at (.tmp 31) (.tmp 32) happ3c (by kernel_rfl) (by kernel_rfl) (by kernel_rfl) (by kernel_rfl) (by kernel_rfl) ?_) | (with_reducible refine step_append_at (.tmp 33) (.tmp 35) happ4c (by kernel_rfl) (by kernel_rfl) (by kernel_rfl) (by kernel_rfl) (by kernel_rfl) ?_))
            all_goals
              go_wp2
              go_meet
              first
                | exact ⟨g6, c6, rfl, HO6⟩
                | exact ⟨g6b, c6b, rfl, HO6b⟩
                | exact ⟨g6c, c6c, rfl, HO6c⟩
          case rest =>
            obtain ⟨g7, c7, rfl, HR7⟩ := hcut
            clear happ3 happ4 happ3b happ4b happ3c happ4c HO6 HO6b HO6c x0 x1 y0 y1 HX
            obtain ⟨g8, c8, w8, g9, c9, w9, happ5, happ6, hs9, hb9⟩ := room_out (rs := rs ++ [⟨able, fs⟩]) (by simp) HR7.out.2.out.own (by omega) HR7.out.1 HR7.out.2.out.step.size hL0 1
            have HS9 := Lib.hid hs9
            have HM9 := Lib.hid (HR7.out.2.below hb9)
            have HO9 := Lib.hid (HR7.out.1.below (Nat.le_refl _) hb9)
            clear hs9 hb9 HR7
            go_wp2_with (first | (at_builtin; refine wpList_append_run rfl _ _ _ rfl rfl rfl happ5 ?_) | (at_builtin; refine wpList_append_run rfl _ _ _ rfl rfl rfl happ6 ?_))
            refine (specKindsOk_any _ _ _ _ HS9.out (fun b hb => hb.2)).mono ?_
            rintro e w10 ⟨rfl, hb10⟩
            have HM10 := Lib.hid (HM9.out.below hb10)
            have HO10 := Lib.hid (HO9.out.below (Nat.le_refl _) hb10)
            clear hb10 happ5 happ6 HM9 HO9
            cases hkk : kindsOk (ks ++ [rs ++ [⟨able, fs⟩]]) with
            | true =>
              go_wp2_with fail
              exact ⟨⟨k6 - 1, j + 1, g7, c7, rs ++ [⟨able, fs⟩], val_int (by omega), by simp, by omega, by simp; omega, Lib.hid (HM10.out.with_ (by simp) HO10.out (by omega) (early_push HM10.out.early HNr.out.1 HNr.out.2))⟩, by simp [intOf]; omega⟩
            | false =>
              go_wp2_with fail
              refine (pick_at HM10.out.out.step (by omega) (by omega)).mono ?_
              rintro e w11 ⟨k11, rfl, hk11, hS11, hg11⟩
              have HM11 := Lib.hid (HM10.out.go hgl hL0 hS11 hg11)
              have HO11 := Lib.hid (HO10.out.grow (Nat.le_refl _) hg11 (by omega))
              clear hS11 hg11 hk11 HM10 HO10
              by_cases hk0 : (k11 : Int) = 0
              · have hb0 : ((k11 : Int) == 0) = true := by simpa using hk0
                clear hk0
                go_wp2_with fail
                exact ⟨⟨k6 - 1, j + 1, g7, c7, rs ++ [⟨able, fs⟩], val_int (by omega), by simp, by omega, by simp; omega, Lib.hid (HM11.out.with_ (by simp) HO11.out (by omega) (early_push HM11.out.early HNr.out.1 HNr.out.2))⟩, by simp [intOf]; omega⟩
              · have hb0 : ((k11 : Int) == 0) = false := by simpa using hk0
                clear hk0
                go_wp2_with fail
                exact ⟨⟨k6 - 1, j + 1, a2, cap2, rs, val_int (by omega), rfl, by omega, by omega, Lib.hid (HM11.out.with_ rfl HM11.out.row (by omega) HM11.out.early)⟩, by simp [intOf]; omega⟩
        · have hW1 := HMr.out.out.step.size
          have hL0 : w.heap.size ≤ wo.heap.size := by omega
          have hlt := HMr.out.lt
          obtain ⟨g7, c7, w7, happ7, ho7, hg7, hge7, _⟩ := OwnRow.push (P := Try.prog) 25 25 _ 24 Try.underlying25 info_recs rfl (by decide) (by omega) HMr.out.out.own (by omega) (Nat.le_refl _) hW1 1 [.slice (some ⟨a2, 0, none⟩) rs.length cap2] rs (fun u hu => by simp at hu; subst hu; rfl) ⟨_, rfl, (HMr.out.row.sl (Nat.le_refl _)).mono fun b hb => ⟨by omega, hb.2, by simp [Value.ownBlock]; omega⟩⟩
          have HK7 := Lib.hid (show Kinds g p (1 + 95 * (ks ++ [rs]).length) w g7 c7 (ks ++ [rs]) w7 from by
            have e : (ks ++ [rs]).length = ks.length + 1 := by simp
            refine ⟨(HMr.out.out.step.far (Nat.le_refl _) hgl (grown_below_none hg7 hW1 (by intro k hk; simp [Value.ownBlock] at hk; omega))).more (by rw [e]; omega), by rw [e]; exact ho7, fun r hr => ?_, HMr.out.early⟩
            rcases List.mem_append.1 hr with hr | hr
            · exact HMr.out.out.len r hr
            · simp at hr; subst hr; omega)
          clear ho7 hg7
          go_wp2_with (at_builtin; refine wpList_append_run rfl _ _ _ rfl rfl rfl happ7 ?_)
          exact ⟨⟨i - 1, g7, c7, ks ++ [rs], val_int (by omega), by simp, by simp; omega, HK7⟩, by simp [intOf]; omega⟩
    · go_wp2_with fail
      exact bodyPost_ret (v := .slice (some ⟨a, 0, none⟩) ks.length cap) (by simp [results, Try.results43, go_sem]) rfl (show KsD g p 300 w _ _ from ⟨a, cap, ks, rfl, by omega, HKr.out.len, (HKr.out.own.sl (Nat.le_refl _)).mono fun b hb => hb, HKr.out.step.more (by omega), HKr.out.near⟩)
end Go.Proofs.Ytmomdflfjcboiaa
