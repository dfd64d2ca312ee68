/- What is drawn for the law of KindsBad: kinds, to whose first module two records may be appended in place; their rows. -/
import Derived.Test.YtelhjdccfomafaaDrawf
import Derived.Test.YtelhjdccfomafaaFa
namespace Go.Proofs.Ytelhjdccfomafaa
open Go.ChangeShapes Go.WideShapes Go.ChangeAt Go.RowKit Go.Deep

/-- append(v, ys), the ys laid in a block of their own. -/
theorem OwnRow.pushN {α : Type} {c : Cod α} {e : TypeId} {base cb : Nat} {w : World} {v : Value} {xs : List α} {P : Program} (t ty : TypeId) (z : Value) (bytes : Nat) (ht : P.underlying t = some (.slice e)) (hi : (P.info? e).map (fun i => (i.zero, i.size, i.bytes)) = some (some z, c.size, bytes)) (hzs : z.cells.size = c.size) (hsz : 0 < c.size) (hby : bytes ≤ 1000)
    (h : OwnRow c e base cb w v xs) (hn : xs.length ≤ 100000) (hbase : base ≤ w.heap.size) (cp bl : Nat) (ys : List α) (hys : ys.length ≤ 100) (hy0 : 0 < ys.length) (news : List Value) (hnl : news.length = ys.length * c.size) (hB : Blk w bl e news.toArray) (h1 : ∀ u ∈ news, u.oneCell' = true)
    (hrd : ∀ (i : Nat) (y : α), ys[i]? = some y → ∃ cs : List Value, (∀ (j : Nat) (u : Value), cs[j]? = some u → news[i * c.size + j]? = some u) ∧ c.rd (fun b => cb ≤ b ∧ b < w.heap.size ∧ v.ownBlock ≠ some b) w cs y) :
    ∃ g cap w', (Builtin.append_ #[t, t] ty #[v, .slice (some ⟨bl, 0, none⟩) ys.length cp]).run P w = .ok (.slice (some ⟨g, 0, none⟩) (xs.length + ys.length) cap) w' ∧
      OwnRow c e base cb w' (.slice (some ⟨g, 0, none⟩) (xs.length + ys.length) cap) (xs ++ ys) ∧ w.grownBy w' v.ownBlock ∧ base ≤ g ∧ g < w'.heap.size ∧ (v.ownBlock = some g ∨ w.heap.size = g) := by
  obtain ⟨i, hi0, hz0, hz1, hz2⟩ := info_parts hi
  obtain ⟨us, ho, hu1, hx⟩ := h
  obtain ⟨v', w', hr, ho', hg, _, hat⟩ := run_append_own_at (P := P) w base t ty e i z c.size bytes ht hi0 hz0 hz1 hz2 hzs hsz v xs.length us ho ⟨bl, 0, none⟩ ys.length cp news hnl
    (fun j u hu => by rw [plain_add, hB.cell]; simpa using hu) h1 (by unfold maxLen; omega) (by
      have : (xs.length + ys.length) * bytes ≤ 100100 * 1000 := Nat.mul_le_mul (by omega) hby
      omega) hbase
  obtain ⟨g, cap, rfl, hge, _⟩ := ho'.form (by omega)
  have hgl : g < w'.heap.size := ho'.lt g rfl |>.2
  have hg0 : w.grownBy w' v.ownBlock := hg
  have hat' : v.ownBlock = some g ∨ w.heap.size = g := by
    rcases hat with h | h
    · exact .inl h.symm
    · right
      simp [Value.ownBlock] at h
      exact h.symm
  have hfoot : ∀ b, (cb ≤ b ∧ b < w.heap.size ∧ v.ownBlock ≠ some b) → cb ≤ b ∧ b < w'.heap.size ∧ (Value.slice (some ⟨g, 0, none⟩) (xs.length + ys.length) cap).ownBlock ≠ some b := by
    rintro b ⟨b1, b2, b3⟩
    refine ⟨b1, Nat.lt_of_lt_of_le b2 hg0.size, ?_⟩
    simp only [Value.ownBlock]
    intro he
    cases he
    rcases hat' with h | h
    · exact b3 h
    · omega
  have hkeep : ∀ b, (cb ≤ b ∧ b < w.heap.size ∧ v.ownBlock ≠ some b) → w'.heap[b]? = w.heap[b]? := fun b hb => hg0.block b hb.2.1 fun h => hb.2.2 h.symm
  have hul : us.length = xs.length * c.size := ho.1
  refine ⟨g, cap, w', hr, ⟨us ++ news, by simpa using ho', ?_, ?_⟩, hg0, hge, hgl, hat'⟩
  · intro u hu
    rcases List.mem_append.1 hu with hu | hu
    · exact hu1 u hu
    · exact h1 u hu
  · intro k y hk
    rcases Nat.lt_or_ge k xs.length with hlt | hge'
    · rw [List.getElem?_append_left hlt] at hk
      obtain ⟨cs, hcs, hrd'⟩ := hx k y hk
      refine ⟨cs, fun j u hu => ?_, c.mono hfoot (c.keep hkeep hrd')⟩
      have h2 := hcs j u hu
      have := (List.getElem?_eq_some_iff.1 h2).1
      rw [List.getElem?_append_left this]
      exact h2
    · rw [List.getElem?_append_right hge'] at hk
      obtain ⟨cs, hcs, hrd'⟩ := hrd (k - xs.length) y hk
      refine ⟨cs, fun j u hu => ?_, c.mono hfoot (c.keep hkeep hrd')⟩
      have h2 := hcs j u hu
      obtain ⟨q, rfl⟩ : ∃ q, k = xs.length + q := ⟨k - xs.length, by omega⟩
      rw [Nat.add_sub_cancel_left] at h2
      rw [Nat.add_mul, hul.symm, List.getElem?_append_right (by omega)]
      have : us.length + q * c.size + j - us.length = q * c.size + j := by omega
      rw [this]; exact h2

/-- Records read through no cell of a block. -/
def Cod.recNot (a : Nat) : Cod Rec where
  size := 2
  rd F w cs r := Cod.rec_.rd (fun b => F b ∧ b ≠ a) w cs r
  len h := Cod.rec_.len h
  keep hk h := Cod.rec_.keep (fun b hb => hk b hb.1) h
  mono hg h := Cod.rec_.mono (fun b hb => ⟨hg b hb.1, hb.2⟩) h
theorem OwnRow.not_ {a L0 : Nat} {w0 : World} {v : Value} {rs : List Rec} (h : OwnRow Cod.rec_ 47 L0 L0 w0 v rs) (ha : a < L0 ∨ w0.heap.size ≤ a) : OwnRow (Cod.recNot a) 47 L0 L0 w0 v rs := by
  obtain ⟨us, ho, h1, hx⟩ := h
  refine ⟨us, ho, h1, fun i x hi => ?_⟩
  obtain ⟨cs, hcs, hrd⟩ := hx i x hi
  exact ⟨cs, hcs, Cod.rec_.mono (fun b hb => ⟨hb, by have := hb.1; have := hb.2.1; omega⟩) hrd⟩
theorem OwnRow.slNot {a L0 g n cap : Nat} {w : World} {rs : List Rec} (h : OwnRow (Cod.recNot a) 47 L0 L0 w (.slice (some ⟨g, 0, none⟩) n cap) rs) (hga : g ≠ a) : Cod.rec_.Sl (fun b => L0 ≤ b ∧ b < w.heap.size ∧ b ≠ a) w (.slice (some ⟨g, 0, none⟩) n cap) rs := by
  obtain ⟨us, h, _, hx⟩ := h
  rcases h.2 with ⟨hv, h0⟩ | ⟨g', cap', cur, hv, hg, hh, hn, hc, hcs, ht⟩
  · cases hv
  · obtain ⟨rfl, rfl, rfl⟩ : g = g' ∧ n = rs.length ∧ cap = cap' := by simpa using hv
    have hB : Blk w g 47 cur := hh
    refine ⟨_, cap, rfl, hn, hc, fun _ => ⟨g, 0, rfl, ⟨hg, hB.lt, hga⟩, fun i x hi => ?_⟩⟩
    obtain ⟨cs, hcs', hrd⟩ := hx i x hi
    refine ⟨cs, fun j u hu => ?_, Cod.rec_.mono (fun b hb => ⟨hb.1.1, hb.1.2.1, hb.2⟩) hrd⟩
    have h1 := hcs' j u hu
    rw [show (Cod.recNot a).size = 2 from rfl, ← ht, List.getElem?_take] at h1
    split at h1
    · show w.cell? ⟨g, 0 + i * 2 + j, none⟩ = _
      rw [hB.cell, Nat.zero_add]; simpa using h1
    · cases h1

/-- The rows of kinds: the outer one the call's own; the first module's the call's own, and read through by no other. -/
structure Rows3 (W a : Nat) (cap : Nat) (kvs : List (Value × List Rec)) (w : World) : Prop where
  own : OwnRow Cod.cellv 44 W W w (.slice (some ⟨a, 0, none⟩) kvs.length cap) kvs
  fst : ∀ v0 rs0 rest, kvs = (v0, rs0) :: rest → ∃ (L0 : Nat) (w0 : World), W ≤ L0 ∧ L0 ≤ w0.heap.size ∧ w0.heap.size ≤ w.heap.size ∧ (a < L0 ∨ w0.heap.size ≤ a) ∧ OwnRow Cod.rec_ 47 L0 L0 w0 v0 rs0 ∧ (∀ b, L0 ≤ b → b < w0.heap.size → w.heap[b]? = w0.heap[b]?) ∧
    ∀ y ∈ rest, Cod.rec_.Sl (fun b => w0.heap.size ≤ b ∧ b < w.heap.size ∧ b ≠ a) w y.1 y.2
theorem Rows3.of {W a cap : Nat} {ks : Ks} {w : World} (ho : OwnRow Cod.recs 44 W W w (.slice (some ⟨a, 0, none⟩) ks.length cap) ks) (h : First W a ks w.heap.size w) : ∃ kvs : List (Value × List Rec), kvs.map Prod.snd = ks ∧ Rows3 W a cap kvs w := by
  obtain ⟨kvs, hm, hv⟩ := own_cellv ho
  have hl : kvs.length = ks.length := by rw [← hm, List.length_map]
  rw [← hl] at hv
  refine ⟨kvs, hm, hv, fun v0 rs0 rest e => ?_⟩
  subst e
  obtain ⟨a0, c0, L0, w0, h1, h2, h3, h4, h5, h6, h7, h8, h9, h10⟩ := h rs0 (rest.map Prod.snd) (by rw [← hm]; rfl)
  have hc0 := (cellv_at hv (Nat.le_refl _) (i := 0) (y := (v0, rs0)) rfl).1
  rw [h7] at hc0
  obtain rfl : _ = v0 := Option.some.inj hc0
  have hge := h8.ge
  refine ⟨L0, w0, h1, by omega, h3, h4, h8, h9, fun y hy => ?_⟩
  obtain ⟨i, hi⟩ := List.mem_iff_getElem?.1 hy
  have hci := (cellv_at hv (Nat.le_refl _) (i := i + 1) (y := y) (by simpa using hi)).1
  obtain ⟨v, g1, g2⟩ := h10 i y.2 (by rw [List.getElem?_map, hi]; rfl)
  rw [g1] at hci
  obtain rfl : v = y.1 := Option.some.inj hci
  exact g2
theorem Rows3.keep {W a cap : Nat} {kvs : List (Value × List Rec)} {w w' : World} (h : Rows3 W a cap kvs w) (hs : w.heap.size ≤ w'.heap.size) (hk : ∀ i, W ≤ i → i < w.heap.size → w'.heap[i]? = w.heap[i]?) : Rows3 W a cap kvs w' := by
  refine ⟨h.own.keep (Nat.le_refl _) hs hk, fun v0 rs0 rest e => ?_⟩
  obtain ⟨L0, w0, h1, h2, h3, h4, h5, h6, h7⟩ := h.fst v0 rs0 rest e
  exact ⟨L0, w0, h1, h2, by omega, h4, h5, fun b g1 g2 => (hk b (by omega) (by omega)).trans (h6 b g1 g2), fun y hy => ((h7 y hy).keep fun b hb => hk b (by have := hb.1; omega) hb.2.1).mono fun b hb => ⟨hb.1, by have := hb.2.1; omega, hb.2.2⟩⟩
/-- As kinds are read. -/
theorem Rows3.sl {W a cap : Nat} {kvs : List (Value × List Rec)} {w : World} (h : Rows3 W a cap kvs w) : Cod.recs.Sl (fun b => W ≤ b ∧ b < w.heap.size) w (.slice (some ⟨a, 0, none⟩) (kvs.map Prod.snd).length cap) (kvs.map Prod.snd) := by
  have hs := h.own.sl (Nat.le_refl _)
  obtain ⟨A, c, hv, h1, h2, h3⟩ := hs
  rw [List.length_map]
  refine ⟨A, c, by simpa using hv, by simpa using h1, h2, fun hp => ?_⟩
  obtain ⟨b, off, rfl, hF, hx⟩ := h3 (by simpa using hp)
  refine ⟨b, off, rfl, hF, fun i x hi => ?_⟩
  rw [List.getElem?_map] at hi
  obtain ⟨y, hy, rfl⟩ : ∃ y, kvs[i]? = some y ∧ y.2 = x := by
    cases hh : kvs[i]? with
    | none => rw [hh] at hi; cases hi
    | some y => rw [hh] at hi; exact ⟨y, rfl, by simpa using hi⟩
  obtain ⟨cs, hcs, hc, hrd⟩ := hx i y hy
  exact ⟨cs, hcs, y.1, hc, hrd⟩
def nils4 : List (Value × List Rec) := [(.slice none 0 0, []), (.slice none 0 0, []), (.slice none 0 0, []), (.slice none 0 0, [])]
theorem nils4_all : ∀ y ∈ nils4, y = (.slice none 0 0, []) := by
  intro y hy
  simp only [nils4, List.mem_cons, List.not_mem_nil, or_false] at hy
  rcases hy with rfl | rfl | rfl | rfl <;> rfl
/-- Four modules without a row behind. -/
theorem Rows3.push4 {W a cap bl : Nat} {kvs : List (Value × List Rec)} {w : World} (h : Rows3 W a cap kvs w) (hn : kvs.length ≤ 100) (hW : W ≤ w.heap.size) (hB : Blk w bl 44 #[.slice none 0 0, .slice none 0 0, .slice none 0 0, .slice none 0 0]) (ha : a < bl) :
    ∃ g c w', (Builtin.append_ #[23, 23] 23 #[.slice (some ⟨a, 0, none⟩) kvs.length cap, .slice (some ⟨bl, 0, none⟩) 4 4]).run Try.prog w = .ok (.slice (some ⟨g, 0, none⟩) (kvs.length + 4) c) w' ∧
      Rows3 W g c (kvs ++ nils4) w' ∧ w.grownBy w' (some a) := by
  obtain ⟨g, c, w', hr, ho, hg, hge, hgl, hat⟩ := OwnRow.pushN (P := Try.prog) 23 23 _ 24 Try.underlying23 info_recs rfl (by decide) (by omega) h.own (by omega) hW 4 bl nils4 (by decide) (by decide) [.slice none 0 0, .slice none 0 0, .slice none 0 0, .slice none 0 0] rfl hB
    (fun u hu => by simp only [List.mem_cons, List.not_mem_nil, or_false] at hu; rcases hu with rfl | rfl | rfl | rfl <;> rfl) (fun i y hi => by
      obtain rfl := nils4_all y (List.mem_of_getElem? hi)
      have hi4 : i < 4 := (List.getElem?_eq_some_iff.1 hi).1
      refine ⟨[.slice none 0 0], fun j u hu => ?_, rfl, Cod.Sl.nil_⟩
      match j, hu with
      | 0, hu =>
        cases hu
        show ([.slice none 0 0, .slice none 0 0, .slice none 0 0, .slice none 0 0] : List Value)[i * 1 + 0]? = _
        rw [Nat.mul_one, Nat.add_zero]
        match i, hi4 with
        | 0, _ => rfl
        | 1, _ => rfl
        | 2, _ => rfl
        | 3, _ => rfl
      | j + 1, hu => simp at hu)
  have hga : a = g ∨ w.heap.size = g := by simpa [Value.ownBlock] using hat
  have hk : ∀ b, b < w.heap.size → b ≠ a → w'.heap[b]? = w.heap[b]? := fun b h1 h2 => hg.block b h1 (by simp [Value.ownBlock]; omega)
  have hs := hg.size
  have hl : (kvs ++ nils4).length = kvs.length + 4 := by simp [nils4]
  refine ⟨g, c, w', hr, ⟨by rw [hl]; exact ho, fun v0 rs0 rest e => ?_⟩, by simpa [Value.ownBlock] using hg⟩
  cases kvs with
  | nil =>
    simp only [List.nil_append] at e
    have hv := nils4_all (v0, rs0) (by rw [e]; simp)
    simp only [Prod.mk.injEq] at hv
    obtain ⟨rfl, rfl⟩ := hv
    refine ⟨w.heap.size, w, hW, Nat.le_refl _, hs, ?_, ⟨[], World.ownsRow_nil _ _ _ _, fun _ h => by simp at h, fun _ _ h => by simp at h⟩, fun b g1 g2 => by omega, fun y hy => ?_⟩
    · have := h.own.ge; omega
    · obtain rfl := nils4_all y (by rw [e]; simp [hy])
      exact Cod.Sl.nil_
  | cons k0 kr =>
    simp only [List.cons_append, List.cons.injEq] at e
    obtain ⟨rfl, rfl⟩ := e
    obtain ⟨L0, w0, h1, h2, h3, h4, h5, h6, h7⟩ := h.fst v0 rs0 kr rfl
    refine ⟨L0, w0, h1, h2, by omega, by omega, h5, fun b g1 g2 => (hk b (by omega) (by omega)).trans (h6 b g1 g2), fun y hy => ?_⟩
    rcases List.mem_append.1 hy with hy | hy
    · exact ((h7 y hy).keep fun b hb => hk b hb.2.1 hb.2.2).mono fun b hb => ⟨hb.1, by have := hb.2.1; omega, by have := hb.2.1; have := hb.2.2; omega⟩
    · obtain rfl := nils4_all y hy
      exact Cod.Sl.nil_

/-- kinds[0] = append(kinds[0], x, y): the append, and the kinds behind it. -/
theorem Rows3.app2 {W a cap bl : Nat} {v0 : Value} {rs0 : List Rec} {rest : List (Value × List Rec)} {wB w : World} (h : Rows3 W a cap ((v0, rs0) :: rest) wB) (hn : rs0.length ≤ 1000) (hs : wB.heap.size ≤ w.heap.size) (hW : W ≤ wB.heap.size) (hk : ∀ i, W ≤ i → i < wB.heap.size → w.heap[i]? = wB.heap[i]?)
    {x y : Rec} {ux uy : Value} (hB : Blk w bl 47 #[.int .i64 x.able, ux, .int .i64 y.able, uy]) (hx1 : ux.oneCell' = true) (hy1 : uy.oneCell' = true)
    (hix : I64 x.able) (hiy : I64 y.able) (hrx : Cod.str.Sl (fun b => wB.heap.size ≤ b ∧ b < w.heap.size) w ux x.fields) (hry : Cod.str.Sl (fun b => wB.heap.size ≤ b ∧ b < w.heap.size) w uy y.fields) :
    ∃ g c w', (Builtin.append_ #[44, 44] 44 #[v0, .slice (some ⟨bl, 0, none⟩) 2 2]).run Try.prog w = .ok (.slice (some ⟨g, 0, none⟩) (rs0.length + 2) c) w' ∧
      (w'.frozen? ⟨a, 0, none⟩ = false ∧ w'.cell? ⟨a, 0, none⟩ = some v0) ∧ Below W w w' ∧ a < w'.heap.size ∧
      Cod.recs.Sl (fun b => W ≤ b ∧ b < w'.heap.size) (w'.setCell ⟨a, 0, none⟩ (.slice (some ⟨g, 0, none⟩) (rs0.length + 2) c)) (.slice (some ⟨a, 0, none⟩) (rest.length + 1) cap) ((rs0 ++ [x, y]) :: rest.map Prod.snd) := by
  obtain ⟨L0, w0, h1, h2, h3, h4, h5, h6, h7⟩ := h.fst v0 rs0 rest rfl
  have hag := h.own.ge
  have hrow : OwnRow (Cod.recNot a) 47 L0 L0 w v0 rs0 := (h5.not_ h4).keep (Nat.le_refl _) (by omega) fun b g1 g2 => (hk b (by omega) (by omega)).trans (h6 b g1 g2)
  have hv0 : ∀ b, v0.ownBlock = some b → L0 ≤ b ∧ b < w0.heap.size := fun b hb => by obtain ⟨us, ho, _⟩ := h5; exact ho.lt b hb
  have hfx : ∀ b, (wB.heap.size ≤ b ∧ b < w.heap.size) → (L0 ≤ b ∧ b < w.heap.size ∧ v0.ownBlock ≠ some b) ∧ b ≠ a := fun b hb => ⟨⟨by omega, hb.2, fun e => by have := hv0 b e; omega⟩, by omega⟩
  obtain ⟨g, c, w', hr, ho, hg, hge, hgl, hat⟩ := OwnRow.pushN (P := Try.prog) 44 44 _ 32 Try.underlying44 info_rec rfl (Nat.zero_lt_succ 1) (by omega) hrow (by omega) (by omega) 2 bl [x, y] (by simp) (by simp) [.int .i64 x.able, ux, .int .i64 y.able, uy] rfl hB
    (fun u hu => by simp only [List.mem_cons, List.not_mem_nil, or_false] at hu; rcases hu with rfl | rfl | rfl | rfl <;> first | rfl | assumption) (fun i z hi => by
      match i, hi with
      | 0, hi =>
        obtain rfl : x = z := by simpa using hi
        exact ⟨[.int .i64 x.able, ux], fun j u hu => by match j, hu with | 0, hu => cases hu; rfl | 1, hu => cases hu; rfl | j + 2, hu => simp at hu, ux, rfl, hix, hrx.mono hfx⟩
      | 1, hi =>
        obtain rfl : y = z := by simpa using hi
        exact ⟨[.int .i64 y.able, uy], fun j u hu => by match j, hu with | 0, hu => cases hu; rfl | 1, hu => cases hu; rfl | j + 2, hu => simp at hu, uy, rfl, hiy, hry.mono hfx⟩
      | i + 2, hi => simp at hi)
  have hgs := hg.size
  have hga : g ≠ a := by
    rcases hat with h0 | h0
    · have := hv0 g h0; omega
    · omega
  have hgk : ∀ b, b < w.heap.size → v0.ownBlock ≠ some b → w'.heap[b]? = w.heap[b]? := fun b g1 g2 => hg.block b g1 fun e => g2 e.symm
  have hna : v0.ownBlock ≠ some a := fun e => by have := hv0 a e; omega
  have hca : ∀ i y, ((v0, rs0) :: rest)[i]? = some y → w'.cell? ⟨a, i, none⟩ = some y.1 := fun i y hy => by
    rw [World.cell?_of_block (a := ⟨a, i, none⟩) ((hgk a (by omega) hna).trans (hk a hag.1 hag.2))]
    exact (cellv_at h.own (Nat.le_refl _) hy).1
  obtain ⟨cur, hBa⟩ : ∃ cur, Blk w' a 44 cur := by
    obtain ⟨us, hO, _⟩ := h.own
    rcases hO.2 with ⟨hv, _⟩ | ⟨g', cap', cur, hv, _, hh, _⟩
    · cases hv
    · obtain ⟨rfl, _⟩ : a = g' ∧ cap = cap' := by simpa using hv
      exact ⟨cur, ((hgk a (by omega) hna).trans (hk a hag.1 hag.2)).trans hh⟩
  have hkE : ∀ b, b ≠ a → (w'.setCell ⟨a, 0, none⟩ (.slice (some ⟨g, 0, none⟩) (rs0.length + 2) c)).heap[b]? = w'.heap[b]? := fun b hb => Below.heap_setCell _ _ _ _ hb
  refine ⟨g, c, w', hr, ⟨hBa.frozen 0, hca 0 (v0, rs0) rfl⟩, grown_below_none hg (by omega) fun k hk' => by have := hv0 k hk'; omega, hBa.lt, ?_⟩
  obtain ⟨A, cp, hv, l1, l2, _⟩ := h.own.sl (Nat.le_refl _)
  obtain ⟨_, rfl⟩ : _ ∧ cap = cp := by simpa using hv
  have e0 : ((rs0 ++ [x, y]) :: rest.map Prod.snd).length = rest.length + 1 := by simp
  refine ⟨_, cap, by rw [e0], by rw [e0]; simpa using l1, l2, fun _ => ⟨a, 0, rfl, ⟨hag.1, hBa.lt⟩, fun i z hi => ?_⟩⟩
  cases i with
  | zero =>
    obtain rfl : rs0 ++ [x, y] = z := by simpa using hi
    refine ⟨[.slice (some ⟨g, 0, none⟩) (rs0.length + 2) c], fun j u hu => ?_, _, rfl, ((ho.slNot hga).keep fun b hb => hkE b hb.2.2).mono fun b hb => ⟨by have := hb.1; omega, hb.2.1⟩⟩
    match j, hu with
    | 0, hu =>
      cases hu
      obtain ⟨u0, hu0⟩ : ∃ u, w'.cell? ⟨a, 0, none⟩ = some u := ⟨_, hca 0 (v0, rs0) rfl⟩
      have := (hBa.set_ 0 (.slice (some ⟨g, 0, none⟩) (rs0.length + 2) c)).cell 0
      rw [hBa.cell] at hu0
      have hlt : 0 < cur.size := (Array.getElem?_eq_some_iff.1 hu0).1
      rw [Array.getElem?_setIfInBounds_self, if_pos hlt] at this
      exact this
    | j + 1, hu => simp at hu
  | succ i =>
    rw [List.getElem?_cons_succ, List.getElem?_map] at hi
    obtain ⟨q, hq, rfl⟩ : ∃ q, rest[i]? = some q ∧ q.2 = z := by
      cases hh : rest[i]? with
      | none => rw [hh] at hi; cases hi
      | some q => rw [hh] at hi; exact ⟨q, rfl, by simpa using hi⟩
    refine ⟨[q.1], fun j u hu => ?_, q.1, rfl, ?_⟩
    · match j, hu with
      | 0, hu =>
        cases hu
        have h9 := hca (i + 1) q (by simpa using hq)
        rw [hBa.cell] at h9
        have := (hBa.set_ 0 (.slice (some ⟨g, 0, none⟩) (rs0.length + 2) c)).cell (i + 1)
        rw [Array.getElem?_setIfInBounds_ne (by omega)] at this
        show World.cell? _ ⟨a, 0 + (i + 1) * 1 + 0, none⟩ = _
        rw [show 0 + (i + 1) * 1 + 0 = i + 1 by omega, this]
        exact h9
      | j + 1, hu => simp at hu
    · have hr7 := h7 q (List.mem_of_getElem? hq)
      exact (((hr7.keep fun b hb => hk b (by have := hb.1; omega) hb.2.1).keep fun b hb => hgk b (by have := hb.2.1; omega) (fun e => by have := hv0 b e; have := hb.1; omega)).keep fun b hb => hkE b hb.2.2).mono fun b hb => ⟨by have := hb.1; omega, by have := hb.2.1; omega⟩
end Go.Proofs.Ytelhjdccfomafaa
