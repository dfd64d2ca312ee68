/- Rows of the call's own whose elements are no plain cells: append and copy. -/
import Derived.Test.YthkdkefkgmmoiaaDoorApp
import Derived.Maps.AppendAt
import Derived.Deep.Onto
namespace Go.Proofs.YthkdkefkgmmoiaaDoor
open Go.RowKit

/-- A row of the call's own whose elements read as xs, through blocks since cb other than the row's own. -/
def OwnRow {α : Type} (c : Cod α) (e : TypeId) (base cb : Nat) (w : World) (v : Value) (xs : List α) : Prop :=
  ∃ us : List Value, w.ownsRow base e c.size v xs.length us ∧ (∀ u ∈ us, u.oneCell' = true) ∧
    ∀ (i : Nat) (x : α), xs[i]? = some x → ∃ cs : List Value, (∀ (j : Nat) (u : Value), cs[j]? = some u → us[i * c.size + j]? = some u) ∧ c.rd (fun b => cb ≤ b ∧ b < w.heap.size ∧ v.ownBlock ≠ some b) w cs x

section
variable {α : Type} {c : Cod α} {e : TypeId} {base cb : Nat} {w w' : World} {v : Value} {xs : List α}

theorem OwnRow.sl (h : OwnRow c e base cb w v xs) (hcb : cb ≤ base) : c.Sl (fun b => cb ≤ b ∧ b < w.heap.size) w v xs := by
  obtain ⟨us, h, _, hx⟩ := h
  rcases h.2 with ⟨rfl, h0⟩ | ⟨g, cap, cur, rfl, hg, hh, hn, hc, hcs, ht⟩
  · have : xs = [] := List.eq_nil_of_length_eq_zero h0
    subst this
    exact Cod.Sl.nil_
  · have hB : Blk w g e cur := hh
    refine ⟨_, cap, rfl, hn, hc, fun _ => ⟨g, 0, rfl, ⟨by omega, hB.lt⟩, fun i x hi => ?_⟩⟩
    obtain ⟨cs, hcs', hrd⟩ := hx i x hi
    refine ⟨cs, fun j u hu => ?_, c.mono (fun b hb => ⟨hb.1, hb.2.1⟩) hrd⟩
    have h1 := hcs' j u hu
    rw [← ht, List.getElem?_take] at h1
    rw [hB.cell, Nat.zero_add]
    split at h1
    · simpa using h1
    · cases h1

theorem OwnRow.keep (h : OwnRow c e base cb w v xs) (hcb : cb ≤ base) (hs : w.heap.size ≤ w'.heap.size) (hk : ∀ i, cb ≤ i → i < w.heap.size → w'.heap[i]? = w.heap[i]?) : OwnRow c e base cb w' v xs := by
  obtain ⟨us, h, h1, hx⟩ := h
  refine ⟨us, ⟨h.1, ?_⟩, h1, fun i x hi => ?_⟩
  · rcases h.2 with h0 | ⟨g, cap, cur, rfl, hg, hh, hr⟩
    · exact .inl h0
    · have hB : Blk w g e cur := hh
      exact .inr ⟨g, cap, cur, rfl, hg, (hk g (by omega) hB.lt).trans hh, hr⟩
  · obtain ⟨cs, hcs, hrd⟩ := hx i x hi
    exact ⟨cs, hcs, c.mono (fun b hb => ⟨hb.1, by omega, hb.2.2⟩) (c.keep (fun b hb => hk b hb.1 hb.2.1) hrd)⟩
theorem OwnRow.grow {g : Nat} (h : OwnRow c e base cb w v xs) (hcb : cb ≤ base) (hg : w.grownBy w' (some g)) (hlt : g < cb) : OwnRow c e base cb w' v xs :=
  h.keep hcb hg.size fun i hi hw => hg.block i hw (by simp; omega)
theorem OwnRow.below (h : OwnRow c e base cb w v xs) (hcb : cb ≤ base) (hb : Below w.heap.size w w') : OwnRow c e base cb w' v xs := h.keep hcb hb.size fun i _ hw => hb.block i hw
theorem OwnRow.down {base' cb' : Nat} (h : OwnRow c e base cb w v xs) (h1 : base' ≤ base) (h2 : cb' ≤ cb) : OwnRow c e base' cb' w v xs := by
  obtain ⟨us, h, h3, hx⟩ := h
  refine ⟨us, World.ownsRow.mono h h1, h3, fun i x hi => ?_⟩
  obtain ⟨cs, hcs, hrd⟩ := hx i x hi
  exact ⟨cs, hcs, c.mono (fun b hb => ⟨by omega, hb.2⟩) hrd⟩
/-- A literal without elements. -/
theorem OwnRow.lit (w : World) (hb : base ≤ w.heap.size) : OwnRow c e base cb (w.alloc (.cells #[] e)) (.slice (some ⟨w.heap.size, 0, none⟩) 0 0) ([] : List α) :=
  ⟨[], World.ownsRow_made w #[] 0 hb (by simp [maxLen]) (by simp), fun _ h => by simp at h, fun _ _ h => by simp at h⟩

/-- append(v, x), x laid in a block of its own. -/
theorem OwnRow.pushAt {P : Program} (t ty : TypeId) (z : Value) (bytes : Nat) (ht : P.underlying t = some (.slice e)) (hi : (P.info? e).map (fun i => (i.zero, i.size, i.bytes)) = some (some z, c.size, bytes)) (hzs : z.cells.size = c.size) (hsz : 0 < c.size) (hby : bytes ≤ 1000)
    (h : OwnRow c e base cb w v xs) (hn : xs.length ≤ 2000000) (hbase : base ≤ w.heap.size) (cp bl : Nat) (news : List Value) (x : α) (hB : Blk w bl e news.toArray) (h1 : ∀ u ∈ news, u.oneCell' = true) (hrd : c.rd (fun b => cb ≤ b ∧ b < w.heap.size ∧ v.ownBlock ≠ some b) w news x) :
    ∃ g cap w', (Builtin.append_ #[t, t] ty #[v, .slice (some ⟨bl, 0, none⟩) 1 cp]).run P w = .ok (.slice (some ⟨g, 0, none⟩) (xs.length + 1) cap) w' ∧
      OwnRow c e base cb w' (.slice (some ⟨g, 0, none⟩) (xs.length + 1) cap) (xs ++ [x]) ∧ w.grownBy w' v.ownBlock ∧ base ≤ g ∧ (v.ownBlock = some g ∨ w.heap.size = g) := by
  obtain ⟨i, hi0, hz0, hz1, hz2⟩ := info_parts hi
  obtain ⟨us, ho, hu1, hx⟩ := h
  have hl := c.len hrd
  obtain ⟨v', w', hr, ho', hg, _, hat⟩ := run_append_own_at (P := P) w base t ty e i z c.size bytes ht hi0 hz0 hz1 hz2 hzs hsz v xs.length us ho ⟨bl, 0, none⟩ 1 cp news (by rw [hl, Nat.one_mul])
    (fun j u hu => by rw [plain_add, hB.cell]; simpa using hu) h1 (by unfold maxLen; omega) (by
      have : (xs.length + 1) * bytes ≤ 2000001 * 1000 := Nat.mul_le_mul (by omega) hby
      omega) hbase
  obtain ⟨g, cap, rfl, hge, _⟩ := ho'.form (by omega)
  have hg0 : w.grownBy w' v.ownBlock := hg
  have hat' : v.ownBlock = some g ∨ w.heap.size = g := by
    rcases hat with h | h
    · exact .inl h.symm
    · right
      simp [Value.ownBlock] at h
      exact h.symm
  have hfoot : ∀ b, (cb ≤ b ∧ b < w.heap.size ∧ v.ownBlock ≠ some b) → cb ≤ b ∧ b < w'.heap.size ∧ (Value.slice (some ⟨g, 0, none⟩) (xs.length + 1) cap).ownBlock ≠ some b := by
    rintro b ⟨b1, b2, b3⟩
    refine ⟨b1, Nat.lt_of_lt_of_le b2 hg0.size, ?_⟩
    simp only [Value.ownBlock]
    intro he
    cases he
    rcases hat' with h | h
    · exact b3 h
    · omega
  have hkeep : ∀ b, (cb ≤ b ∧ b < w.heap.size ∧ v.ownBlock ≠ some b) → w'.heap[b]? = w.heap[b]? := fun b hb => hg0.block b hb.2.1 fun h => hb.2.2 h.symm
  refine ⟨g, cap, w', hr, ⟨us ++ news, by simpa using ho', ?_, ?_⟩, hg0, hge, hat'⟩
  · intro u hu
    rcases List.mem_append.1 hu with hu | hu
    · exact hu1 u hu
    · exact h1 u hu
  · intro k y hk
    have hul : us.length = xs.length * c.size := ho.1
    rcases Nat.lt_or_ge k xs.length with hlt | hge'
    · rw [List.getElem?_append_left hlt] at hk
      obtain ⟨cs, hcs, hrd'⟩ := hx k y hk
      refine ⟨cs, fun j u hu => ?_, c.mono hfoot (c.keep hkeep hrd')⟩
      have h2 := hcs j u hu
      have := (List.getElem?_eq_some_iff.1 h2).1
      rw [List.getElem?_append_left this]
      exact h2
    · rw [List.getElem?_append_right hge'] at hk
      have hk0 : k - xs.length = 0 := by
        have := (List.getElem?_eq_some_iff.1 hk).1
        simp at this; omega
      rw [hk0] at hk
      simp at hk
      subst hk
      refine ⟨news, fun j u hu => ?_, c.mono hfoot (c.keep hkeep hrd)⟩
      have hkl : k = xs.length := by omega
      rw [hkl, List.getElem?_append_right (by omega)]
      have : xs.length * c.size + j - us.length = j := by omega
      rw [this]; exact hu

theorem OwnRow.push {P : Program} (t ty : TypeId) (z : Value) (bytes : Nat) (ht : P.underlying t = some (.slice e)) (hi : (P.info? e).map (fun i => (i.zero, i.size, i.bytes)) = some (some z, c.size, bytes)) (hzs : z.cells.size = c.size) (hsz : 0 < c.size) (hby : bytes ≤ 1000)
    (h : OwnRow c e base cb w v xs) (hn : xs.length ≤ 2000000) (hcb : cb ≤ base) (hbase : base ≤ w.heap.size) (cp : Nat) (news : List Value) (x : α) (h1 : ∀ u ∈ news, u.oneCell' = true) (hrd : c.rd (fun b => cb ≤ b ∧ b < w.heap.size ∧ v.ownBlock ≠ some b) w news x) :
    ∃ g cap w', (Builtin.append_ #[t, t] ty #[v, .slice (some ⟨w.heap.size, 0, none⟩) 1 cp]).run P (w.alloc (.cells news.toArray e)) = .ok (.slice (some ⟨g, 0, none⟩) (xs.length + 1) cap) w' ∧
      OwnRow c e base cb w' (.slice (some ⟨g, 0, none⟩) (xs.length + 1) cap) (xs ++ [x]) ∧ w.grownBy w' v.ownBlock ∧ base ≤ g ∧ (v.ownBlock = some g ∨ w.heap.size < g) := by
  have hb : Below w.heap.size w (w.alloc (.cells news.toArray e)) := (Below.refl _ _).alloc (Nat.le_refl _) _
  obtain ⟨g, cap, w', h2, h3, h4, h5, h6⟩ := OwnRow.pushAt (P := P) t ty z bytes ht hi hzs hsz hby (h.below hcb hb) hn (by simp; omega) cp w.heap.size news x (Blk.new w e news.toArray) h1 (c.mono (fun b hb => ⟨hb.1, by simp; omega, hb.2.2⟩) (c.keep (fun b hb' => hb.block b hb'.2.1) hrd))
  exact ⟨g, cap, w', h2, h3, ⟨h4.os, h4.tape, h4.output, Nat.le_trans (by simp) h4.size, fun k hk hne => (h4.block k (by simp; omega) hne).trans (hb.block k hk)⟩, h5, by
    rcases h6 with h | h
    · exact .inl h
    · right; simp at h; omega⟩

/-- append([]T{}, s...), s a row of the call's own, the literal in block b0. -/
theorem OwnRow.copyAt {P : Program} (t ty : TypeId) (z : Value) (bytes : Nat) (ht : P.underlying t = some (.slice e)) (hi : (P.info? e).map (fun i => (i.zero, i.size, i.bytes)) = some (some z, c.size, bytes)) (hzs : z.cells.size = c.size) (hsz : 0 < c.size) (hby : bytes ≤ 1000)
    {w0 : World} {gs n cps b0 : Nat} (hn0 : n = xs.length) (h : OwnRow c e base cb w0 (.slice (some ⟨gs, 0, none⟩) n cps) xs) (hn : xs.length ≤ 2000000) (hb0 : w0.heap.size ≤ b0) (hE : Blk w b0 e #[]) (hk : Below w0.heap.size w0 w) :
    ∃ g cap w', (Builtin.append_ #[t, t] ty #[.slice (some ⟨b0, 0, none⟩) 0 0, .slice (some ⟨gs, 0, none⟩) n cps]).run P w = .ok (.slice (some ⟨g, 0, none⟩) n cap) w' ∧
      OwnRow c e w0.heap.size cb w' (.slice (some ⟨g, 0, none⟩) n cap) xs ∧ w.grownBy w' (some b0) ∧ w0.heap.size ≤ g ∧ (g = b0 ∨ g = w.heap.size) := by
  subst hn0
  obtain ⟨i, hi0, hz0, hz1, hz2⟩ := info_parts hi
  obtain ⟨us, ho, hu1, hx⟩ := h
  have hcell : ∀ j u, us[j]? = some u → w.cell? ((⟨gs, 0, none⟩ : Addr).add j) = some u := by
    intro j u hj
    rw [plain_add]
    rcases ho.2 with ⟨h0, _⟩ | ⟨g', cap', cur, hv, _, hh, _, _, _, ht'⟩
    · cases h0
    · simp at hv
      obtain ⟨rfl, _⟩ := hv
      have hB0 : Blk w0 gs e cur := hh
      have hB : Blk w gs e cur := hB0.below hk hB0.lt
      rw [hB.cell]
      rw [← ht', List.getElem?_take] at hj
      split at hj
      · simpa using hj
      · cases hj
  have hempty : w.ownsRow w0.heap.size e c.size (.slice (some ⟨b0, 0, none⟩) 0 0) 0 [] := ⟨by simp, .inr ⟨b0, 0, #[], rfl, hb0, hE, Nat.zero_le _, by simp [maxLen], by simp, by simp⟩⟩
  obtain ⟨v', w', hr, ho', hg, hnil, hat⟩ := run_append_own_at (P := P) w w0.heap.size t ty e i z c.size bytes ht hi0 hz0 hz1 hz2 hzs hsz _ 0 [] hempty ⟨gs, 0, none⟩ xs.length cps us ho.1 hcell hu1 (by unfold maxLen; omega) (by
      have : (0 + xs.length) * bytes ≤ 2000000 * 1000 := Nat.mul_le_mul (by omega) hby
      omega) hk.size
  rw [Nat.zero_add] at ho'
  rw [List.nil_append] at ho'
  have hform : ∃ g cap, v' = .slice (some ⟨g, 0, none⟩) xs.length cap ∧ w0.heap.size ≤ g := by
    rcases ho'.2 with ⟨h0, _⟩ | ⟨g, cap, cur, hv, hg, _, hc, hm, _⟩
    · exact absurd (hnil.1 h0).1 (by simp)
    · exact ⟨g, cap, hv, hg⟩
  obtain ⟨g, cap, rfl, hge⟩ := hform
  have hat' : g = b0 ∨ g = w.heap.size := by simpa [Value.ownBlock] using hat
  refine ⟨g, cap, w', hr, ⟨us, ho', hu1, fun k y hk' => ?_⟩, hg, hge, hat'⟩
  obtain ⟨cs, hcs, hrd⟩ := hx k y hk'
  have hbl : ∀ b, b < w0.heap.size → w'.heap[b]? = w0.heap[b]? := fun b hb => (hg.block b (Nat.lt_of_lt_of_le hb hk.size) (by simp [Value.ownBlock]; omega)).trans (hk.block b hb)
  refine ⟨cs, hcs, c.mono ?_ (c.keep (fun b hb => hbl b hb.2.1) hrd)⟩
  rintro b ⟨b1, b2, _⟩
  refine ⟨b1, Nat.lt_of_lt_of_le b2 (Nat.le_trans hk.size hg.size), ?_⟩
  simp [Value.ownBlock]
  omega
theorem OwnRow.copy {P : Program} (t ty : TypeId) (z : Value) (bytes : Nat) (ht : P.underlying t = some (.slice e)) (hi : (P.info? e).map (fun i => (i.zero, i.size, i.bytes)) = some (some z, c.size, bytes)) (hzs : z.cells.size = c.size) (hsz : 0 < c.size) (hby : bytes ≤ 1000)
    {gs n cps : Nat} (hn0 : n = xs.length) (h : OwnRow c e base cb w (.slice (some ⟨gs, 0, none⟩) n cps) xs) (hn : xs.length ≤ 2000000) :
    ∃ g cap w', (Builtin.append_ #[t, t] ty #[.slice (some ⟨w.heap.size, 0, none⟩) 0 0, .slice (some ⟨gs, 0, none⟩) n cps]).run P (w.alloc (.cells #[] e)) = .ok (.slice (some ⟨g, 0, none⟩) n cap) w' ∧
      OwnRow c e w.heap.size cb w' (.slice (some ⟨g, 0, none⟩) n cap) xs ∧ w.grownBy w' none ∧ w.heap.size ≤ g := by
  obtain ⟨g, cap, w', h1, h2, h3, h4, _⟩ := OwnRow.copyAt (P := P) t ty z bytes ht hi hzs hsz hby hn0 h hn (Nat.le_refl _) (Blk.new w e #[]) ((Below.refl _ _).alloc (Nat.le_refl _) _)
  exact ⟨g, cap, w', h1, h2, ⟨h3.os, h3.tape, h3.output, Nat.le_trans (by simp) h3.size, fun k hk _ => (h3.block k (by simp; omega) (by simp; omega)).trans (Below.heap_alloc w _ k hk)⟩, h4⟩
end
end Go.Proofs.YthkdkefkgmmoiaaDoor
