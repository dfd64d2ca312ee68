/- The model's l9Less: vaults without one. -/
import Derived.Test.YtemlpiokdoeeeaaWf
namespace Go.Proofs.Ytemlpiokdoeeeaa
open Go.RowKit

section
variable {α : Type} {c : Cod α} {e : TypeId} {base cb : Nat} {w : World} {xs : List α}
theorem OwnRow.take5 {g n cap : Nat} (h : OwnRow c e base cb w (.slice (some ⟨g, 0, none⟩) n cap) xs) {k : Nat} (hk : k ≤ xs.length) : OwnRow c e base cb w (.slice (some ⟨g, 0, none⟩) k cap) (xs.take k) := by
  obtain ⟨us, ho, h1, hx⟩ := h
  have hlk : (xs.take k).length = k := by rw [List.length_take]; omega
  rcases ho.2 with ⟨hv, _⟩ | ⟨g', cap', cur, hv, hg, hh, hn, hc, hs, ht⟩
  · cases hv
  · obtain ⟨rfl, rfl, rfl⟩ : g = g' ∧ n = xs.length ∧ cap = cap' := by simpa using hv
    have hmul : k * c.size ≤ xs.length * c.size := Nat.mul_le_mul_right _ hk
    refine ⟨us.take (k * c.size), ⟨?_, .inr ⟨g, cap, cur, by rw [hlk], hg, hh, by omega, hc, hs, ?_⟩⟩, fun u hu => h1 u (List.mem_of_mem_take hu), fun i x hi => ?_⟩
    · rw [List.length_take, ho.1, hlk, Nat.min_eq_left hmul]
    · rw [hlk, ← ht, List.take_take, Nat.min_eq_left hmul]
    · have hik : i < k := by
        have := (List.getElem?_eq_some_iff.1 hi).1
        omega
      rw [List.getElem?_take, if_pos hik] at hi
      obtain ⟨cs, hcs, hrd⟩ := hx i x hi
      refine ⟨cs, fun j u hu => ?_, hrd⟩
      have hj : j < cs.length := (List.getElem?_eq_some_iff.1 hu).1
      have hcl := c.len hrd
      have : i * c.size + c.size ≤ k * c.size := by
        have := Nat.mul_le_mul_right c.size (show i + 1 ≤ k by omega)
        rwa [Nat.add_mul, Nat.one_mul] at this
      rw [List.getElem?_take, if_pos (by omega)]
      exact hcs j u hu
/-- Its cells, one after another. -/
theorem OwnRow.flat5 {g n cap : Nat} (h : OwnRow c e base cb w (.slice (some ⟨g, 0, none⟩) n cap) xs) : n = xs.length ∧ xs.length ≤ cap ∧ cap ≤ maxLen ∧ ∃ us : List Value, us.length = xs.length * c.size ∧ (∀ u ∈ us, u.oneCell' = true) ∧ (∀ j u, us[j]? = some u → w.cell? ⟨g, j, none⟩ = some u) ∧
    ∀ i x, xs[i]? = some x → ∃ cs : List Value, (∀ (j : Nat) (u : Value), cs[j]? = some u → us[i * c.size + j]? = some u) ∧ c.rd (fun b => cb ≤ b ∧ b < w.heap.size ∧ b ≠ g) w cs x := by
  obtain ⟨us, ho, h1, hx⟩ := h
  rcases ho.2 with ⟨hv, _⟩ | ⟨g', cap', cur, hv, hg, hh, hn, hc, hs, ht⟩
  · cases hv
  · obtain ⟨rfl, rfl, rfl⟩ : g = g' ∧ n = xs.length ∧ cap = cap' := by simpa using hv
    have hB : Blk w g e cur := hh
    refine ⟨rfl, hn, hc, us, ho.1, h1, fun j u hu => ?_, fun i x hi => ?_⟩
    · rw [← ht, List.getElem?_take] at hu
      split at hu
      · rw [hB.cell]; simpa using hu
      · cases hu
    · obtain ⟨cs, hcs, hrd⟩ := hx i x hi
      exact ⟨cs, hcs, c.mono (fun b hb => ⟨hb.1, hb.2.1, fun he => hb.2.2 (by rw [he]; rfl)⟩) hrd⟩

/-- append(v, part...), the part lying elsewhere. -/
theorem OwnRow.appendAll {P : Program} {v : Value} (t ty : TypeId) (z : Value) (bytes : Nat) (ht : P.underlying t = some (.slice e)) (hi : (P.info? e).map (fun i => (i.zero, i.size, i.bytes)) = some (some z, c.size, bytes)) (hzs : z.cells.size = c.size) (hsz : 0 < c.size) (hby : bytes ≤ 1000)
    (h : OwnRow c e base cb w v xs) (hbase : base ≤ w.heap.size) (ad : Addr) (m cp : Nat) (ys : List α) (hm : m = ys.length) (hn : xs.length + ys.length ≤ 2000000) (news : List Value) (hnl : news.length = ys.length * c.size) (hsrc : ∀ j u, news[j]? = some u → w.cell? (ad.add j) = some u) (h1 : ∀ u ∈ news, u.oneCell' = true)
    (hrd : ∀ i y, ys[i]? = some y → ∃ cs : List Value, (∀ (j : Nat) (u : Value), cs[j]? = some u → news[i * c.size + j]? = some u) ∧ c.rd (fun b => cb ≤ b ∧ b < w.heap.size ∧ v.ownBlock ≠ some b) w cs y) :
    ∃ v' w', (Builtin.append_ #[t, t] ty #[v, .slice (some ad) m cp]).run P w = .ok v' w' ∧ OwnRow c e base cb w' v' (xs ++ ys) ∧ w.grownBy w' v.ownBlock := by
  subst hm
  obtain ⟨i, hi0, hz0, hz1, hz2⟩ := info_parts hi
  obtain ⟨us, ho, hu1, hx⟩ := h
  obtain ⟨v', w', hr, ho', hg, _, hat⟩ := run_append_own_at (P := P) w base t ty e i z c.size bytes ht hi0 hz0 hz1 hz2 hzs hsz v xs.length us ho ad ys.length cp news hnl hsrc h1 (by unfold maxLen; omega) (by
      have : (xs.length + ys.length) * bytes ≤ 2000000 * 1000 := Nat.mul_le_mul (by omega) hby
      omega) hbase
  have hg0 : w.grownBy w' v.ownBlock := hg
  have hfoot : ∀ b, (cb ≤ b ∧ b < w.heap.size ∧ v.ownBlock ≠ some b) → cb ≤ b ∧ b < w'.heap.size ∧ v'.ownBlock ≠ some b := by
    rintro b ⟨b1, b2, b3⟩
    refine ⟨b1, Nat.lt_of_lt_of_le b2 hg0.size, fun he => ?_⟩
    rcases hat with h | h
    · exact b3 (by rw [← h]; exact he)
    · rw [h] at he
      simp at he
      omega
  have hkeep : ∀ b, (cb ≤ b ∧ b < w.heap.size ∧ v.ownBlock ≠ some b) → w'.heap[b]? = w.heap[b]? := fun b hb => hg0.block b hb.2.1 fun h => hb.2.2 h.symm
  have hul : us.length = xs.length * c.size := ho.1
  refine ⟨v', w', hr, ⟨us ++ news, by rw [List.length_append]; exact ho', ?_, ?_⟩, hg0⟩
  · intro u hu
    rcases List.mem_append.1 hu with hu | hu
    · exact hu1 u hu
    · exact h1 u hu
  · intro k y hk
    rcases Nat.lt_or_ge k xs.length with hlt | hge'
    · rw [List.getElem?_append_left hlt] at hk
      obtain ⟨cs, hcs, hrd'⟩ := hx k y hk
      refine ⟨cs, fun j u hu => ?_, c.mono hfoot (c.keep hkeep hrd')⟩
      have h2 := hcs j u hu
      rw [List.getElem?_append_left (List.getElem?_eq_some_iff.1 h2).1]
      exact h2
    · rw [List.getElem?_append_right hge'] at hk
      obtain ⟨cs, hcs, hrd'⟩ := hrd _ y hk
      refine ⟨cs, fun j u hu => ?_, c.mono hfoot (c.keep hkeep hrd')⟩
      have h2 := hcs j u hu
      have h3 : k * c.size = xs.length * c.size + (k - xs.length) * c.size := by rw [← Nat.add_mul]; congr 1; omega
      rw [List.getElem?_append_right (by omega), hul]
      rw [show k * c.size + j - xs.length * c.size = (k - xs.length) * c.size + j by omega]
      exact h2
end

def LessKD (d M : Nat) (ys : List KepR) (w : World) (e : Ending) (w' : World) : Prop :=
  ∃ A cap, e = .returned (.slice A ys.length cap) ∧ OwnRow (Cod.kept (Cod.val d)) 35 w.heap.size M w' (.slice A ys.length cap) ys ∧ Below w.heap.size w w'

set_option maxRecDepth 100000 in
set_option maxHeartbeats 4000000 in
theorem l9Less_any (d M g cap k : Nat) (xs : List KepR) (w : World) (h : OwnRow (Cod.kept (Cod.val d)) 35 M M w (.slice (some ⟨g, 0, none⟩) xs.length cap) xs) (hM : M ≤ w.heap.size) (hn : xs.length ≤ 1000000) (hk : k < xs.length) :
    Calls Try.prog 78 #[.slice (some ⟨g, 0, none⟩) xs.length cap, .int .i64 k] w (LessKD d M (xs.take k ++ xs.drop (k + 1)) w) := by
  have hlk : (xs.take k).length = k := by rw [List.length_take]; omega
  have hgl : M ≤ g ∧ g < w.heap.size := h.own_lt5 g rfl
  obtain ⟨g1, cap1, w1, happ1, hO1, hg1, hge1⟩ := OwnRow.copy (P := Try.prog) 24 24 _ 80 Try.underlying24 info_kept rfl (by show 0 < 5; decide) (by omega) hlk.symm (h.take5 (k := k) (by omega)) (by omega)
  obtain ⟨-, hlc, hcm, us, hul, hu1, hcell, hel⟩ := h.flat5
  unfold maxLen at hcm
  have hsz1 := hg1.size
  have hk1 : ∀ b, b < w.heap.size → w1.heap[b]? = w.heap[b]? := fun b hb => hg1.block b hb (by simp)
  have i0 : (0 : Int) ≤ k := by omega
  have i1 : (k : Int) < xs.length := by omega
  have i2 : (k : Int) ≤ xs.length := by omega
  have i3 : (k : Int) + 1 ≤ xs.length := by omega
  have i4 : (k : Int) + 1 ≤ cap := by omega
  have hdl : (xs.drop (k + 1)).length = xs.length - (k + 1) := List.length_drop
  have hnl : (us.drop ((k + 1) * 5)).length = (xs.drop (k + 1)).length * (Cod.kept (Cod.val d)).size := by
    rw [List.length_drop, hul, hdl]
    show xs.length * 5 - (k + 1) * 5 = (xs.length - (k + 1)) * 5
    omega
  have hrd2 : ∀ i y, (xs.drop (k + 1))[i]? = some y → ∃ cs : List Value, (∀ (j : Nat) (u : Value), cs[j]? = some u → (us.drop ((k + 1) * 5))[i * (Cod.kept (Cod.val d)).size + j]? = some u) ∧ (Cod.kept (Cod.val d)).rd (fun b => M ≤ b ∧ b < w1.heap.size ∧ (Value.slice (some ⟨g1, 0, none⟩) k cap1).ownBlock ≠ some b) w1 cs y := fun i y hy => by
    rw [List.getElem?_drop] at hy
    obtain ⟨cs, hcs, hrd⟩ := hel _ y hy
    refine ⟨cs, fun j u hu => ?_, (Cod.kept (Cod.val d)).mono (fun b hb => ⟨hb.1, by have := hb.2.1; omega, by simp [Value.ownBlock]; have := hb.2.1; omega⟩) ((Cod.kept (Cod.val d)).keep (fun b hb => hk1 b hb.2.1) hrd)⟩
    have := hcs j u hu
    rw [List.getElem?_drop]
    have e1 : (Cod.kept (Cod.val d)).size = 5 := rfl
    rw [e1] at this ⊢
    rw [show (k + 1) * 5 + (i * 5 + j) = (k + 1 + i) * 5 + j by omega]
    exact this
  have hsrc : ∀ (o : Nat), (xs.length = k + 1 ∨ o = (k + 1) * 5) → ∀ j u, (us.drop ((k + 1) * 5))[j]? = some u → w1.cell? ((⟨g, o, none⟩ : Addr).add j) = some u := fun o ho j u hu => by
    rcases ho with ho | rfl
    · have := (List.getElem?_eq_some_iff.1 hu).1
      rw [hnl, hdl, ho] at this
      simp at this
    · rw [List.getElem?_drop] at hu
      rw [show (⟨g, (k + 1) * 5, none⟩ : Addr).add j = ⟨g, (k + 1) * 5 + j, none⟩ by unfold Addr.add; split <;> simp_all]
      exact (World.cell?_of_block (a := ⟨g, (k + 1) * 5 + j, none⟩) (hk1 g hgl.2)).trans (hcell _ u hu)
  have happ2 := fun (o cp : Nat) (ho : xs.length = k + 1 ∨ o = (k + 1) * 5) => OwnRow.appendAll (P := Try.prog) 24 24 _ 80 Try.underlying24 info_kept rfl (by show 0 < 5; decide) (by omega) hO1 hsz1 ⟨g, o, none⟩ (xs.length - (k + 1)) cp (xs.drop (k + 1)) hdl.symm (by rw [hlk, hdl]; omega) (us.drop ((k + 1) * 5)) hnl (hsrc o ho) (fun u hu => hu1 u (List.mem_of_mem_drop hu)) hrd2
  have HA2 := Lib.hid happ2
  have HG1 := Lib.hid hg1
  have HO1 := Lib.hid hO1
  clear h hlk hgl hel hcell hu1 hul hsz1 hk1 hdl hnl hrd2 hsrc happ2 hg1 hO1 hge1
  by_cases hc : cap = k + 1
  · subst hc
    have hxl : xs.length = k + 1 := by omega
    have hz : xs.length - (k + 1) = 0 := by omega
    obtain ⟨v2, w2, happ, hO2, hg2⟩ := HA2.out 0 0 (.inl hxl)
    rw [hz] at happ
    clear hxl
    obtain ⟨A2, c2, rfl⟩ := hO2.form5
    obtain ⟨L, hL⟩ : ∃ L, L = (xs.take k ++ xs.drop (k + 1)).length := ⟨_, rfl⟩
    rw [← hL] at happ hO2
    have HQ := Lib.hid (show LessKD d M (xs.take k ++ xs.drop (k + 1)) w (.returned (.slice A2 L c2)) w2 from
      ⟨A2, c2, by rw [← hL], by rw [← hL]; exact hO2, ⟨hg2.os.trans HG1.out.os, hg2.tape.trans HG1.out.tape, hg2.output.trans HG1.out.output, Nat.le_trans HG1.out.size hg2.size, fun i hi => (hg2.block i (by have := HG1.out.size; omega) (fun he => by have := (HO1.out.own_lt5 i he.symm).1; omega)).trans (HG1.out.block i hi (by simp))⟩⟩)
    clear hO2 hg2 HA2 HG1 HO1 hL
    go_enter Try.func78, Try.ntmps78
    go_upto_region 2 with (at_builtin; refine wpList_append_run rfl _ _ _ rfl rfl rfl happ1 ?_)
    go_wp2_with (at_builtin; refine wpList_append_run rfl _ _ _ rfl rfl rfl happ ?_)
    go_ret
    exact HQ.out
  · obtain ⟨v2, w2, happ, hO2, hg2⟩ := HA2.out ((k + 1) * 5) (cap - (k + 1)) (.inr rfl)
    obtain ⟨A2, c2, rfl⟩ := hO2.form5
    obtain ⟨L, hL⟩ : ∃ L, L = (xs.take k ++ xs.drop (k + 1)).length := ⟨_, rfl⟩
    rw [← hL] at happ hO2
    have HQ := Lib.hid (show LessKD d M (xs.take k ++ xs.drop (k + 1)) w (.returned (.slice A2 L c2)) w2 from
      ⟨A2, c2, by rw [← hL], by rw [← hL]; exact hO2, ⟨hg2.os.trans HG1.out.os, hg2.tape.trans HG1.out.tape, hg2.output.trans HG1.out.output, Nat.le_trans HG1.out.size hg2.size, fun i hi => (hg2.block i (by have := HG1.out.size; omega) (fun he => by have := (HO1.out.own_lt5 i he.symm).1; omega)).trans (HG1.out.block i hi (by simp))⟩⟩)
    clear hO2 hg2 HA2 HG1 HO1 hL
    go_enter Try.func78, Try.ntmps78
    go_upto_region 2 with (at_builtin; refine wpList_append_run rfl _ _ _ rfl rfl rfl happ1 ?_)
    go_wp2_with (at_builtin; refine wpList_append_run rfl _ _ _ rfl rfl rfl happ ?_)
    go_ret
    exact HQ.out
end Go.Proofs.Ytemlpiokdoeeeaa
