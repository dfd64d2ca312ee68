/- A region that draws its order, by what holds at each of its states, whichever operations have come up. No program is named here. -/
import Derived.Orders
import Derived.Great.Frames
namespace Go.Proofs.Ythhheipinogcoaa

section
variable {P : Program} {ops : Array Oper} {Q : Exit → Act → World → Prop}

/-- Each operation waits for earlier ones alone. -/
def ordB (ops : Array Oper) : Bool := (List.range ops.size).all fun i => ((ops[i]?).map (·.after.all fun e => decide (e.on < i))).getD true

theorem ready_iff {listed : Array Bool} {i : Nat} : i ∈ Region.ready .any ops listed ↔ i < ops.size ∧ listed.getD i true = false ∧ ∃ o, ops[i]? = some o ∧ ∀ e ∈ o.after, Region.binds .any e = true → listed.getD e.on false = true := by
  unfold Region.ready
  rw [List.mem_filter, List.mem_range, Bool.and_eq_true, Bool.not_eq_true']
  constructor
  · rintro ⟨h1, h2, h3⟩
    have ho : ops[i]? = some ops[i] := Array.getElem?_eq_getElem h1
    refine ⟨h1, h2, ops[i], ho, fun e he hb => ?_⟩
    rw [ho] at h3
    simp only [Option.map_some, Option.getD_some, Array.all_eq_true_iff_forall_mem] at h3
    have := h3 e he
    rw [hb] at this
    simpa using this
  · rintro ⟨h1, h2, o, ho, h3⟩
    refine ⟨h1, h2, ?_⟩
    rw [ho]
    simp only [Option.map_some, Option.getD_some, Array.all_eq_true_iff_forall_mem]
    intro e he
    cases hb : Region.binds .any e
    · rfl
    · rw [h3 e he hb]; rfl

theorem ready_nil {listed : Array Bool} (hs : listed.size = ops.size) (ho : ordB ops = true) (hr : Region.ready .any ops listed = []) : ∀ i, i < ops.size → listed.getD i true = true := by
  intro i
  induction i using Nat.strongRecOn with
  | ind i ih =>
    intro hi
    rcases Bool.eq_false_or_eq_true (listed.getD i true) with h | h
    · exact h
    · exfalso
      have : i ∈ Region.ready .any ops listed := by
        refine ready_iff.2 ⟨hi, h, ops[i], Array.getElem?_eq_getElem hi, fun e he _ => ?_⟩
        have h1 := List.all_eq_true.1 ho i (List.mem_range.2 hi)
        rw [Array.getElem?_eq_getElem hi] at h1
        simp only [Option.map_some, Option.getD_some, Array.all_eq_true_iff_forall_mem] at h1
        have h2 : e.on < i := by simpa using h1 e he
        have h3 := ih e.on h2 (by omega)
        rw [Array.getD_eq_getD_getElem?] at h3 ⊢
        rw [Array.getElem?_eq_getElem (by omega)] at h3 ⊢
        exact h3
      rw [hr] at this
      cases this

theorem wpAny_inv (Inv : Array Bool → Act → World → Prop) (ho : ordB ops = true) (hs : ∀ l a w, Inv l a w → l.size = ops.size)
    (hstep : ∀ l a w i, Inv l a w → i < ops.size → l.getD i true = false → (∀ o, ops[i]? = some o → ∀ e ∈ o.after, Region.binds .any e = true → l.getD e.on false = true) → wpOp P ops Q i (fun a' w' => Inv (l.setIfInBounds i true) a' w') a w)
    (hend : ∀ l a w, Inv l a w → (∀ i, i < ops.size → l.getD i true = true) → Q .normal a w) :
    ∀ (fuel : Nat) (l : Array Bool) (a : Act) (w : World), l.toList.count false ≤ fuel → Inv l a w → wpAny P .any ops Q fuel l a w
  | 0, l, a, w, hc, hi => by
    have hall : ∀ i, i < ops.size → l.getD i true = true := fun i hil => by
      rcases Bool.eq_false_or_eq_true (l.getD i true) with h | h
      · exact h
      · exfalso
        have hl := hs l a w hi
        rw [Array.getD_eq_getD_getElem?, Array.getElem?_eq_getElem (by omega)] at h
        have hmem : false ∈ l.toList := by
          have h' : l[i]'(by omega) = false := h
          rw [← h']
          exact Array.getElem_mem_toList (by omega)
        have := List.count_pos_iff.2 hmem
        omega
    refine ⟨?_, hend l a w hi hall⟩
    rcases hr : Region.ready .any ops l with _ | ⟨j, rs⟩
    · rfl
    · exfalso
      have hj : j ∈ Region.ready .any ops l := by rw [hr]; exact List.mem_cons_self
      obtain ⟨h1, h2, _⟩ := ready_iff.1 hj
      rw [hall j h1] at h2
      cases h2
  | fuel + 1, l, a, w, hc, hi => by
    refine ⟨fun hr => hend l a w hi (ready_nil (hs l a w hi) ho hr), fun i hir => ?_⟩
    obtain ⟨h1, h2, o, hoo, h3⟩ := ready_iff.1 hir
    refine wpOp_mono (fun a' w' hI => wpAny_inv Inv ho hs hstep hend fuel _ a' w' ?_ hI) (hstep l a w i hi h1 h2 fun o' ho' => by rw [hoo] at ho'; cases ho'; exact h3)
    have hl := hs l a w hi
    have hil : i < l.toList.length := by simpa using (by omega : i < l.size)
    have hf : l.toList[i] = false := by
      rw [Array.getD_eq_getD_getElem?, Array.getElem?_eq_getElem (by omega)] at h2
      simpa using h2
    rw [Array.toList_setIfInBounds, List.count_set hil, hf]
    have hmem : false ∈ l.toList := by
      rw [← hf]
      exact List.getElem_mem hil
    have := List.count_pos_iff.2 hmem
    show l.toList.count false - 1 + 0 ≤ fuel
    omega

theorem wp_region_inv {id : Nat} {a : Act} {w : World} (hm : P.follows .mixedOrders = true) (Inv : Array Bool → Act → World → Prop) (ho : ordB ops = true) (hs : ∀ l a w, Inv l a w → l.size = ops.size)
    (hinit : Inv (Array.replicate ops.size false) a { w with drawn := w.drawn + 1 })
    (hstep : ∀ l a w i, Inv l a w → i < ops.size → l.getD i true = false → (∀ o, ops[i]? = some o → ∀ e ∈ o.after, Region.binds .any e = true → l.getD e.on false = true) → wpOp P ops Q i (fun a' w' => Inv (l.setIfInBounds i true) a' w') a w)
    (hend : ∀ l a w, Inv l a w → (∀ i, i < ops.size → l.getD i true = true) → Q .normal a w) : (Code.region id ops true).wp P Q a w :=
  wp_region_any hm (wpAny_inv Inv ho hs hstep hend _ _ _ _ (by
    refine Nat.le_trans List.count_le_length ?_
    simp) hinit)

/-- An operation that runs to its end. -/
theorem wpOp_run {i : Nat} {o : Oper} {a : Act} {w w' : World} {v : Value} {K : Act → World → Prop} (hi : ops[i]? = some o) (hg : o.guard = none) (hr : (execOp a.eval o).run P w = .ok (.value v) w') (h : K (a.put o.dst v) w') : wpOp P ops Q i K a w := by
  have hw : Region.wanted o (yielded ops a.tmps) = true := by simp [Region.wanted, hg]
  unfold wpOp
  simp only [hi, hw, if_true]
  left
  unfold Oper.wp
  rw [hr]
  exact h
theorem wpOp_skip {i : Nat} {o : Oper} {a : Act} {w w' : World} {K : Act → World → Prop} (hi : ops[i]? = some o) (hg : o.guard = none) (hr : (execOp a.eval o).run P w = .ok .skip w') (h : K (a.put o.dst undef) w') : wpOp P ops Q i K a w := by
  have hw : Region.wanted o (yielded ops a.tmps) = true := by simp [Region.wanted, hg]
  unfold wpOp
  simp only [hi, hw, if_true]
  left
  unfold Oper.wp
  rw [hr]
  exact h
end
end Go.Proofs.Ythhheipinogcoaa
