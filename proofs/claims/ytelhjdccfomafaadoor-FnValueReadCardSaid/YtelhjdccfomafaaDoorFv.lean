/- What is drawn for the laws of values; a good value's parts are good, and are counted. -/
import Derived.Test.YtelhjdccfomafaaDoorFa
import Derived.Test.YtelhjdccfomafaaDoorDraww
import Derived.Test.YtelhjdccfomafaaDoorVnb
namespace Go.Proofs.YtelhjdccfomafaaDoor
open Go.ChangeShapes Go.WideShapes Go.ChangeAt Go.RowKit Go.Deep

/-- Drawn kinds and a value, perhaps spoilt. -/
def DrawnKv (W : World) (e : Ending) (w' : World) : Prop :=
  ∃ (ad cap : Nat) (ks : Ks) (v : Val) (A : Option Addr) (c : Nat) (B : Option Addr) (c' : Nat), e = .returned (.tuple #[.slice (some ⟨ad, 0, none⟩) ks.length cap, .agg #[.string v.ty, .int .i64 v.n, .slice A v.parts.length c, .slice B v.path.length c']]) ∧
    Made Cod.recs W w' (.slice (some ⟨ad, 0, none⟩) ks.length cap) ks ∧ VRd (Cod.val 9) (Fresh W w') w' (.slice A v.parts.length c) (.slice B v.path.length c') v ∧ sizeOf' (fun _ => 1) (sizeV 9) v ≤ 2000000 ∧ v.parts.length ≤ 4

theorem DrawnKv.end_ {W w0 w5 w6 : World} {e : Ending} (h : DrawnKv w0 e w5) (hb0 : Below W.heap.size W w0) (hl : W.heap.size < w0.heap.size) (hE : Below w0.heap.size w0 w5) (hb6 : Below w5.heap.size w5 w6) {a0 a1 a2 a3 z0 z1 z2 z3 : Value} (hR : Blk w6 W.heap.size 27 #[z0, z1, z2, z3]) :
    Blk ((((w6.setCell ⟨W.heap.size, 0, none⟩ a0).setCell ⟨W.heap.size, 1, none⟩ a1).setCell ⟨W.heap.size, 2, none⟩ a2).setCell ⟨W.heap.size, 3, none⟩ a3) W.heap.size 27 #[a0, a1, a2, a3] ∧
    DrawnKv W e ((((w6.setCell ⟨W.heap.size, 0, none⟩ a0).setCell ⟨W.heap.size, 1, none⟩ a1).setCell ⟨W.heap.size, 2, none⟩ a2).setCell ⟨W.heap.size, 3, none⟩ a3) := by
  obtain ⟨wE, hwE⟩ : ∃ wE, wE = (((w6.setCell ⟨W.heap.size, 0, none⟩ a0).setCell ⟨W.heap.size, 1, none⟩ a1).setCell ⟨W.heap.size, 2, none⟩ a2).setCell ⟨W.heap.size, 3, none⟩ a3 := ⟨_, rfl⟩
  have hk : ∀ b, b ≠ W.heap.size → wE.heap[b]? = w6.heap[b]? := fun b hb => by rw [hwE, Below.heap_setCell _ _ _ _ hb, Below.heap_setCell _ _ _ _ hb, Below.heap_setCell _ _ _ _ hb, Below.heap_setCell _ _ _ _ hb]
  have hsE : wE.heap.size = w6.heap.size := by rw [hwE]; simp [World.setCell]
  have hBE : Blk wE W.heap.size 27 #[a0, a1, a2, a3] := by rw [hwE]; exact four_set hR _ _ _ _
  have hz5 := hE.size
  have hz6 := hb6.size
  have hWE : Below W.heap.size W wE := by
    rw [hwE]
    exact (((((hb0.trans (hE.mono hb0.size)).trans (hb6.mono (by omega))).setCell (by simp) _).setCell (by simp) _).setCell (by simp) _).setCell (by simp) _
  rw [← hwE]
  refine ⟨hBE, ?_⟩
  obtain ⟨ad, cap, ks, v, A, c, B, c', he, ⟨h1, _⟩, h2, h3, h4⟩ := h
  have hkk : ∀ b, Fresh w0 w5 b → wE.heap[b]? = w5.heap[b]? := fun b hb => (hk b (by have := hb.1; omega)).trans (hb6.block b hb.2)
  have hkm : ∀ b, Fresh w0 w5 b → Fresh W wE b := fun b hb => ⟨by have := hb.1; omega, by have := hb.2; omega⟩
  exact ⟨ad, cap, ks, v, A, c, B, c', he, ⟨(h1.keep hkk).mono hkm, hWE⟩, (h2.keep hkk).mono hkm, h3, h4⟩

theorem DrawnKv.drew {W w' : World} {e : Ending} (h : DrawnKv W e w') : DrawnKv W e w'.drew := by
  obtain ⟨ad, cap, ks, v, A, c, B, c', he, ⟨h1, h2⟩, h3, h4, h5⟩ := h
  exact ⟨ad, cap, ks, v, A, c, B, c', he, ⟨h1.drew, h2.drew⟩, h3.drew, h4, h5⟩

theorem okOf_part {ks : Ks} {g : Val → Bool} {v : Val} (h : okOf ks g v = true) : ∀ x ∈ v.parts, g x = true := fun x hx => by
  have hp : plainV v = true → g x = true := fun hp => by
    unfold plainV at hp
    simp only [Bool.and_eq_true, decide_eq_true_eq] at hp
    rw [List.eq_nil_of_length_eq_zero hp.1] at hx
    cases hx
  cases c1 : (v.ty.toList == [110]) with
  | true => unfold okOf at h; rw [if_pos c1] at h; simp only [Bool.and_eq_true] at h; exact hp h.1
  | false =>
    cases c2 : (v.ty.toList == [98]) with
    | true => unfold okOf at h; rw [if_neg (by simp [c1]), if_pos c2] at h; simp only [Bool.and_eq_true] at h; exact hp h.1
    | false =>
      cases c3 : (v.ty.toList == [111]) with
      | true => unfold okOf at h; rw [if_neg (by simp [c1]), if_neg (by simp [c2]), if_pos c3] at h; simp only [Bool.and_eq_true] at h; exact hp h.1
      | false =>
        unfold okOf at h
        rw [if_neg (by simp [c1]), if_neg (by simp [c2]), if_neg (by simp [c3])] at h
        split at h
        · cases h
        · rename_i m k hk
          simp only [Bool.and_eq_true, decide_eq_true_eq, List.all_eq_true] at h
          obtain ⟨⟨_, h4⟩, h5⟩ := h
          obtain ⟨j, hj, rfl⟩ := List.mem_iff_getElem.1 hx
          exact (h5 (v.parts[j], (recAt ks m k).fields[j]'(by omega)) (List.mem_iff_getElem.2 ⟨j, by rw [List.length_zip]; omega, List.getElem_zip⟩)).2
theorem valOk_part {ks : Ks} {d : Nat} {v : Val} (h : valOk ks (d + 1) v = true) : ∀ x ∈ v.parts, valOk ks d x = true := fun x hx => by
  unfold valOk at h ⊢
  simp only [Bool.and_eq_true] at h ⊢
  exact ⟨h.1, okOf_part (ks := ks) (g := okV ks (d + 1)) h.2 x hx⟩
theorem sumL_mem {f : Val → Int} (hf : ∀ x, 0 ≤ f x) : ∀ (xs : List Val) (x : Val), x ∈ xs → f x ≤ sumL f xs
  | y :: r, x, h => by
    unfold sumL
    have := sumL_pos hf r
    have := hf y
    rcases List.mem_cons.1 h with rfl | h
    · omega
    · have := sumL_mem hf r x h; omega
theorem size_part {d : Nat} {v : Val} {M : Int} (h : sizeOf' (fun _ => 1) (sizeV (d + 1)) v ≤ M) : ∀ x ∈ v.parts, sizeOf' (fun _ => 1) (sizeV d) x ≤ M := fun x hx => by
  have := sumL_mem (sizeV_pos (d + 1)) v.parts x hx
  have h' : 1 + sumL (sizeV (d + 1)) v.parts ≤ M := h
  have e : sizeV (d + 1) x = sizeOf' (fun _ => 1) (sizeV d) x := rfl
  omega
theorem MadeV.drawn {W w : World} {v : Val} {a p : Value} (h : VRd (Cod.val 9) (Fresh W w) w a p v) {w' : World} (hb : Below w.heap.size w w') : VRd (Cod.val 9) (Fresh W w') w' a p v :=
  (h.keep (below_keeps hb fun _ hb => hb.2)).mono fun _ hx => ⟨hx.1, Nat.lt_of_lt_of_le hx.2 hb.size⟩
end Go.Proofs.YtelhjdccfomafaaDoor
