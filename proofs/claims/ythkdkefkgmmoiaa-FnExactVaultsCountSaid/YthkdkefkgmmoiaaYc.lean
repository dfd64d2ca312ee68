/- The program's copyValue: a copy of a good value shares no memory with it. -/
import Derived.Test.YthkdkefkgmmoiaaYb
import Derived.Test.YthkdkefkgmmoiaaWo
import Derived.Deep.RegionHeld3
import Derived.RangeFuncOwn
import Derived.Test.YthkdkefkgmmoiaaGk
namespace Go.Proofs.Ythkdkefkgmmoiaa
open Go.RowKit

/-- The blocks from lo on are cells. -/
def CellsOn (lo : Nat) (w : World) : Prop := ∀ b o, lo ≤ b → w.heap[b]? = some o → o.isCells = true
theorem CellsOn.refl (w : World) : CellsOn w.heap.size w := fun b o h ho => absurd (Array.getElem?_eq_some_iff.1 ho).1 (by omega)
theorem CellsOn.mono {lo lo' : Nat} {w : World} (h : CellsOn lo w) (hl : lo ≤ lo') : CellsOn lo' w := fun b o hb ho => h b o (by omega) ho
theorem CellsOn.alloc {lo : Nat} {w : World} (h : CellsOn lo w) (cs : Array Value) (t : TypeId) : CellsOn lo (w.alloc (.cells cs t)) := fun b o hb ho => by
  by_cases hlt : b < w.heap.size
  · rw [Below.heap_alloc _ _ _ hlt] at ho
    exact h b o hb ho
  · have hl := (Array.getElem?_eq_some_iff.1 ho).1
    have : b = w.heap.size := by simp at hl; omega
    rw [this, World.alloc_heap_new] at ho
    cases ho
    rfl
theorem CellsOn.drew {lo : Nat} {w : World} (h : CellsOn lo w) : CellsOn lo w.drew := h
theorem CellsOn.setCell {lo : Nat} {w : World} (h : CellsOn lo w) (p : Addr) (u : Value) : CellsOn lo (w.setCell p u) := fun b o hb ho => by
  by_cases hp : b = p.block
  · subst hp
    have hl : p.block < w.heap.size := by have := (Array.getElem?_eq_some_iff.1 ho).1; simpa [World.setCell] using this
    have h0 := h p.block w.heap[p.block] hb (Array.getElem?_eq_getElem hl)
    have he : (w.heap.modify p.block _)[p.block]? = some o := ho
    rw [Array.getElem?_eq_getElem (by rw [Array.size_modify]; exact hl), Array.getElem_modify_self] at he
    generalize w.heap[p.block] = x at *
    cases x <;> first | (simp [Obj.isCells] at h0; done) | (simp at he; subst he; rfl)
  · rw [Below.heap_setCell _ _ _ _ hp] at ho
    exact h b o hb ho
theorem CellsOn.below {lo : Nat} {w w' : World} (h : CellsOn lo w) (hb : Below w.heap.size w w') (h' : CellsOn w.heap.size w') : CellsOn lo w' := fun b o hlo ho => by
  by_cases hlt : b < w.heap.size
  · rw [hb.block b hlt] at ho
    exact h b o hlo ho
  · exact h' b o (by omega) ho
theorem CellsOn.set4 {lo : Nat} {w : World} (h : CellsOn lo w) {p q r t : Addr} (a b c d : Value) : CellsOn lo ((((w.setCell p a).setCell q b).setCell r c).setCell t d) := (((h.setCell _ _).setCell _ _).setCell _ _).setCell _ _

theorem sl_us {α : Type} {c : Cod α} {F : Nat → Prop} {w : World} {b off cap : Nat} {xs : List α} (h : c.Sl F w (.slice (some ⟨b, off, none⟩) xs.length cap) xs) : ∀ k, k ≤ xs.length →
    ∃ us : List Value, us.length = k * c.size ∧ (∀ j u, us[j]? = some u → w.cell? ⟨b, off + j, none⟩ = some u) ∧ ∀ i x, i < k → xs[i]? = some x → ∃ cs : List Value, (∀ j u, cs[j]? = some u → us[i * c.size + j]? = some u) ∧ c.rd F w cs x
  | 0, _ => ⟨[], by simp, fun j u h => by simp at h, fun i x h => absurd h (by omega)⟩
  | k + 1, hk => by
    obtain ⟨us, h1, h2, h3⟩ := sl_us h k (by omega)
    obtain ⟨A, cap', hv, _, _, hx⟩ := h
    simp only [Value.slice.injEq] at hv
    obtain ⟨rfl, -, rfl⟩ := hv
    obtain ⟨b', off', hA, _, hcell⟩ := hx (by omega)
    simp only [Option.some.injEq, Addr.mk.injEq] at hA
    obtain ⟨rfl, rfl, -⟩ := hA
    obtain ⟨ds, hd1, hd2⟩ := hcell k xs[k] (List.getElem?_eq_getElem (by omega))
    have hl := c.len hd2
    refine ⟨us ++ ds, by rw [List.length_append, h1, hl, Nat.add_mul]; omega, fun j u hu => ?_, fun i x hi hxi => ?_⟩
    · rw [List.getElem?_append] at hu
      split at hu
      · exact h2 j u hu
      · rename_i hj
        have := hd1 _ u hu
        rw [h1] at hj this
        rw [show off + k * c.size + (j - k * c.size) = off + j by omega] at this
        exact this
    · by_cases he : i = k
      · subst he
        rw [List.getElem?_eq_getElem (by omega)] at hxi
        cases hxi
        exact ⟨ds, fun j u hu => by rw [List.getElem?_append_right (by omega), h1, Nat.add_sub_cancel_left]; exact hu, hd2⟩
      · obtain ⟨cs, g1, g2⟩ := h3 i x (by omega) hxi
        exact ⟨cs, fun j u hu => by have := g1 j u hu; rw [List.getElem?_append_left (List.getElem?_eq_some_iff.1 this).1]; exact this, g2⟩

/-- The elements from k on of a row in block b are as they were. -/
def RestV (c : Cod Val) (F : Nat → Prop) (w : World) (cs : Array Value) (k : Nat) (xs : List Val) : Prop :=
  ∀ i x, k ≤ i → xs[i]? = some x → ∃ ds : List Value, (∀ j u, ds[j]? = some u → cs[i * 4 + j]? = some u) ∧ c.rd F w ds x
theorem RestV.keep {c : Cod Val} {F : Nat → Prop} {w w' : World} {cs : Array Value} {k : Nat} {xs : List Val} (hk : ∀ b, F b → w'.heap[b]? = w.heap[b]?) (h : RestV c F w cs k xs) : RestV c F w' cs k xs := fun i x hi hx => by
  obtain ⟨ds, h1, h2⟩ := h i x hi hx
  exact ⟨ds, h1, c.keep hk h2⟩
/-- A row of values, its cells copied. -/
def CloneAt (c : Cod Val) (F : Nat → Prop) (w w' : World) (A : Option Addr) (xs : List Val) : Prop :=
  0 < xs.length → ∃ (b : Nat) (cs : Array Value), A = some ⟨b, 0, none⟩ ∧ w.heap.size ≤ b ∧ Blk w' b 95 cs ∧ xs.length * 4 ≤ cs.size ∧ RestV c F w' cs 0 xs
def CloneD (c : Cod Val) (F : Nat → Prop) (xs : List Val) (w : World) (e : Ending) (w' : World) : Prop :=
  ∃ A' c', e = .returned (.slice A' xs.length c') ∧ xs.length ≤ c' ∧ c' ≤ maxLen ∧ Below w.heap.size w w' ∧ CloneAt c F w w' A' xs ∧ CellsOn w.heap.size w'

theorem append_vals {P : Program} {c : Cod Val} (hcs : c.size = 4) (t ty : TypeId) (z : Value) (ht : P.underlying t = some (.slice 95)) (hi : (P.info? 95).map (fun i => (i.zero, i.size, i.bytes)) = some (some z, 4, 72))
    (F : Nat → Prop) (v : Value) (xs : List Val) (w : World) (h : c.Sl F w v xs) (hF : ∀ b, F b → b < w.heap.size) (hn : xs.length ≤ 2000000) (g : Nat) :
    ∃ A' c' w', (Builtin.append_ #[t, t] ty #[.slice (some ⟨g, 0, none⟩) 0 0, v]).run P w = .ok (.slice A' xs.length c') w' ∧ xs.length ≤ c' ∧ c' ≤ maxLen ∧ Below w.heap.size w w' ∧ CloneAt c F w w' A' xs ∧ CellsOn w.heap.size w' := by
  obtain ⟨i, hi0, hz0, hz1, hz2⟩ := info_parts hi
  obtain ⟨A, cap, rfl, hlc, hcm, hx⟩ := id h
  by_cases hp : 0 < xs.length
  · obtain ⟨b, off, rfl, hFb, hcell⟩ := hx hp
    obtain ⟨us, hl, hus, hrest⟩ := sl_us h xs.length (Nat.le_refl _)
    have hb1 : xs.length * 72 ≤ 2000000 * 72 := Nat.mul_le_mul hn (Nat.le_refl _)
    have hr := run_append_grow (P := P) w t ty _ i z ht hi0 hz0 ⟨g, 0, none⟩ 0 0 [] (by simp) (fun j u hu => by simp at hu) ⟨b, off, none⟩ xs.length cap us (by rw [hl, hz1, hcs]) (fun j u hu => by
      rw [Go.WideShapes.add_plain]
      exact hus j u hu) (by omega) (by omega) (growslice_fits (by omega) (by rw [hz2, Nat.zero_add]; omega))
    simp only [Nat.zero_add] at hr
    refine ⟨_, _, _, hr, grownCap_ge w xs.length 0 _, grownCap_le_maxLen w xs.length 0 _ (by unfold maxLen; omega), ((Below.refl _ _).drew).alloc (Nat.le_refl _) _, fun _ => ⟨w.heap.size, _, rfl, Nat.le_refl _, Blk.new w.drew _ _, ?_, fun k x _ hk => ?_⟩, (CellsOn.refl w).drew.alloc _ _⟩
    · have hz : us.length ≤ (([] : List Value).toArray ++ us.toArray ++ Builtin.zeroCells z.cells (grownCap w xs.length 0 95 - xs.length)).size := by simp
      rw [hl, hcs] at hz
      exact hz
    · obtain ⟨cs, hc1, hc2⟩ := hrest k x (List.getElem?_eq_some_iff.1 hk).1 hk
      refine ⟨cs, fun j u hu => ?_, c.keep (w := w) (fun b' hb' => Below.heap_alloc w.drew _ b' (hF b' hb')) hc2⟩
      have hput := hc1 j u hu
      rw [hcs] at hput
      have hj : k * 4 + j < us.length := (List.getElem?_eq_some_iff.1 hput).1
      simp only [List.nil_append, List.append_toArray, ← Array.getElem?_toList]
      simp only [Array.toList_append, List.nil_append]
      rw [List.getElem?_append_left (by simpa using hj)]
      simpa using hput
  · obtain rfl : xs = [] := List.eq_nil_of_length_eq_zero (by omega)
    have hr := run_append_nothing (P := P) w t t ty _ i ht hi0 (some ⟨g, 0, none⟩) 0 0 (Nat.le_refl _) (.slice A 0 cap) (by cases A with | none => exact Src.ofNil w ht cap | some a => exact Src.ofSlice w ht a 0 cap [] (by simp) (fun j u hu => by simp at hu) (fun u hu => by simp at hu))
    exact ⟨_, _, _, hr, Nat.le_refl _, by unfold maxLen; omega, Below.refl _ _, (fun h0 => by simp at h0), CellsOn.refl w⟩

/-- The same, the row ahead of block q. -/
def CloneQ (c : Cod Val) (F : Nat → Prop) (w w' : World) (A : Option Addr) (q : Nat) (xs : List Val) : Prop :=
  0 < xs.length → ∃ (b : Nat) (cs : Array Value), A = some ⟨b, 0, none⟩ ∧ w.heap.size ≤ b ∧ b ≠ q ∧ Hid (Blk w' b 95 cs) ∧ xs.length * 4 ≤ cs.size ∧ Hid (RestV c F w' cs 0 xs)
theorem clone_at {c : Cod Val} {F : Nat → Prop} {w w1 : World} {A : Option Addr} {xs : List Val} (h : CloneAt c F w.drew w1 A xs) (hb : Below w.heap.size w w1) (hF : ∀ b, F b → b < w.heap.size) (o : Obj) : CloneQ c F w (w1.alloc o) A w1.heap.size xs := fun hp => by
  obtain ⟨b, cs, h1, h2, h3, h4, h5⟩ := h hp
  exact ⟨b, cs, h1, h2, Nat.ne_of_lt h3.lt, h3.alloc _, h4, h5.keep fun b' hb' => Below.heap_alloc _ _ _ (Nat.lt_of_lt_of_le (hF b' hb') hb.size)⟩

theorem clone_at2 {c : Cod Val} {F : Nat → Prop} {w w1 : World} {A : Option Addr} {xs : List Val} {o : Obj} (h : CloneAt c F (w.alloc o).drew w1 A xs) (hF : ∀ b, F b → b < w.heap.size) (x0 x1 x2 x3 : Value) :
    CloneQ c F w ((((w1.setCell ⟨w.heap.size, 0, none⟩ x0).setCell ⟨w.heap.size, 1, none⟩ x1).setCell ⟨w.heap.size, 2, none⟩ x2).setCell ⟨w.heap.size, 3, none⟩ x3) A w.heap.size xs := fun hp => by
  obtain ⟨b, cs, h1, h2, h3, h4, h5⟩ := h hp
  have h2' : w.heap.size + 1 ≤ b := by simpa using h2
  exact ⟨b, cs, h1, by omega, by omega, (set4_heap _ _ _ _ (by omega)).trans h3, h4, h5.keep fun b' hb' => set4_heap _ _ _ _ (by have := hF b' hb'; omega)⟩

theorem own_nil5 {α : Type} {c : OCod α} {t : TypeId} {lo hi : Nat} {w : World} : Own c t lo hi w (.slice none 0 0) [] := ⟨_, _, rfl, Nat.le_refl _, by unfold maxLen; omega, fun h => by simp at h⟩
/-- What a copy of a value is: its parts in blocks of its own, and no path. -/
def CopyD (c : OCod Val) (v : Val) (w : World) (e : Ending) (w' : World) : Prop :=
  ∃ A' cA', e = .returned (.agg #[.string v.ty, .int .i64 v.n, .slice A' v.parts.length cA', .slice none 0 0]) ∧ Own c 95 w.heap.size w'.heap.size w' (.slice A' v.parts.length cA') v.parts ∧ Below w.heap.size w w' ∧ CellsOn w.heap.size w'
theorem all_zip {f : Val → Bool} {p : Val × ByteArray → Bool} (hp : ∀ x, p x = true → f x.1 = true) : ∀ (xs : List Val) (ys : List ByteArray), xs.length = ys.length → (xs.zip ys).all p = true → ∀ x ∈ xs, f x = true
  | [], _, _, _, x, hx => by simp at hx
  | a :: xs, [], h, _, _, _ => by simp at h
  | a :: xs, b :: ys, h, ha, x, hx => by
    simp only [List.zip_cons_cons, List.all_cons, Bool.and_eq_true] at ha
    rcases List.mem_cons.1 hx with rfl | hx
    · exact hp _ ha.1
    · exact all_zip hp xs ys (by simpa using h) ha.2 x hx
theorem ok_bare {ks : Ks} {f : Val → Bool} {v : Val} (h : okOf ks f v = true) : v.path = [] ∧ ∀ x ∈ v.parts, f x = true := by
  have hpl : plainV v = true → v.path = [] ∧ ∀ x ∈ v.parts, f x = true := fun hp => by
    unfold plainV at hp
    simp only [Bool.and_eq_true, decide_eq_true_eq] at hp
    refine ⟨List.eq_nil_of_length_eq_zero hp.2, fun x hx => ?_⟩
    rw [List.eq_nil_of_length_eq_zero hp.1] at hx
    simp at hx
  unfold okOf at h
  split at h
  · simp only [Bool.and_eq_true] at h; exact hpl h.1
  · split at h
    · simp only [Bool.and_eq_true] at h; exact hpl h.1
    · split at h
      · simp only [Bool.and_eq_true] at h; exact hpl h.1
      · split at h
        · cases h
        · simp only [Bool.and_eq_true, decide_eq_true_eq] at h
          exact ⟨List.eq_nil_of_length_eq_zero h.1.1.2, all_zip (fun x hx => by simp only [Bool.and_eq_true] at hx; exact hx.2) _ _ h.1.2 h.2⟩

end Go.Proofs.Ythkdkefkgmmoiaa
