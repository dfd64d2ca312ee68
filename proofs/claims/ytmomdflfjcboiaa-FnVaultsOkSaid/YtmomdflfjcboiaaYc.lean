/- The program's copyValue: a copy of a good value shares no memory with it. -/
import Derived.Test.YtmomdflfjcboiaaYb
import Derived.Test.YtmomdflfjcboiaaWo
import Derived.Deep.RegionHeld3
import Derived.RangeFuncOwn
import Derived.Test.YtmomdflfjcboiaaGk
namespace Go.Proofs.Ytmomdflfjcboiaa
open Go.RowKit

/-- The blocks from lo on are cells. -/
def CellsOn (lo : Nat) (w : World) : Prop := ∀ b o, lo ≤ b → w.heap[b]? = some o → o.isCells = true
theorem CellsOn.refl (w : World) : CellsOn w.heap.size w := fun b o h ho => absurd (Array.getElem?_eq_some_iff.1 ho).1 (by omega)
theorem CellsOn.mono {lo lo' : Nat} {w : World} (h : CellsOn lo w) (hl : lo ≤ lo') : CellsOn lo' w := fun b o hb ho => h b o (by omega) ho
theorem CellsOn.alloc {lo : Nat} {w : World} (h : CellsOn lo w) (cs : Array Value) (t : TypeId) : CellsOn lo (w.alloc (.cells cs t)) := fun b o hb ho => by
  by_cases hlt : b < w.heap.size
  · rw [Below.heap_alloc _ _ _ hlt] at ho
    exact h b o hb ho
  · have hl := (Array.getElem?_eq_some_iff.1 ho).1
    have : b = w.heap.size := by simp at hl; omega
    rw [this, World.alloc_heap_new] at ho
    cases ho
    rfl
theorem CellsOn.drew {lo : Nat} {w : World} (h : CellsOn lo w) : CellsOn lo w.drew := h
theorem CellsOn.setCell {lo : Nat} {w : World} (h : CellsOn lo w) (p : Addr) (u : Value) : CellsOn lo (w.setCell p u) := fun b o hb ho => by
  by_cases hp : b = p.block
  · subst hp
    have hl : p.block < w.heap.size := by have := (Array.getElem?_eq_some_iff.1 ho).1; simpa [World.setCell] using this
    have h0 := h p.block w.heap[p.block] hb (Array.getElem?_eq_getElem hl)
    have he : (w.heap.modify p.block _)[p.block]? = some o := ho
    rw [Array.getElem?_eq_getElem (by rw [Array.size_modify]; exact hl), Array.getElem_modify_self] at he
    generalize w.heap[p.block] = x at *
    cases x <;> first | (simp [Obj.isCells] at h0; done) | (simp at he; subst he; rfl)
  · rw [Below.heap_setCell _ _ _ _ hp] at ho
    exact h b o hb ho
theorem CellsOn.below {lo : Nat} {w w' : World} (h : CellsOn lo w) (hb : Below w.heap.size w w') (h' : CellsOn w.heap.size w') : CellsOn lo w' := fun b o hlo ho => by
  by_cases hlt : b < w.heap.size
  · rw [hb.block b hlt] at ho
    exact h b o hlo ho
  · exact h' b o (by omega) ho
theorem CellsOn.set4 {lo : Nat} {w : World} (h : CellsOn lo w) {p q r t : Addr} (a b c d : Value) : CellsOn lo ((((w.setCell p a).setCell q b).setCell r c).setCell t d) := (((h.setCell _ _).setCell _ _).setCell _ _).setCell _ _

theorem sl_us {α : Type} {c : Cod α} {F : Nat → Prop} {w : World} {b off cap : Nat} {xs : List α} (h : c.Sl F w (.slice (some ⟨b, off, none⟩) xs.length cap) xs) : ∀ k, k ≤ xs.length →
    ∃ us : List Value, us.length = k * c.size ∧ (∀ j u, us[j]? = some u → w.cell? ⟨b, off + j, none⟩ = some u) ∧ ∀ i x, i < k → xs[i]? = some x → ∃ cs : List Value, (∀ j u, cs[j]? = some u → us[i * c.size + j]? = some u) ∧ c.rd F w cs x
  | 0, _ => ⟨[], by simp, fun j u h => by simp at h, fun i x h => absurd h (by omega)⟩
  | k + 1, hk => by
    obtain ⟨us, h1, h2, h3⟩ := sl_us h k (by omega)
    obtain ⟨A, cap', hv, _, _, hx⟩ := h
    simp only [Value.slice.injEq] at hv
    obtain ⟨rfl, -, rfl⟩ := hv
    obtain ⟨b', off', hA, _, hcell⟩ := hx (by omega)
    simp only [Option.some.injEq, Addr.mk.injEq] at hA
    obtain ⟨rfl, rfl, -⟩ := hA
    obtain ⟨ds, hd1, hd2⟩ := hcell k xs[k] (List.getElem?_eq_getElem (by omega))
    have hl := c.len hd2
    refine ⟨us ++ ds, by rw [List.length_append, h1, hl, Nat.add_mul]; omega, fun j u hu => ?_, fun i x hi hxi => ?_⟩
    · rw [List.getElem?_append] at hu
      split at hu
      · exact h2 j u hu
      · rename_i hj
        have := hd1 _ u hu
        rw [h1] at hj this
        rw [show off + k * c.size + (j - k * c.size) = off + j by omega] at this
        exact this
    · by_cases he : i = k
      · subst he
        rw [List.getElem?_eq_getElem (by omega)] at hxi
        cases hxi
        exact ⟨ds, fun j u hu => by rw [List.getElem?_append_right (by omega), h1, Nat.add_sub_cancel_left]; exact hu, hd2⟩
      · obtain ⟨cs, g1, g2⟩ := h3 i x (by omega) hxi
        exact ⟨cs, fun j u hu => by have := g1 j u hu; rw [List.getElem?_append_left (List.getElem?_eq_some_iff.1 this).1]; exact this, g2⟩

/-- The elements from k on of a row in block b are as they were. -/
def RestV (c : Cod Val) (F : Nat → Prop) (w : World) (cs : Array Value) (k : Nat) (xs : List Val) : Prop :=
  ∀ i x, k ≤ i → xs[i]? = some x → ∃ ds : List Value, (∀ j u, ds[j]? = some u → cs[i * 4 + j]? = some u) ∧ c.rd F w ds x
theorem RestV.keep {c : Cod Val} {F : Nat → Prop} {w w' : World} {cs : Array Value} {k : Nat} {xs : List Val} (hk : ∀ b, F b → w'.heap[b]? = w.heap[b]?) (h : RestV c F w cs k xs) : RestV c F w' cs k xs := fun i x hi hx => by
  obtain ⟨ds, h1, h2⟩ := h i x hi hx
  exact ⟨ds, h1, c.keep hk h2⟩
/-- A row of values, its cells copied. -/
def CloneAt (c : Cod Val) (F : Nat → Prop) (w w' : World) (A : Option Addr) (xs : List Val) : Prop :=
  0 < xs.length → ∃ (b : Nat) (cs : Array Value), A = some ⟨b, 0, none⟩ ∧ w.heap.size ≤ b ∧ Blk w' b 57 cs ∧ xs.length * 4 ≤ cs.size ∧ RestV c F w' cs 0 xs
def CloneD (c : Cod Val) (F : Nat → Prop) (xs : List Val) (w : World) (e : Ending) (w' : World) : Prop :=
  ∃ A' c', e = .returned (.slice A' xs.length c') ∧ xs.length ≤ c' ∧ c' ≤ maxLen ∧ Below w.heap.size w w' ∧ CloneAt c F w w' A' xs ∧ CellsOn w.heap.size w'

theorem append_vals {P : Program} {c : Cod Val} (hcs : c.size = 4) (t ty : TypeId) (z : Value) (ht : P.underlying t = some (.slice 57)) (hi : (P.info? 57).map (fun i => (i.zero, i.size, i.bytes)) = some (some z, 4, 72))
    (F : Nat → Prop) (v : Value) (xs : List Val) (w : World) (h : c.Sl F w v xs) (hF : ∀ b, F b → b < w.heap.size) (hn : xs.length ≤ 2000000) (g : Nat) :
    ∃ A' c' w', (Builtin.append_ #[t, t] ty #[.slice (some ⟨g, 0, none⟩) 0 0, v]).run P w = .ok (.slice A' xs.length c') w' ∧ xs.length ≤ c' ∧ c' ≤ maxLen ∧ Below w.heap.size w w' ∧ CloneAt c F w w' A' xs ∧ CellsOn w.heap.size w' := by
  obtain ⟨i, hi0, hz0, hz1, hz2⟩ := info_parts hi
  obtain ⟨A, cap, rfl, hlc, hcm, hx⟩ := id h
  by_cases hp : 0 < xs.length
  · obtain ⟨b, off, rfl, hFb, hcell⟩ := hx hp
    obtain ⟨us, hl, hus, hrest⟩ := sl_us h xs.length (Nat.le_refl _)
    have hb1 : xs.length * 72 ≤ 2000000 * 72 := Nat.mul_le_mul hn (Nat.le_refl _)
    have hr := run_append_grow (P := P) w t ty _ i z ht hi0 hz0 ⟨g, 0, none⟩ 0 0 [] (by simp) (fun j u hu => by simp at hu) ⟨b, off, none⟩ xs.length cap us (by rw [hl, hz1, hcs]) (fun j u hu => by
      rw [Go.WideShapes.add_plain]
      exact hus j u hu) (by omega) (by omega) (growslice_fits (by omega) (by rw [hz2, Nat.zero_add]; omega))
    simp only [Nat.zero_add] at hr
    refine ⟨_, _, _, hr, grownCap_ge w xs.length 0 _, grownCap_le_maxLen w xs.length 0 _ (by unfold maxLen; omega), ((Below.refl _ _).drew).alloc (Nat.le_refl _) _, fun _ => ⟨w.heap.size, _, rfl, Nat.le_refl _, Blk.new w.drew _ _, ?_, fun k x _ hk => ?_⟩, (CellsOn.refl w).drew.alloc _ _⟩
    · have hz : us.length ≤ (([] : List Value).toArray ++ us.toArray ++ Builtin.zeroCells z.cells (grownCap w xs.length 0 57 - xs.length)).size := by simp
      rw [hl, hcs] at hz
      exact hz
    · obtain ⟨cs, hc1, hc2⟩ := hrest k x (List.getElem?_eq_some_iff.1 hk).1 hk
      refine ⟨cs, fun j u hu => ?_, c.keep (w := w) (fun b' hb' => Below.heap_alloc w.drew _ b' (hF b' hb')) hc2⟩
      have hput := hc1 j u hu
      rw [hcs] at hput
      have hj : k * 4 + j < us.length := (List.getElem?_eq_some_iff.1 hput).1
      simp only [List.nil_append, List.append_toArray, ← Array.getElem?_toList]
      simp only [Array.toList_append, List.nil_append]
      rw [List.getElem?_append_left (by simpa using hj)]
      simpa using hput
  · obtain rfl : xs = [] := List.eq_nil_of_length_eq_zero (by omega)
    have hr := run_append_nothing (P := P) w t t ty _ i ht hi0 (some ⟨g, 0, none⟩) 0 0 (Nat.le_refl _) (.slice A 0 cap) (by cases A with | none => exact Src.ofNil w ht cap | some a => exact Src.ofSlice w ht a 0 cap [] (by simp) (fun j u hu => by simp at hu) (fun u hu => by simp at hu))
    exact ⟨_, _, _, hr, Nat.le_refl _, by unfold maxLen; omega, Below.refl _ _, (fun h0 => by simp at h0), CellsOn.refl w⟩

set_option maxRecDepth 100000 in
set_option maxHeartbeats 1000000 in
theorem clone_vals {c : Cod Val} (hcs : c.size = 4) (F : Nat → Prop) (v : Value) (xs : List Val) (w : World) (h : c.Sl F w v xs) (hF : ∀ b, F b → b < w.heap.size) (hn : xs.length ≤ 2000000) :
    Calls Try.prog 72 #[v] w (CloneD c F xs w) := by
  have HS := Lib.hid h
  obtain ⟨A, cap, rfl, hlc, hcm, hx⟩ := h
  unfold maxLen at hcm
  cases A with
  | none =>
    obtain rfl : xs = [] := List.eq_nil_of_length_eq_zero (by
      rcases Nat.eq_zero_or_pos xs.length with h0 | h0
      · exact h0
      · obtain ⟨_, _, h1, _⟩ := hx h0; cases h1)
    have heq := run_eql_slice_nil (P := Try.prog) w 55 57 none 0 cap Try.underlying55
    rw [Option.isNone_none] at heq
    have HQ := Lib.hid (show CloneD c F [] w (.returned (.slice none 0 0)) w from ⟨none, 0, rfl, Nat.le_refl _, by unfold maxLen; omega, Below.refl _ _, (fun h0 => by simp at h0), CellsOn.refl w⟩)
    clear hx HS
    go_enter Try.func72, Try.ntmps72
    go_wp2
    go_ret
    exact HQ.out
  | some a =>
    obtain ⟨w1, hw1⟩ : ∃ w1, w1 = w.alloc (.cells #[] 57) := ⟨_, rfl⟩
    have hb1 : Below w.heap.size w w1 := by rw [hw1]; exact (Below.refl _ _).alloc (Nat.le_refl _) _
    obtain ⟨A', c', w2, happ, h1, h2, h3, h4, h5⟩ := append_vals (P := Try.prog) hcs 55 55 _ Try.underlying55 info_val F _ xs w1 (HS.out.keep (below_keeps hb1 hF)) (fun b hb => Nat.lt_of_lt_of_le (hF b hb) hb1.size) hn w.heap.size
    have HQ := Lib.hid (show CloneD c F xs w (.returned (.slice A' xs.length c')) w2 from ⟨A', c', rfl, h1, h2, hb1.trans (h3.mono hb1.size), (fun h0 => by
      obtain ⟨b, cs, g1, g2, g3⟩ := h4 h0
      exact ⟨b, cs, g1, Nat.le_trans hb1.size g2, g3⟩), (show CellsOn w.heap.size w1 by rw [hw1]; exact (CellsOn.refl w).alloc _ _).below h3 h5⟩)
    rw [hw1] at happ
    have heq := run_eql_slice_nil (P := Try.prog) w 55 57 (some a) xs.length cap Try.underlying55
    rw [Option.isNone_some] at heq
    clear hx HS hb1 hw1 h1 h2 h3 h4 h5
    go_enter Try.func72, Try.ntmps72
    go_wp2_with (at_builtin; refine wpList_append_run rfl _ _ _ rfl rfl rfl happ ?_)
    go_ret
    exact HQ.out

/-- The same, the row ahead of block q. -/
def CloneQ (c : Cod Val) (F : Nat → Prop) (w w' : World) (A : Option Addr) (q : Nat) (xs : List Val) : Prop :=
  0 < xs.length → ∃ (b : Nat) (cs : Array Value), A = some ⟨b, 0, none⟩ ∧ w.heap.size ≤ b ∧ b ≠ q ∧ Hid (Blk w' b 57 cs) ∧ xs.length * 4 ≤ cs.size ∧ Hid (RestV c F w' cs 0 xs)
theorem clone_at {c : Cod Val} {F : Nat → Prop} {w w1 : World} {A : Option Addr} {xs : List Val} (h : CloneAt c F w.drew w1 A xs) (hb : Below w.heap.size w w1) (hF : ∀ b, F b → b < w.heap.size) (o : Obj) : CloneQ c F w (w1.alloc o) A w1.heap.size xs := fun hp => by
  obtain ⟨b, cs, h1, h2, h3, h4, h5⟩ := h hp
  exact ⟨b, cs, h1, h2, Nat.ne_of_lt h3.lt, h3.alloc _, h4, h5.keep fun b' hb' => Below.heap_alloc _ _ _ (Nat.lt_of_lt_of_le (hF b' hb') hb.size)⟩

theorem clone_at2 {c : Cod Val} {F : Nat → Prop} {w w1 : World} {A : Option Addr} {xs : List Val} {o : Obj} (h : CloneAt c F (w.alloc o).drew w1 A xs) (hF : ∀ b, F b → b < w.heap.size) (x0 x1 x2 x3 : Value) :
    CloneQ c F w ((((w1.setCell ⟨w.heap.size, 0, none⟩ x0).setCell ⟨w.heap.size, 1, none⟩ x1).setCell ⟨w.heap.size, 2, none⟩ x2).setCell ⟨w.heap.size, 3, none⟩ x3) A w.heap.size xs := fun hp => by
  obtain ⟨b, cs, h1, h2, h3, h4, h5⟩ := h hp
  have h2' : w.heap.size + 1 ≤ b := by simpa using h2
  exact ⟨b, cs, h1, by omega, by omega, (set4_heap _ _ _ _ (by omega)).trans h3, h4, h5.keep fun b' hb' => set4_heap _ _ _ _ (by have := hF b' hb'; omega)⟩

theorem own_nil5 {α : Type} {c : OCod α} {t : TypeId} {lo hi : Nat} {w : World} : Own c t lo hi w (.slice none 0 0) [] := ⟨_, _, rfl, Nat.le_refl _, by unfold maxLen; omega, fun h => by simp at h⟩
/-- What a copy of a value is: its parts in blocks of its own, and no path. -/
def CopyD (c : OCod Val) (v : Val) (w : World) (e : Ending) (w' : World) : Prop :=
  ∃ A' cA', e = .returned (.agg #[.string v.ty, .int .i64 v.n, .slice A' v.parts.length cA', .slice none 0 0]) ∧ Own c 57 w.heap.size w'.heap.size w' (.slice A' v.parts.length cA') v.parts ∧ Below w.heap.size w w' ∧ CellsOn w.heap.size w'
def CopyC (ks : Ks) (c : OCod Val) (f : Val → Bool) (P : Val → Prop) : Prop := ∀ (F : Nat → Prop) (A B : Option Addr) (n m cA cB : Nat) (v : Val) (w : World), VRd c.cod F w (.slice A n cA) (.slice B m cB) v → (∀ b, F b → b < w.heap.size) → okOf ks f v = true → Smol P v →
    Calls Try.prog 51 #[.agg #[.string v.ty, .int .i64 v.n, .slice A n cA, .slice B m cB]] w (CopyD c v w)

theorem all_zip {f : Val → Bool} {p : Val × ByteArray → Bool} (hp : ∀ x, p x = true → f x.1 = true) : ∀ (xs : List Val) (ys : List ByteArray), xs.length = ys.length → (xs.zip ys).all p = true → ∀ x ∈ xs, f x = true
  | [], _, _, _, x, hx => by simp at hx
  | a :: xs, [], h, _, _, _ => by simp at h
  | a :: xs, b :: ys, h, ha, x, hx => by
    simp only [List.zip_cons_cons, List.all_cons, Bool.and_eq_true] at ha
    rcases List.mem_cons.1 hx with rfl | hx
    · exact hp _ ha.1
    · exact all_zip hp xs ys (by simpa using h) ha.2 x hx
theorem ok_bare {ks : Ks} {f : Val → Bool} {v : Val} (h : okOf ks f v = true) : v.path = [] ∧ ∀ x ∈ v.parts, f x = true := by
  have hpl : plainV v = true → v.path = [] ∧ ∀ x ∈ v.parts, f x = true := fun hp => by
    unfold plainV at hp
    simp only [Bool.and_eq_true, decide_eq_true_eq] at hp
    refine ⟨List.eq_nil_of_length_eq_zero hp.2, fun x hx => ?_⟩
    rw [List.eq_nil_of_length_eq_zero hp.1] at hx
    simp at hx
  unfold okOf at h
  split at h
  · simp only [Bool.and_eq_true] at h; exact hpl h.1
  · split at h
    · simp only [Bool.and_eq_true] at h; exact hpl h.1
    · split at h
      · simp only [Bool.and_eq_true] at h; exact hpl h.1
      · split at h
        · cases h
        · simp only [Bool.and_eq_true, decide_eq_true_eq] at h
          exact ⟨List.eq_nil_of_length_eq_zero h.1.1.2, all_zip (fun x hx => by simp only [Bool.and_eq_true] at hx; exact hx.2) _ _ h.1.2 h.2⟩

set_option maxRecDepth 100000 in
set_option maxHeartbeats 4000000 in
theorem copyValue_of {ks : Ks} {c e : OCod Val} {f g : Val → Bool} {P Q : Val → Prop} (hc : IsVal c.cod e.cod) (hlay : HasEl c.cod → ∀ (lo hi : Nat) (w : World) (a p : Value) (x : Val), OV e 57 3 lo hi w a p x → c.rd lo hi w [.string x.ty, .int .i64 x.n, a, p] x)
    (IH : HasEl c.cod → CopyC ks e g Q ∧ f = okOf ks g ∧ ∀ x, P x → Smol Q x) : CopyC ks c f P := by
  intro F A B n m cA cB v w h hF hok hsm
  obtain ⟨hn1, -, hn3⟩ := hsm
  obtain ⟨hpath, hparts⟩ := ok_bare hok
  obtain ⟨w0, hw0⟩ : ∃ w0, w0 = (w.alloc (.cells #[.string v.ty, .int .i64 v.n, .slice A n cA, .slice B m cB] 57)).alloc (.cells #[.string ⟨#[]⟩, .int .i64 0, .slice none 0 0, .slice none 0 0] 57) := ⟨_, rfl⟩
  have hs0 : w0.heap.size = w.heap.size + 2 := by rw [hw0]; simp
  have hb0 : Below w.heap.size w w0 := by rw [hw0]; exact ((Below.refl _ _).alloc (Nat.le_refl _) _).alloc (by simp) _
  have hBB := Blk.of2 w 57 57 #[.string v.ty, .int .i64 v.n, .slice A n cA, .slice B m cB] #[.string ⟨#[]⟩, .int .i64 0, .slice none 0 0, .slice none 0 0]
  rw [← hw0] at hBB
  have HX0 := Lib.hid hBB.1
  have HR0 := Lib.hid hBB.2
  have HV := Lib.hid (h.keep (w' := w0) fun b hb => hb0.block b (hF b hb))
  have HF0 := Lib.hid (show ∀ b, F b → b < w0.heap.size from fun b hb => by have := hF b hb; omega)
  have HFo := Lib.hid hF
  have HE := Lib.hid hb0
  have Hc0 := Lib.hid (show CellsOn w.heap.size w0 by rw [hw0]; exact ((CellsOn.refl w).alloc _ _).alloc _ _)
  have Hw0 := Lib.hid hw0
  have HTy := Lib.hid h.ty
  have HNn := Lib.hid h.n
  obtain ⟨A', cA', hA, hA1, hA2, _⟩ := h.parts
  simp only [Value.slice.injEq] at hA
  obtain ⟨rfl, rfl, rfl⟩ := hA
  have HCl := Lib.hid (clone_vals hc.size F _ v.parts w0.drew HV.out.parts.drew HF0.out hn1)
  have hz0 : Below w0.heap.size w0 (w0.alloc (.cells #[.string ⟨#[]⟩, .int .i64 0, .slice none 0 0, .slice none 0 0] 57)).drew := ((Below.refl _ _).alloc (Nat.le_refl _) _).drew
  have HCz := Lib.hid (clone_vals hc.size F _ v.parts (w0.alloc (.cells #[.string ⟨#[]⟩, .int .i64 0, .slice none 0 0, .slice none 0 0] 57)).drew (HV.out.parts.keep (below_keeps hz0 HF0.out)) (fun b hb => Nat.lt_of_lt_of_le (HF0.out b hb) hz0.size) hn1)
  have HZ0 := Lib.hid hz0
  have HCz0 := Lib.hid (show CellsOn w0.heap.size (w0.alloc (.cells #[.string ⟨#[]⟩, .int .i64 0, .slice none 0 0, .slice none 0 0] 57)).drew from ((CellsOn.refl w0).alloc _ _).drew)
  have HN0 := Lib.hid (show Blk (w0.alloc (.cells #[.string ⟨#[]⟩, .int .i64 0, .slice none 0 0, .slice none 0 0] 57)).drew w0.heap.size 57 #[.string ⟨#[]⟩, .int .i64 0, .slice none 0 0, .slice none 0 0] from Blk.new w0 _ _)
  clear hz0
  have HIH := Lib.hid (fun hp : 0 < v.parts.length => IH ⟨F, w, _, v.parts, h.parts, hp⟩)
  have HLy := Lib.hid (fun hp : 0 < v.parts.length => hlay ⟨F, w, _, v.parts, h.parts, hp⟩)
  have HP := Lib.hid hparts
  have HQ := Lib.hid hn3
  obtain ⟨x0, x1, x2, x3⟩ := hBB.1.c2
  have hsz0 : w.heap.size < w0.heap.size := by omega
  have Hs0 := Lib.hid hs0
  clear h hF hw0 hb0 hBB hs0 IH hlay hok hpath hparts hn3
  go_enter Try.func51, Try.ntmps51
  go_upto_region 1 with fail
  rw [← Hw0.out]
  go_cut [3] (fun s3 wx => ∃ (q : Nat) (A' : Option Addr) (c' : Nat), s3 = .pointer (some ⟨q, 0, none⟩) ∧ v.parts.length ≤ c' ∧ c' ≤ maxLen ∧ w0.heap.size ≤ q ∧ Hid (Blk wx q 57 #[.string v.ty, .int .i64 v.n, .slice A' v.parts.length c', .slice none 0 0]) ∧ Hid (CloneQ c.cod F w0 wx A' q v.parts) ∧ Hid (Below w0.heap.size w0 wx) ∧ Hid (CellsOn w0.heap.size wx))
  case first =>
    have HSc := Lib.hid (fun (W : World) (hb : Below w0.heap.size w0 W) => show W.cell? ⟨w.heap.size, 0, none⟩ = some (.string v.ty) ∧ W.cell? ⟨w.heap.size, 1, none⟩ = some (.int .i64 v.n) ∧ W.cell? ⟨w.heap.size, 2, none⟩ = some (.slice A v.parts.length cA) from by
      obtain ⟨g0, g1, g2, _⟩ := (HX0.out.below hb hsz0).c2
      exact ⟨g0, g1, g2⟩)
    have hn0 : w.heap.size ≠ w0.heap.size := by omega
    go_region_held3 (fun w' => w'.cell? ⟨w.heap.size, 0, none⟩ = some (.string v.ty) ∧ w'.cell? ⟨w.heap.size, 1, none⟩ = some (.int .i64 v.n) ∧ w'.cell? ⟨w.heap.size, 2, none⟩ = some (.slice A v.parts.length cA)) (first
      | (with_reducible exact HSc.out _ ((Below.refl _ _).drew))
      | (with_reducible exact HSc.out _ (((Below.refl _ _).alloc (Nat.le_refl _) _).drew))
      | (with_reducible exact HSc.out _ (Below.refl _ _))
      | (with_reducible exact HSc.out _ ((Below.refl _ _).alloc (Nat.le_refl _) _))
      | (with_reducible exact HSc.out _ HB1.out)
      | (with_reducible exact HSc.out _ (HB1.out.alloc HB1.out.size _))
      | (with_reducible exact HSc.out _ (set4_below HB1.out (Nat.le_refl _) _ _ _ _))) (first
      | (go_at_call 72; (with_reducible refine HCl.out.mono ?_); rintro e w1 ⟨A1, c1, rfl, hq1, hq2, hq3, hq4, hq6⟩; go_must (have hq5 : Below w0.heap.size w0 w1 := (below_draw w0).trans hq3; have HCo := Lib.hid (show CellsOn w0.heap.size w1 from hq6); have HB1 := Lib.hid hq5; have HA1 := Lib.hid hq4; have HX1 := Lib.hid (HX0.out.below hq5 hsz0); have hlc := hq1; have hcm := hq2; clear hq1 hq2 hq3 hq4 hq5 hq6; obtain ⟨z0, z1, z2, z3⟩ := HX1.out.c2))
      | (go_at_call 72; (with_reducible refine HCz.out.mono ?_); rintro e w1 ⟨A1, c1, rfl, hq1, hq2, hq3, hq4, hq6⟩; go_must (have hq5 : Below w0.heap.size w0 w1 := HZ0.out.trans (hq3.mono HZ0.out.size); have HCo := Lib.hid (show CellsOn w0.heap.size w1 from HCz0.out.below hq3 hq6); have HB1 := Lib.hid hq5; have HA1 := Lib.hid hq4; have HX1 := Lib.hid (HX0.out.below hq5 hsz0); have HN1 := Lib.hid (HN0.out.below hq3 HN0.out.lt); have hlc := hq1; have hcm := hq2; clear hq1 hq2 hq3 hq4 hq5 hq6; obtain ⟨z0, z1, z2, z3⟩ := HX1.out.c2; obtain ⟨n0, n1, n2, n3⟩ := HN1.out.c2; obtain ⟨m0, m1, m2, m3⟩ := HN1.out.f4)))
    all_goals
      go_wp2
      go_meet
      first
        | exact ⟨_, A1, c1, rfl, hlc, hcm, HB1.out.size, Blk.new _ _ _, clone_at HA1.out HB1.out HF0.out _, HB1.out.alloc HB1.out.size _, HCo.out.alloc _ _⟩
        | exact ⟨_, A1, c1, rfl, hlc, hcm, Nat.le_refl _, set4_blk HN1.out _ _ _ _, clone_at2 HA1.out HF0.out _ _ _ _, set4_below HB1.out (Nat.le_refl _) _ _ _ _, HCo.out.set4 _ _ _ _⟩
  case rest =>
    obtain ⟨q, A1, c1, rfl, hlc, hcm, hq, HBq, HCq, HB, HCo⟩ := hcut
    obtain ⟨w1, hw1⟩ : ∃ u, u = wc := ⟨_, rfl⟩
    subst hw1
    unfold maxLen at hcm
    clear x0 x1 x2 x3 HCl
    have hsz1 := HB.out.size
    have HR1 := Lib.hid (HR0.out.below HB.out (by have := Hs0.out; omega))
    have HW1 := Lib.hid (HE.out.trans (HB.out.mono HE.out.size))
    have HCw := Lib.hid (Hc0.out.below HB.out HCo.out)
    have hs0 := Hs0.out
    have hqw : q < w1.heap.size := HBq.out.lt
    obtain ⟨y0, y1, y2, y3⟩ := HBq.out.c2
    by_cases hp : 0 < v.parts.length
    · obtain ⟨b, cs, rfl, hb1, hb2, HBr, hcs, HRe⟩ := HCq.out hp
      have HO1 := Lib.hid (OPart.zero (c := c) (cs := cs) (xs := v.parts) HBr.out.lt)
      obtain ⟨cK, fK, hIHp⟩ := HIH.out hp
      have HCc := Lib.hid cK
      have HSm := Lib.hid (fun (k : Nat) (hk : k < v.parts.length) => hIHp _ (HQ.out v.parts[k] (List.getElem_mem hk)))
      have HGo := Lib.hid (fun (k : Nat) (hk : k < v.parts.length) => show okOf ks g v.parts[k] = true by rw [← fK]; exact HP.out v.parts[k] (List.getElem_mem hk))
      clear cK fK hIHp
      go_wp2
      go_loopw [17] (fun si wr => ∃ (k : Nat) (cr : Array Value), k ≤ v.parts.length ∧ si = .int .i64 k ∧ v.parts.length * 4 ≤ cr.size ∧ Hid (Blk wr b 57 cr) ∧ Hid (Blk wr q 57 #[.string v.ty, .int .i64 v.n, .slice (some ⟨b, 0, none⟩) v.parts.length c1, .slice none 0 0]) ∧ Hid (OPart c b wr cr k v.parts) ∧ Hid (RestV c.cod F wr cr k v.parts) ∧ Hid (Blk wr (w.heap.size + 1) 57 #[.string ⟨#[]⟩, .int .i64 0, .slice none 0 0, .slice none 0 0]) ∧ Hid (Below w.heap.size w wr) ∧ w1.heap.size ≤ wr.heap.size ∧ Hid (CellsOn w.heap.size wr)) (fun si _ => v.parts.length - (intOf si).toNat)
      case atStart => exact ⟨0, cs, Nat.zero_le _, rfl, hcs, HBr, HBq, HO1, HRe, HR1, HW1, Nat.le_refl _, HCw⟩
      case round =>
        obtain ⟨k, cr, hk, rfl, hcr, HBk, HBqk, HOk, HRk, HRes, HWk, hsk, HCk⟩ := hrel
        by_cases hlt : k < v.parts.length
        · obtain ⟨ds, hd1, hd2⟩ := HRk.out k v.parts[k] (Nat.le_refl _) (List.getElem?_eq_getElem hlt)
          obtain ⟨a, p, rfl, hV⟩ := hc.rd hd2
          obtain ⟨A2, cA2, rfl, _⟩ := id hV.parts
          obtain ⟨B2, cB2, rfl, _⟩ := id hV.path
          have e0 : wr.cell? ⟨b, k * 4, none⟩ = some (.string v.parts[k].ty) := by rw [HBk.out.cell]; simpa using hd1 0 _ rfl
          have e1 : wr.cell? ⟨b, k * 4 + 1, none⟩ = some (.int .i64 v.parts[k].n) := by rw [HBk.out.cell]; exact hd1 1 _ rfl
          have e2 : wr.cell? ⟨b, k * 4 + 2, none⟩ = some (.slice A2 v.parts[k].parts.length cA2) := by rw [HBk.out.cell]; exact hd1 2 _ rfl
          have e3 : wr.cell? ⟨b, k * 4 + 3, none⟩ = some (.slice B2 v.parts[k].path.length cB2) := by rw [HBk.out.cell]; exact hd1 3 _ rfl
          obtain ⟨y0, y1, y2, y3⟩ := HBqk.out.c2
          obtain ⟨w5, hw5⟩ : ∃ u, u = wr.alloc (.cells #[.string v.parts[k].ty, .int .i64 v.parts[k].n, .slice A2 v.parts[k].parts.length cA2, .slice B2 v.parts[k].path.length cB2] 57) := ⟨_, rfl⟩
          have hb5 : Below wr.heap.size wr w5 := by rw [hw5]; exact (Below.refl _ _).alloc (Nat.le_refl _) _
          have hFr : ∀ b, F b → b < wr.heap.size := fun b hb => by have := HF0.out b hb; omega
          have HC := Lib.hid (HCc.out F A2 B2 _ _ cA2 cB2 v.parts[k] w5.drew (hV.keep (w' := w5.drew) (below_keeps hb5 hFr)) (fun b hb => Nat.lt_of_lt_of_le (hFr b hb) hb5.size) (HGo.out k hlt) (HSm.out k hlt))
          have HX5 := Lib.hid (show Blk w5 wr.heap.size 57 #[.string v.parts[k].ty, .int .i64 v.parts[k].n, .slice A2 v.parts[k].parts.length cA2, .slice B2 v.parts[k].path.length cB2] by rw [hw5]; exact Blk.new _ _ _)
          have hblt : b < wr.heap.size := HBk.out.lt
          have hqlt : q < wr.heap.size := HBqk.out.lt
          have HB5 := Lib.hid (HBk.out.below hb5 hblt)
          have HBq5 := Lib.hid (HBqk.out.below hb5 hqlt)
          have hs5 : w5.heap.size = wr.heap.size + 1 := by rw [hw5]; simp
          have HC5 := Lib.hid (show CellsOn w.heap.size w5 by rw [hw5]; exact HCk.out.alloc _ _)
          have Hb5 := Lib.hid hb5
          have Hw5 := Lib.hid hw5
          have i0 : (0 : Int) ≤ k := by omega
          have i1 : (k : Int) < v.parts.length := by omega
          have HLk := Lib.hid (fun lo hi W a p => HLy.out hp lo hi W a p v.parts[k])
          have HXf := Lib.hid (show v.parts[k].ty.size ≤ maxLen ∧ I64 v.parts[k].n ∧ v.parts[k].path = [] from ⟨hV.ty, hV.n, (ok_bare (HGo.out k hlt)).1⟩)
          have Hcs := Lib.hid hc.size
          have Hlt := Lib.hid hlt
          have HNx := Lib.hid (fun (w' : World) (cs' : Array Value) (news : List Value) => HOk.out.next (w' := w') (cs' := cs') (news := news) hlt)
          clear hd1 hd2 hV hb5 hw5
          generalize v.parts[k] = x at *
          go_upto_region 5 with fail
          rw [← Hw5.out]
          clear e0 e1 e2 e3 y0 y1 y2 y3
          obtain ⟨x0, x1, x2, x3⟩ := HX5.out.c2
          obtain ⟨y0, y1, y2, y3⟩ := HBq5.out.c2
          go_region_with ((go_at_call 51; (with_reducible refine HC.out.mono ?_); rintro e w6 ⟨A6, c6, rfl, hO6, hb6, hc6⟩; go_must (have HC6 := Lib.hid (HC5.out.drew.below hb6 hc6); clear hc6; have hb56 : Below w5.heap.size w5 w6 := (below_draw w5).trans hb6; have HB6 := Lib.hid (HB5.out.below hb56 (by omega)); have HBq6 := Lib.hid (HBq5.out.below hb56 (by omega)); have HO6 := Lib.hid hO6; have Hb6 := Lib.hid hb56; clear hO6 hb6 hb56; obtain ⟨u0, u1, u2, u3⟩ := HBq6.out.c2; obtain ⟨d0, hd0⟩ := HB6.out.holds rfl (i := k * 4) (by omega); obtain ⟨d1, hd1⟩ := HB6.out.holds rfl (i := k * 4 + 1) (by omega); obtain ⟨d2, hd2⟩ := HB6.out.holds rfl (i := k * 4 + 2) (by omega); obtain ⟨d3, hd3⟩ := HB6.out.holds rfl (i := k * 4 + 3) (by omega); have f0 := HB6.out.frozen (k * 4); have f1 := HB6.out.frozen (k * 4 + 1); have f2 := HB6.out.frozen (k * 4 + 2); have f3 := HB6.out.frozen (k * 4 + 3))))
          all_goals
            go_wp2
            go_roundw
            case rel =>
              obtain ⟨wE, hwE⟩ : ∃ wE, wE = (((w6.setCell ⟨b, k * 4, none⟩ (.string x.ty)).setCell ⟨b, k * 4 + 1, none⟩ (.int .i64 x.n)).setCell ⟨b, k * 4 + 2, none⟩ (.slice A6 x.parts.length c6)).setCell ⟨b, k * 4 + 3, none⟩ (.slice none 0 0) := ⟨_, rfl⟩
              rw [← hwE]
              have hk1 : ∀ i, i ≠ b → wE.heap[i]? = w6.heap[i]? := fun i hi => by
                rw [hwE, Below.heap_setCell _ _ _ _ hi, Below.heap_setCell _ _ _ _ hi, Below.heap_setCell _ _ _ _ hi, Below.heap_setCell _ _ _ _ hi]
              have hse : wE.heap.size = w6.heap.size := by rw [hwE]; simp [World.setCell]
              have hs6 := Hb6.out.size
              have hb0k : ∀ i, i < wr.heap.size → w6.heap[i]? = wr.heap[i]? := fun i hi => (Hb6.out.block i (by omega)).trans (Hb5.out.block i hi)
              have hWE : Below w.heap.size w wE := by
                rw [hwE]
                exact (((((HWk.out.trans (Hb5.out.mono HWk.out.size)).trans (Hb6.out.mono (Nat.le_trans HWk.out.size Hb5.out.size))).setCell (by simp; omega) _).setCell (by simp; omega) _).setCell (by simp; omega) _).setCell (by simp; omega) _
              refine ⟨k + 1, (((cr.setIfInBounds (k * 4) (.string x.ty)).setIfInBounds (k * 4 + 1) (.int .i64 x.n)).setIfInBounds (k * 4 + 2) (.slice A6 x.parts.length c6)).setIfInBounds (k * 4 + 3) (.slice none 0 0), by omega, by go_num, by simp only [Array.size_setIfInBounds]; exact hcr, ?_, ?_, ?_, ?_, ?_, hWE, by omega, by rw [hwE]; exact HC6.out.set4 _ _ _ _⟩
              · have := (((HB6.out.set_ (k * 4) (.string x.ty)).set_ (k * 4 + 1) (.int .i64 x.n)).set_ (k * 4 + 2) (.slice A6 x.parts.length c6)).set_ (k * 4 + 3) (.slice none 0 0)
                rw [← hwE] at this
                exact this
              · exact (hk1 q (Ne.symm hb2)).trans HBq6.out
              · refine HNx.out wE _ [.string x.ty, .int .i64 x.n, .slice A6 x.parts.length c6, .slice none 0 0] (fun i h1 h2 => (hk1 i (by omega)).trans (hb0k i h2)) (by omega) (fun i hi => ?_) (fun j u hu => ?_) ?_
                · rw [Hcs.out] at hi
                  simp only [Array.getElem?_setIfInBounds]
                  rw [if_neg (by omega), if_neg (by omega), if_neg (by omega), if_neg (by omega)]
                · rw [Hcs.out]
                  match j, hu with
                  | 0, hu => simp at hu; subst hu; simp [Array.getElem?_setIfInBounds]; omega
                  | 1, hu => simp at hu; subst hu; simp [Array.getElem?_setIfInBounds]; omega
                  | 2, hu => simp at hu; subst hu; simp [Array.getElem?_setIfInBounds]; omega
                  | 3, hu => simp at hu; subst hu; simp [Array.getElem?_setIfInBounds]; omega
                  | j + 4, hu => simp at hu
                · obtain ⟨g1, g2, g3⟩ := HXf.out
                  have hd5 : w5.drew.heap.size = w5.heap.size := rfl
                  refine HLk.out _ _ _ _ _ ⟨g1, g2, wE.heap.size, by omega, Nat.le_refl _, (HO6.out.keep (w' := wE) fun i h1 _ => hk1 i (by omega)).mono (by omega) (by omega), by rw [g3]; exact own_nil5⟩
              · intro i y hi hy
                obtain ⟨ds, h1, h2⟩ := HRk.out i y (by omega) hy
                refine ⟨ds, fun j u hu => ?_, c.cod.keep (fun b' hb' => (hk1 b' (by have := HF0.out b' hb'; omega)).trans (hb0k b' (by have := HF0.out b' hb'; omega))) h2⟩
                have := h1 j u hu
                simp only [Array.getElem?_setIfInBounds]
                rw [if_neg (by omega), if_neg (by omega), if_neg (by omega), if_neg (by omega)]
                exact this
              · exact (hk1 _ (by omega)).trans ((hb0k _ (by omega)).trans HRes.out)
            case measure => simp [intOf]; omega
        · obtain rfl : k = v.parts.length := by omega
          have HOwn := Lib.hid (HOk.out.own HBk.out (Nat.le_refl b) hlc (by unfold maxLen; omega))
          obtain ⟨y0, y1, y2, y3⟩ := HBqk.out.c2
          obtain ⟨r0, r1, r2, r3⟩ := HRes.out.c2
          obtain ⟨f0, f1, f2, f3⟩ := HRes.out.f4
          obtain ⟨wE, hwE⟩ : ∃ wE, wE = (((wr.setCell ⟨w.heap.size + 1, 0, none⟩ (.string v.ty)).setCell ⟨w.heap.size + 1, 1, none⟩ (.int .i64 v.n)).setCell ⟨w.heap.size + 1, 2, none⟩ (.slice (some ⟨b, 0, none⟩) v.parts.length c1)).setCell ⟨w.heap.size + 1, 3, none⟩ (.slice none 0 0) := ⟨_, rfl⟩
          have HQd := Lib.hid (show CopyD c v w (.returned (.agg #[.string v.ty, .int .i64 v.n, .slice (some ⟨b, 0, none⟩) v.parts.length c1, .slice none 0 0])) wE from by
            refine ⟨_, _, rfl, ?_, by rw [hwE]; exact set4_below HWk.out (by omega) _ _ _ _, by rw [hwE]; exact HCk.out.set4 _ _ _ _⟩
            have hse : wE.heap.size = wr.heap.size := by rw [hwE, set4_size]
            rw [hse]
            exact (HOwn.out.keep fun i h1 h2 => by rw [hwE]; exact set4_heap _ _ _ _ (by omega)).mono (by omega) (Nat.le_refl _))
          have HRE := Lib.hid (show Blk wE (w.heap.size + 1) 57 #[.string v.ty, .int .i64 v.n, .slice (some ⟨b, 0, none⟩) v.parts.length c1, .slice none 0 0] by rw [hwE]; exact set4_blk HRes.out _ _ _ _)
          have HwE := Lib.hid hwE
          clear hwE HO1 HIH HLy HP HQ HCc HSm HGo
          go_wp2
          rw [← HwE.out]
          obtain ⟨r0, r1, r2, r3⟩ := HRE.out.c2
          exact bodyPost_ret (v := .agg #[.string v.ty, .int .i64 v.n, .slice (some ⟨b, 0, none⟩) v.parts.length c1, .slice none 0 0]) (by simp [results, Try.results51, go_sem, r0, r1, r2, r3]) rfl HQd.out
    · have hl0 : ¬ (0 : Int) < v.parts.length := by omega
      go_wp2
      go_loopw [17] (fun si wr => si = .int .i64 0 ∧ w1 = wr) (fun _ _ => 0)
      case atStart => exact ⟨rfl, by first | rfl | trivial⟩
      case round =>
        obtain ⟨rfl, hwq⟩ := hrel
        subst hwq
        obtain ⟨r0, r1, r2, r3⟩ := HR1.out.c2
        obtain ⟨f0, f1, f2, f3⟩ := HR1.out.f4
        obtain ⟨wE, hwE⟩ : ∃ wE, wE = (((w1.setCell ⟨w.heap.size + 1, 0, none⟩ (.string v.ty)).setCell ⟨w.heap.size + 1, 1, none⟩ (.int .i64 v.n)).setCell ⟨w.heap.size + 1, 2, none⟩ (.slice A1 v.parts.length c1)).setCell ⟨w.heap.size + 1, 3, none⟩ (.slice none 0 0) := ⟨_, rfl⟩
        have HQd := Lib.hid (show CopyD c v w (.returned (.agg #[.string v.ty, .int .i64 v.n, .slice A1 v.parts.length c1, .slice none 0 0])) wE from
          ⟨_, _, rfl, ⟨A1, c1, rfl, hlc, by unfold maxLen; omega, fun h => absurd h hp⟩, by rw [hwE]; exact set4_below HW1.out (by omega) _ _ _ _, by rw [hwE]; exact HCw.out.set4 _ _ _ _⟩)
        have HRE := Lib.hid (show Blk wE (w.heap.size + 1) 57 #[.string v.ty, .int .i64 v.n, .slice A1 v.parts.length c1, .slice none 0 0] by rw [hwE]; exact set4_blk HR1.out _ _ _ _)
        have HwE := Lib.hid hwE
        clear hwE HIH HLy HP HQ
        go_wp2
        rw [← HwE.out]
        obtain ⟨r0, r1, r2, r3⟩ := HRE.out.c2
        exact bodyPost_ret (v := .agg #[.string v.ty, .int .i64 v.n, .slice A1 v.parts.length c1, .slice none 0 0]) (by simp [results, Try.results51, go_sem, r0, r1, r2, r3]) rfl HQd.out

theorem copyValue_any (ks : Ks) : ∀ d, CopyC ks (OCod.val 57 3 d) (okV ks d) (SmolD d)
  | 0 => copyValue_of (c := OCod.no) (e := OCod.no) (g := fun _ => false) (Q := fun _ => True) (IsVal.zero _) (fun h => absurd h no_el) fun h => absurd h no_el
  | d + 1 => copyValue_of (c := (OCod.val 57 3 d).of 57 3) (e := OCod.val 57 3 d) (Q := SmolD d) (by have := IsVal.of (OCod.val 57 3 d).cod; exact this) (fun _ _ _ _ _ _ _ h => ⟨_, _, rfl, h⟩) fun _ => ⟨copyValue_any ks d, rfl, fun _ h => h⟩
end Go.Proofs.Ytmomdflfjcboiaa
