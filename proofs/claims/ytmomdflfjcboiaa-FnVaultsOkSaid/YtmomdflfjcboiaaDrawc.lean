/- What is drawn: types of kinds. -/
import Derived.Test.YtmomdflfjcboiaaDrawb
namespace Go.Proofs.Ytmomdflfjcboiaa
open Go.RowKit

theorem Step.trans {g p N M : Nat} {a b c : World} (h : Step g p N a b) (k : ∀ q, q ≤ p + N → Rdr g q b → Step g q M b c) : Step g p (N + M) a c := by
  obtain ⟨⟨q, hq, hr⟩, hg⟩ := h
  obtain ⟨⟨q', hq', hr'⟩, hg'⟩ := k q hq hr
  exact ⟨⟨q', by omega, hr'⟩, grown_trans hg hg'⟩
theorem Step.more {g p N M : Nat} {a b : World} (h : Step g p N a b) (hm : N ≤ M) : Step g p M a b := by
  obtain ⟨⟨q, hq, hr⟩, hg⟩ := h
  exact ⟨⟨q, by omega, hr⟩, hg⟩
theorem Step.start {g p N : Nat} {w : World} (h : Rdr g p w) : Step g p N w w := ⟨⟨p, by omega, h⟩, grown_refl _ _⟩
/-- Something new, the reader left alone. -/
theorem Step.below {g p N : Nat} {a b c : World} (h : Step g p N a b) (hb : Below b.heap.size b c) : Step g p N a c := by
  obtain ⟨⟨q, hq, hr⟩, hg⟩ := h
  exact ⟨⟨q, hq, hr.keep (fun i hi => hb.block i hi) hb.size⟩, grown_trans hg (grown_below (Nat.le_refl _) hb)⟩
theorem Step.keeps {g p N : Nat} {a b : World} (h : Step g p N a b) {F : Nat → Prop} (hF : ∀ i, F i → i < a.heap.size ∧ i ≠ g) : ∀ i, F i → b.heap[i]? = a.heap[i]? := fun i hi => h.grown.block i (hF i hi).1 (by have := (hF i hi).2; simp; omega)
theorem Step.ups {g p N : Nat} {a b : World} (h : Step g p N a b) {F : Nat → Prop} (hF : ∀ i, F i → i < a.heap.size ∧ i ≠ g) : ∀ i, F i → i < b.heap.size ∧ i ≠ g := fun i hi => ⟨Nat.lt_of_lt_of_le (hF i hi).1 h.grown.size, (hF i hi).2⟩

/-- A short text that names a kind that there is, or one with the number 9, or none. -/
def Near (ks : Ks) (s : ByteArray) : Prop := s.size ≤ 50 ∧ ∀ m k, kindOf s = some (m, k) → k = 9 ∨ hasB ks m k = true
theorem kindOf_size {s : ByteArray} (h : s.size ≠ 3) : kindOf s = none := by
  unfold kindOf
  rw [dif_neg h]
theorem near_small {ks : Ks} {s : ByteArray} (h : s.size ≤ 50) (h3 : s.size ≠ 3) : Near ks s := ⟨h, fun m k hk => by rw [kindOf_size h3] at hk; cases hk⟩
theorem kindOf_dig : ∀ m k : Fin 10, kindOf ((⟨#[83]⟩ : ByteArray) ++ digB m.val ++ digB k.val) = some (m.val, k.val) := by decide +kernel
theorem near_kind {ks : Ks} {m k : Nat} (hm : m ≤ 9) (hk : k ≤ 9) (h : hasB ks m k = true) : Near ks ((⟨#[83]⟩ : ByteArray) ++ digB m ++ digB k) := by
  refine ⟨by rw [ByteArray.size_append, ByteArray.size_append, size_digB, size_digB]; decide, fun m' k' hk' => ?_⟩
  rw [kindOf_dig ⟨m, by omega⟩ ⟨k, by omega⟩] at hk'
  cases hk'
  exact .inr h
/-- A type. -/
def TypeOfD (g p N : Nat) (ks : Ks) (W : World) (e : Ending) (w' : World) : Prop :=
  ∃ t : ByteArray, Near ks t ∧ e = .returned (.string t) ∧ Step g p N W w'

/-- A number, and how far the reader is then. -/
def PickS (g p N : Nat) (n : Int) (W0 : World) (e : Ending) (w' : World) : Prop :=
  ∃ k : Nat, e = .returned (.int .i64 (k : Int)) ∧ ((k : Int) < n ∨ k = 0) ∧ Step g p (N + 1) W0 w'
theorem pick_step {g p N : Nat} {n : Int} {w0 w : World} (h : Step g p N w0 w) (hp : p + N ≤ 100000000) (hn : n ≤ 100000) :
    Calls Try.prog 38 #[.pointer (some ⟨g, 0, none⟩), .int .i64 n] w (PickS g p N n w0) := by
  obtain ⟨⟨q, hq, hr⟩, hg⟩ := h
  refine (pick_any g q n w hr (by omega) hn).mono ?_
  rintro e w' ⟨k, rfl, hk, hr', hg', _⟩
  exact ⟨k, rfl, hk, ⟨q + 1, by omega, hr'⟩, grown_trans hg hg'⟩
theorem dec_step {g p N n : Nat} {w0 w : World} (h : Step g p N w0 w) (hn : n ≤ 9) :
    Calls Try.prog 60 #[.int .i64 n] w fun e w' => e = .returned (.string (digB n)) ∧ Step g p N w0 w' := by
  refine (dec_any n w hn).mono ?_
  rintro e w' ⟨rfl, hb⟩
  exact ⟨rfl, h.below hb⟩

/-- What a reader of texts is handed: a row that a literal lays. -/
theorem lit_strs (w : World) (cs : Array Value) (xs : List ByteArray) (hn : xs.length ≤ 1000) (hx : ∀ (i : Nat) (x : ByteArray), xs[i]? = some x → cs[i]? = some (Value.string x) ∧ x.size ≤ maxLen) :
    Cod.str.Sl (fun b => b = w.heap.size) (w.alloc (.cells cs 9)) (.slice (some ⟨w.heap.size, 0, none⟩) xs.length xs.length) xs := (Blk.new w 9 cs).strs xs hn hx

set_option maxRecDepth 100000 in
set_option maxHeartbeats 1000000 in
theorem type_any (F : Nat → Prop) (g p : Nat) (v : Value) (ks : Ks) (refs : Bool) (w : World) (h : Rdr g p w) (hp : p ≤ 90000000) (hv : Cod.recs.Sl F w v ks) (hF : ∀ b, F b → b < w.heap.size ∧ b ≠ g) (h1 : ks.length ≤ 10) (h2 : ∀ r ∈ ks, r.length ≤ 10) :
    Calls Try.prog 78 #[.pointer (some ⟨g, 0, none⟩), v, .bool refs] w (TypeOfD g p 6 ks w) := by
  have HR := Lib.hid h
  have hgl := h.lt
  clear h
  have HV := Lib.hid hv
  have H2 := Lib.hid h2
  clear h2
  obtain ⟨A, cap, rfl, hlc, hcm, _⟩ := hv
  unfold maxLen at hcm
  go_enter Try.func78, Try.ntmps78
  go_wp2_with fail
  refine (of_any (fun b => b = w.heap.size) g p _ [⟨#[110]⟩, ⟨#[98]⟩, ⟨#[111]⟩, ⟨#[110]⟩] _ (HR.out.keep (fun i hi => Below.heap_alloc _ _ _ hi) (by simp)) (by omega) (lit_strs w _ _ (by simp) ?_) (fun b hb => by subst hb; simp; omega) (by simp) (by simp)).mono ?_
  · intro i x hi
    match i, hi with
    | 0, hi => simp at hi; subst hi; exact ⟨rfl, by decide⟩
    | 1, hi => simp at hi; subst hi; exact ⟨rfl, by decide⟩
    | 2, hi => simp at hi; subst hi; exact ⟨rfl, by decide⟩
    | 3, hi => simp at hi; subst hi; exact ⟨rfl, by decide⟩
  rintro e w1 ⟨s, hs, rfl, hst, hs1⟩
  have hs50 : s.size = 1 := by
    simp at hs
    rcases hs with rfl | rfl | rfl | rfl <;> decide
  have hst1 : Step g p 1 w w1 := ⟨hst.rdr, grown_trans (World.grownBy_alloc w _ _) hst.grown⟩
  have H1 := Lib.hid hst1
  clear hs hst hst1 hs1
  obtain ⟨⟨q1, hq1, hr1⟩, _⟩ := H1.out
  have HR1 := Lib.hid hr1
  clear hr1
  go_wp2_with fail
  refine (pick_any g q1 2 w1 HR1.out (by omega) (by omega)).mono ?_
  rintro e w2 ⟨k, rfl, hk, hr2, hg2, hs2⟩
  have H2' := Lib.hid (show Step g p 2 w w2 from ⟨⟨_, by omega, hr2⟩, grown_trans H1.out.grown hg2⟩)
  have HR2 := Lib.hid hr2
  clear hr2 hg2 hs2 HR1
  by_cases hk0 : k = 0
  · have b0 : ((k : Int) == 0) = true := by rw [beq_iff_eq]; omega
    clear hk0
    by_cases hl0 : 0 < ks.length
    · have HS2 := Lib.hid (HV.out.keep (H2'.out.keeps hF))
      have hF2 := H2'.out.ups hF
      go_wp2_with fail
      refine (pick_any g (q1 + 1) _ w2 HR2.out (by omega) (by omega)).mono ?_
      rintro e w3 ⟨m, rfl, hm, hr3, hg3, hs3⟩
      have hlt : m < ks.length := by omega
      have H3 := Lib.hid (show Step g p 3 w w3 from ⟨⟨_, by omega, hr3⟩, grown_trans H2'.out.grown hg3⟩)
      have HR3 := Lib.hid hr3
      have HS3 := Lib.hid (HV.out.keep (H3.out.keeps hF))
      have hF3 := Lib.hid (H3.out.ups hF)
      have hl3 := H2.out _ (List.getElem_mem hlt)
      obtain ⟨b, off, c1, u, hve, hFb, _, _, hc0, hu⟩ := HS3.out.sl_at hlt
      obtain ⟨rfl, rfl⟩ : A = some ⟨b, off, none⟩ ∧ cap = c1 := by simpa using hve
      obtain ⟨Au, cu, rfl, hlu, hcu, _⟩ := hu
      unfold maxLen at hcu
      have hbw := hF3.out b hFb
      clear hr3 hg3 hs3 hve HR2 HS2 hF2 hm
      by_cases hl1 : 0 < ks[m].length
      · go_wp2
        have HQ := Lib.hid (show ∀ (N : Nat) (W : World), Step g p N w W → W.cell? ⟨b, off + m, none⟩ = some (.slice Au ks[m].length cu) from fun N W hs => by
          have e1 := World.cell?_of_block (w := w) (w' := W) (a := ⟨b, off + m, none⟩) (hs.keeps hF b hFb)
          have e2 := World.cell?_of_block (w := w) (w' := w3) (a := ⟨b, off + m, none⟩) (H3.out.keeps hF b hFb)
          rw [e1, ← e2]; exact hc0)
        have hS3 : Step g p 3 w w3.drew := ⟨H3.out.rdr, grown_trans H3.out.grown ⟨rfl, rfl, rfl, Nat.le_refl _, fun _ _ _ => rfl⟩⟩
        have hm9 : m ≤ 9 := by omega
        have HHas := Lib.hid (show ∀ kb : Nat, ((kb : Int) < (ks[m].length : Nat) ∨ kb = 0) → hasB ks m kb = true from fun kb hkb => by unfold hasB; rw [List.getElem?_eq_getElem hlt]; exact decide_eq_true (by omega))
        go_cut [7] (fun s7 wx => ∃ t : ByteArray, Hid (Near ks t ∧ t.size = 3) ∧ s7 = .string t ∧ Hid (Step g p 4 w wx))
        case first =>
          go_region_with (first
            | (go_at_call 60; refine (dec_step (by assumption) (by omega)).mono ?_; rintro e wa ⟨rfl, hSa⟩; have hca := HQ.out _ _ hSa)
            | (go_at_call 38; refine (pick_step (by assumption) (by omega) (by omega)).mono ?_; rintro e wb ⟨kb, rfl, hkb, hSb⟩; have hcb := HQ.out _ _ hSb; have hkb9 : kb ≤ 9 := by omega))
          all_goals go_wp2_with fail
          all_goals go_meet
          all_goals exact ⟨_, Lib.hid ⟨near_kind hm9 hkb9 (HHas.out kb hkb), by rw [ByteArray.size_append, ByteArray.size_append, size_digB, size_digB]; decide⟩, rfl, hSa⟩
        case rest =>
          obtain ⟨t, HN3, rfl, H4⟩ := hcut
          have ht3 : t.size ≤ 3 := by have := HN3.out.2; omega
          obtain ⟨⟨qt, hqt, hrt⟩, _⟩ := H4.out
          have HRt := Lib.hid hrt
          clear hrt
          cases refs with
          | false =>
            go_wp2
            go_ret
            exact ⟨_, HN3.out.1, rfl, H4.out.more (by omega)⟩
          | true =>
            go_wp2_with fail
            refine (pick_any g qt 4 _ HRt.out (by omega) (by omega)).mono ?_
            rintro e w5 ⟨k5, rfl, hk5, hr5, hg5, hs5⟩
            have H5 := Lib.hid (show Step g p 5 w w5 from ⟨⟨_, by omega, hr5⟩, grown_trans H4.out.grown hg5⟩)
            have HR5 := Lib.hid hr5
            clear hr5 hg5 hs5
            by_cases hk0 : k5 = 0
            · have b5 : ((k5 : Int) == 0) = true := by rw [beq_iff_eq]; omega
              have hl5 := HR5.out.lt
              clear hk0
              go_wp2_with fail
              refine (of_any (fun b => b = w5.heap.size) g (qt + 1) _ [⟨#[38]⟩, ⟨#[33]⟩] _ (HR5.out.keep (fun i hi => Below.heap_alloc _ _ _ hi) (by simp)) (by omega) (lit_strs w5 _ _ (by simp) ?_) (fun b hb => by subst hb; simp; omega) (by simp) (by simp)).mono ?_
              · intro i x hi
                match i, hi with
                | 0, hi => simp at hi; subst hi; exact ⟨rfl, by decide⟩
                | 1, hi => simp at hi; subst hi; exact ⟨rfl, by decide⟩
              rintro e w6 ⟨s6, hs6, rfl, hst6, _⟩
              have h61 : s6.size = 1 := by
                simp at hs6
                rcases hs6 with rfl | rfl <;> decide
              have H6 := Lib.hid (show Step g p 6 w w6 from by
                obtain ⟨⟨q6, hq6, hr6⟩, hg6⟩ := hst6
                exact ⟨⟨q6, by omega, hr6⟩, grown_trans H5.out.grown (grown_trans (World.grownBy_alloc w5 _ _) hg6)⟩)
              clear hs6 hst6
              go_wp2
              go_ret
              exact ⟨_, near_small (by have := HN3.out.2; simp; omega) (by have := HN3.out.2; simp; omega), rfl, H6.out⟩
            · have b5 : ((k5 : Int) == 0) = false := by rw [beq_eq_false_iff_ne]; omega
              clear hk0
              go_wp2
              go_ret
              exact ⟨_, HN3.out.1, rfl, H5.out.more (by omega)⟩
      · obtain ⟨⟨qt, hqt, hrt⟩, _⟩ := H3.out
        have HRt := Lib.hid hrt
        clear hrt
        cases refs with
        | false =>
          go_wp2
          go_ret
          exact ⟨_, near_small (by omega) (by omega), rfl, H3.out.more (by omega)⟩
        | true =>
          go_wp2_with fail
          refine (pick_any g qt 4 _ HRt.out (by omega) (by omega)).mono ?_
          rintro e w5 ⟨k5, rfl, hk5, hr5, hg5, hs5⟩
          have H5 := Lib.hid (show Step g p 5 w w5 from ⟨⟨_, by omega, hr5⟩, grown_trans H3.out.grown hg5⟩)
          have HR5 := Lib.hid hr5
          clear hr5 hg5 hs5
          by_cases hk0 : k5 = 0
          · have b5 : ((k5 : Int) == 0) = true := by rw [beq_iff_eq]; omega
            have hl5 := HR5.out.lt
            clear hk0
            go_wp2_with fail
            refine (of_any (fun b => b = w5.heap.size) g (qt + 1) _ [⟨#[38]⟩, ⟨#[33]⟩] _ (HR5.out.keep (fun i hi => Below.heap_alloc _ _ _ hi) (by simp)) (by omega) (lit_strs w5 _ _ (by simp) ?_) (fun b hb => by subst hb; simp; omega) (by simp) (by simp)).mono ?_
            · intro i x hi
              match i, hi with
              | 0, hi => simp at hi; subst hi; exact ⟨rfl, by decide⟩
              | 1, hi => simp at hi; subst hi; exact ⟨rfl, by decide⟩
            rintro e w6 ⟨s6, hs6, rfl, hst6, _⟩
            have h61 : s6.size = 1 := by
              simp at hs6
              rcases hs6 with rfl | rfl <;> decide
            have H6 := Lib.hid (show Step g p 6 w w6 from by
              obtain ⟨⟨q6, hq6, hr6⟩, hg6⟩ := hst6
              exact ⟨⟨q6, by omega, hr6⟩, grown_trans H5.out.grown (grown_trans (World.grownBy_alloc w5 _ _) hg6)⟩)
            clear hs6 hst6
            go_wp2
            go_ret
            exact ⟨_, near_small (by simp; omega) (by simp; omega), rfl, H6.out⟩
          · have b5 : ((k5 : Int) == 0) = false := by rw [beq_eq_false_iff_ne]; omega
            clear hk0
            go_wp2
            go_ret
            exact ⟨_, near_small (by omega) (by omega), rfl, H5.out.more (by omega)⟩
    · obtain ⟨⟨qt, hqt, hrt⟩, _⟩ := H2'.out
      have HRt := Lib.hid hrt
      clear hrt
      cases refs with
      | false =>
        go_wp2
        go_ret
        exact ⟨_, near_small (by omega) (by omega), rfl, H2'.out.more (by omega)⟩
      | true =>
        go_wp2_with fail
        refine (pick_any g qt 4 _ HRt.out (by omega) (by omega)).mono ?_
        rintro e w5 ⟨k5, rfl, hk5, hr5, hg5, hs5⟩
        have H5 := Lib.hid (show Step g p 5 w w5 from ⟨⟨_, by omega, hr5⟩, grown_trans H2'.out.grown hg5⟩)
        have HR5 := Lib.hid hr5
        clear hr5 hg5 hs5
        by_cases hk0 : k5 = 0
        · have b5 : ((k5 : Int) == 0) = true := by rw [beq_iff_eq]; omega
          have hl5 := HR5.out.lt
          clear hk0
          go_wp2_with fail
          refine (of_any (fun b => b = w5.heap.size) g (qt + 1) _ [⟨#[38]⟩, ⟨#[33]⟩] _ (HR5.out.keep (fun i hi => Below.heap_alloc _ _ _ hi) (by simp)) (by omega) (lit_strs w5 _ _ (by simp) ?_) (fun b hb => by subst hb; simp; omega) (by simp) (by simp)).mono ?_
          · intro i x hi
            match i, hi with
            | 0, hi => simp at hi; subst hi; exact ⟨rfl, by decide⟩
            | 1, hi => simp at hi; subst hi; exact ⟨rfl, by decide⟩
          rintro e w6 ⟨s6, hs6, rfl, hst6, _⟩
          have h61 : s6.size = 1 := by
            simp at hs6
            rcases hs6 with rfl | rfl <;> decide
          have H6 := Lib.hid (show Step g p 6 w w6 from by
            obtain ⟨⟨q6, hq6, hr6⟩, hg6⟩ := hst6
            exact ⟨⟨q6, by omega, hr6⟩, grown_trans H5.out.grown (grown_trans (World.grownBy_alloc w5 _ _) hg6)⟩)
          clear hs6 hst6
          go_wp2
          go_ret
          exact ⟨_, near_small (by simp; omega) (by simp; omega), rfl, H6.out⟩
        · have b5 : ((k5 : Int) == 0) = false := by rw [beq_eq_false_iff_ne]; omega
          clear hk0
          go_wp2
          go_ret
          exact ⟨_, near_small (by omega) (by omega), rfl, H5.out.more (by omega)⟩
  · have b0 : ((k : Int) == 0) = false := by rw [beq_eq_false_iff_ne]; omega
    clear hk0
    obtain ⟨⟨qt, hqt, hrt⟩, _⟩ := H2'.out
    have HRt := Lib.hid hrt
    clear hrt
    cases refs with
    | false =>
      go_wp2
      go_ret
      exact ⟨_, near_small (by omega) (by omega), rfl, H2'.out.more (by omega)⟩
    | true =>
      go_wp2_with fail
      refine (pick_any g qt 4 _ HRt.out (by omega) (by omega)).mono ?_
      rintro e w5 ⟨k5, rfl, hk5, hr5, hg5, hs5⟩
      have H5 := Lib.hid (show Step g p 5 w w5 from ⟨⟨_, by omega, hr5⟩, grown_trans H2'.out.grown hg5⟩)
      have HR5 := Lib.hid hr5
      clear hr5 hg5 hs5
      by_cases hk0 : k5 = 0
      · have b5 : ((k5 : Int) == 0) = true := by rw [beq_iff_eq]; omega
        have hl5 := HR5.out.lt
        clear hk0
        go_wp2_with fail
        refine (of_any (fun b => b = w5.heap.size) g (qt + 1) _ [⟨#[38]⟩, ⟨#[33]⟩] _ (HR5.out.keep (fun i hi => Below.heap_alloc _ _ _ hi) (by simp)) (by omega) (lit_strs w5 _ _ (by simp) ?_) (fun b hb => by subst hb; simp; omega) (by simp) (by simp)).mono ?_
        · intro i x hi
          match i, hi with
          | 0, hi => simp at hi; subst hi; exact ⟨rfl, by decide⟩
          | 1, hi => simp at hi; subst hi; exact ⟨rfl, by decide⟩
        rintro e w6 ⟨s6, hs6, rfl, hst6, _⟩
        have h61 : s6.size = 1 := by
          simp at hs6
          rcases hs6 with rfl | rfl <;> decide
        have H6 := Lib.hid (show Step g p 6 w w6 from by
          obtain ⟨⟨q6, hq6, hr6⟩, hg6⟩ := hst6
          exact ⟨⟨q6, by omega, hr6⟩, grown_trans H5.out.grown (grown_trans (World.grownBy_alloc w5 _ _) hg6)⟩)
        clear hs6 hst6
        go_wp2
        go_ret
        exact ⟨_, near_small (by simp; omega) (by simp; omega), rfl, H6.out⟩
      · have b5 : ((k5 : Int) == 0) = false := by rw [beq_eq_false_iff_ne]; omega
        clear hk0
        go_wp2
        go_ret
        exact ⟨_, near_small (by omega) (by omega), rfl, H5.out.more (by omega)⟩
end Go.Proofs.Ytmomdflfjcboiaa
