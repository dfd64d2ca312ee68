/- The model's reader, whatever comes; how large good values are, and how many marks they take. The model's ValueRead. What both readings answer is the same. No walk. -/
import Derived.Test.YtelhjdccfomafaaDoorSu
import Derived.Test.YtelhjdccfomafaaDoorVtb
import Derived.Test.YtelhjdccfomafaaDoorVlk
import Derived.Test.YtelhjdccfomafaaDoorOwv
import Derived.Test.YtelhjdccfomafaaDoorMk
import Derived.Test.YtelhjdccfomafaaDoorRs
namespace Go.Proofs.YtelhjdccfomafaaDoor
open Go.RowKit

theorem valueM_any {ks : Ks} (rb : Nat) (s : ByteArray) (hs : s.size ≤ 2000000) : ∀ (n i : Nat) (w : World), s.size - i < n → i ≤ s.size → MrB rb s i false w → Calls Tryd.prog 33 #[.pointer (some ⟨rb, 0, none⟩)] w (ValM ks rb s i w) := by
  intro n
  induction n with
  | zero => intro i w h; omega
  | succ n ih =>
    intro i w hn hi h
    by_cases hc : atB s i = 83 ∧ i + 3 ≤ s.size
    · exact valueM_rec rb i s w h hc.2 hs hc.1 fun i' w' h1 h2 h3 => ih i' w' (by omega) h2 h3
    · exact valueM_base rb i s w h hi hs (by
        by_cases h83 : atB s i = 83
        · right
          have : ¬ i + 3 ≤ s.size := fun h => hc ⟨h83, h⟩
          omega
        · exact .inl h83)

/-- How late a kind stands, among three of a module. -/
def idx (t : ByteArray) : Nat := match kindOf t with | none => 0 | some (m, k) => 3 * m + k + 1
theorem ok_mod {ks : Ks} (h : kindsOk ks = true) (m : Nat) (hm : m < ks.length) : (ks[m]).length ≤ 3 := by
  unfold kindsOk kindsBad at h
  have h := of_decide_eq_true h
  split at h
  · simp at h
  · have := (badOut_neg _ _ h m (Nat.zero_le _) (by omega)).1
    simpa [List.getD, hm] using this
theorem idx_le {ks : Ks} (h : kindsOk ks = true) {t : ByteArray} (hk : Known ks t) : idx t ≤ 9 := by
  unfold idx
  split
  · omega
  · rename_i m k hmk
    obtain ⟨hm, hk2, _⟩ := has_at (hk m k hmk)
    have h1 := ok_len h
    have h2 := ok_mod h m hm
    omega
theorem idx_field {ks : Ks} (h : kindsOk ks = true) {m k : Nat} (hh : hasB ks m k = true) {f : ByteArray} (hf : f ∈ (recAt ks m k).fields) : idx f < 3 * m + k + 1 := by
  have hfb := ok_field h hh hf
  unfold fieldB at hfb
  unfold idx
  split at hfb
  · rename_i hk; rw [hk]; simp
  · rename_i am ak hk
    rw [hk]
    simp only [Bool.and_eq_true, Bool.or_eq_true, decide_eq_true_eq] at hfb
    obtain ⟨hm2, hk2, _⟩ := has_at hfb.1
    have h2 := ok_mod h am hm2
    have h3 := hfb.2
    show 3 * am + ak + 1 < 3 * m + k + 1
    rcases h3 with h3 | ⟨h3, h4⟩ <;> omega
theorem sumL_bound {f : Val → Int} {b : Int} (hb : 0 ≤ b) : ∀ (xs : List Val), (∀ x ∈ xs, f x ≤ b) → xs.length ≤ 3 → sumL f xs ≤ 3 * b
  | [], _, _ => by show (0 : Int) ≤ _; omega
  | [x], h, _ => by show f x + 0 ≤ _; have := h x (by simp); omega
  | [x, y], h, _ => by show f x + (f y + 0) ≤ _; have := h x (by simp); have := h y (by simp); omega
  | [x, y, z], h, _ => by show f x + (f y + (f z + 0)) ≤ _; have := h x (by simp); have := h y (by simp); have := h z (by simp); omega
  | _ :: _ :: _ :: _ :: r, _, hl => by simp at hl
/-- Good values are small. -/
theorem size_idx {ks : Ks} (hok : kindsOk ks = true) : ∀ (d : Nat) (v : Val), okV ks d v = true → sizeV d v ≤ (4 : Int) ^ idx v.ty
  | 0, _, h => by cases h
  | d + 1, v, h => by
    have hu : okOf ks (okV ks d) v = true := h
    show (1 : Int) + sumL (sizeV d) v.parts ≤ _
    have hpos : (1 : Int) ≤ (4 : Int) ^ idx v.ty := by
      have : (0 : Int) < (4 : Int) ^ idx v.ty := Int.pow_pos (by decide)
      omega
    by_cases hb : (v.ty.toList == [110]) = true ∨ (v.ty.toList == [98]) = true ∨ (v.ty.toList == [111]) = true
    · obtain ⟨p1, _⟩ := base_plain hu hb
      rw [p1]
      show (1 : Int) + 0 ≤ _
      omega
    · have c1 : (v.ty.toList == [110]) = false := by cases h1 : (v.ty.toList == [110]) with | false => rfl | true => exact absurd (.inl h1) hb
      have c2 : (v.ty.toList == [98]) = false := by cases h1 : (v.ty.toList == [98]) with | false => rfl | true => exact absurd (.inr (.inl h1)) hb
      have c3 : (v.ty.toList == [111]) = false := by cases h1 : (v.ty.toList == [111]) with | false => rfl | true => exact absurd (.inr (.inr h1)) hb
      obtain ⟨m, k, hk, hh, _, _, a5, _, a6, a7⟩ := okOf_parts hu c1 c2 c3
      have hi : idx v.ty = 3 * m + k + 1 := by unfold idx; rw [hk]
      have hl := rec_few hok hh
      rw [hi, Int.pow_succ]
      have hp0 : (0 : Int) < (4 : Int) ^ (3 * m + k) := Int.pow_pos (by decide)
      have := sumL_bound (f := sizeV d) (b := (4 : Int) ^ (3 * m + k)) (by omega) v.parts (fun x hx => by
        obtain ⟨j, hj, rfl⟩ := List.mem_iff_getElem.1 hx
        have h1 := size_idx hok d _ (a7 _ hx)
        have h2 := ext_toList (a6 j hj (by omega)).1
        have h3 := idx_field hok hh (List.getElem_mem (show j < (recAt ks m k).fields.length by omega))
        rw [h2] at h1
        exact Int.le_trans h1 (by
          have h4 : idx (recAt ks m k).fields[j] ≤ 3 * m + k := by omega
          have h5 : 4 ^ idx (recAt ks m k).fields[j] ≤ 4 ^ (3 * m + k) := Nat.pow_le_pow_right (by decide) h4
          exact_mod_cast h5)) (by omega)
      omega
theorem known_ok {ks : Ks} {d : Nat} {v : Val} (h : okV ks (d + 1) v = true) : Known ks v.ty := by
  intro m k hk
  have hu : okOf ks (okV ks d) v = true := h
  obtain ⟨c1, c2, c3⟩ := rec_types hk
  obtain ⟨m', k', hk', hh, _⟩ := okOf_parts hu c1 c2 c3
  rw [hk] at hk'
  cases hk'
  exact hh
theorem size_good {ks : Ks} (hok : kindsOk ks = true) {d : Nat} {v : Val} (h : okV ks (d + 1) v = true) : sizeV (d + 1) v ≤ 262144 := by
  have h1 := size_idx hok (d + 1) v h
  have h2 := idx_le hok (known_ok h)
  have h3 : 4 ^ idx v.ty ≤ 4 ^ 9 := Nat.pow_le_pow_right (by decide) h2
  have h4 : ((4 ^ idx v.ty : Nat) : Int) ≤ 262144 := by omega
  have h5 : ((4 ^ idx v.ty : Nat) : Int) = (4 : Int) ^ idx v.ty := by simp
  omega

/-- How many marks a good value takes. -/
theorem marks_list {ks : Ks} {d : Nat} (ih : ∀ x k, okV ks d x = true → ((mkV d x k).2 : Int) ≤ k + 2 * sizeV d x) : ∀ (xs : List Val) (k : Nat), (∀ x ∈ xs, okV ks d x = true) → ((markL (mkV d) xs k).2 : Int) ≤ k + 2 * sumL (sizeV d) xs
  | [], k, _ => by show (k : Int) ≤ k + 2 * 0; omega
  | x :: r, k, h => by
    have h1 := ih x k (h x (by simp))
    have h2 := marks_list ih r (mkV d x k).2 fun y hy => h y (by simp [hy])
    show ((markL (mkV d) r (mkV d x k).2).2 : Int) ≤ k + 2 * (sizeV d x + sumL (sizeV d) r)
    omega
theorem ok_inside {ks : Ks} {d : Nat} {v : Val} (h : okV ks (d + 1) v = true) : v.path = [] ∧ ∀ x ∈ v.parts, okV ks d x = true := by
  have hu : okOf ks (okV ks d) v = true := h
  by_cases hb : (v.ty.toList == [110]) = true ∨ (v.ty.toList == [98]) = true ∨ (v.ty.toList == [111]) = true
  · obtain ⟨p1, p2⟩ := base_plain hu hb
    exact ⟨p2, fun x hx => by rw [p1] at hx; cases hx⟩
  · have c1 : (v.ty.toList == [110]) = false := by cases h1 : (v.ty.toList == [110]) with | false => rfl | true => exact absurd (.inl h1) hb
    have c2 : (v.ty.toList == [98]) = false := by cases h1 : (v.ty.toList == [98]) with | false => rfl | true => exact absurd (.inr (.inl h1)) hb
    have c3 : (v.ty.toList == [111]) = false := by cases h1 : (v.ty.toList == [111]) with | false => rfl | true => exact absurd (.inr (.inr h1)) hb
    obtain ⟨m, k, _, _, _, a4, _, _, _, a7⟩ := okOf_parts hu c1 c2 c3
    exact ⟨nil_of a4, a7⟩
theorem marks_good (ks : Ks) : ∀ (d : Nat) (x : Val) (k : Nat), okV ks d x = true → ((mkV d x k).2 : Int) ≤ k + 2 * sizeV d x
  | 0, _, _, h => by cases h
  | d + 1, x, k, h => by
    obtain ⟨hp, hq⟩ := ok_inside h
    have h1 := marks_list (marks_good ks d) x.parts (k + 2) hq
    show ((markL mkI x.path (markL (mkV d) x.parts (k + 2)).2).2 : Int) ≤ k + 2 * ((1 : Int) + sumL (sizeV d) x.parts)
    rw [hp]
    show ((markL (mkV d) x.parts (k + 2)).2 : Int) ≤ _
    omega
theorem marks_top {ks : Ks} (hok : kindsOk ks = true) {d : Nat} {v : Val} (h : okV ks (d + 1) v = true) {k : Nat} (hk : k ≤ 10) : (mkTop (mkV d) v k).2 ≤ 100000000 := by
  obtain ⟨hp, hq⟩ := ok_inside h
  have h1 := marks_list (marks_good ks d) v.parts k hq
  have h2 := size_good hok h
  have h3 : sizeV (d + 1) v = 1 + sumL (sizeV d) v.parts := rfl
  show (markL mkI v.path (markL (mkV d) v.parts k).2).2 ≤ _
  rw [hp]
  show (markL (mkV d) v.parts k).2 ≤ _
  omega

/-- How many marks kinds take. -/
theorem marks_sl {α : Type} {f : α → Int → Int} {g : α → Nat → α × Nat} (hg : ∀ x l k, 0 ≤ l → 0 ≤ f x l → ((g x k).2 : Int) ≤ k + 1 + (l - f x l)) : ∀ (xs : List α) (l : Int) (k : Nat), 0 ≤ l → 0 ≤ szList f xs l → ((markL g xs k).2 : Int) ≤ k + xs.length + (l - szList f xs l)
  | [], l, k, _, _ => by show (k : Int) ≤ k + 0 + (l - l); omega
  | x :: r, l, k, h0, h => by
    unfold szList at h ⊢
    split at h
    · omega
    · rename_i hn
      rw [if_neg hn]
      have h1 := hg x l k h0 (by omega)
      have h2 := marks_sl hg r (f x l) (g x k).2 (by omega) h
      show ((markL g r (g x k).2).2 : Int) ≤ _
      simp only [List.length_cons]
      omega
theorem marks_szS {α : Type} {f : α → Int → Int} {g : α → Nat → α × Nat} (hg : ∀ x l k, 0 ≤ l → 0 ≤ f x l → ((g x k).2 : Int) ≤ k + 1 + (l - f x l)) (xs : List α) (l : Int) (k : Nat) (h : 0 ≤ szS f xs l) : ((markL g xs k).2 : Int) ≤ k + (l - szS f xs l) := by
  unfold szS at h ⊢
  split at h
  · omega
  · rename_i hn
    rw [if_neg hn]
    have := marks_sl hg xs (l - xs.length) k (by omega) h
    omega
theorem marks_rec (r : Rec) (l : Int) (k : Nat) (h : 0 ≤ szRec r l) : ((mkR r k).2 : Int) ≤ k + 1 + (l - szRec r l) := by
  unfold szRec at h ⊢
  split at h
  · omega
  · rename_i hn
    rw [if_neg hn]
    have := marks_szS (f := szB) (g := mkS) (fun x l k _ _ => by show ((k + 1 : Nat) : Int) ≤ k + 1 + (l - (l - x.size)); omega) r.fields l (k + 1) (by omega)
    show ((markL mkS r.fields (k + 1)).2 : Int) ≤ _
    omega
theorem marks_kinds {ks : Ks} (h : 0 ≤ szS (szS szRec) ks 1048576) : (markL mkRS ks 1).2 ≤ 100000000 := by
  have := marks_szS (f := szS szRec) (g := mkRS) (fun rs l k _ h2 => by
    have := marks_szS (f := szRec) (g := mkR) (fun r l k _ h3 => marks_rec r l k h3) rs l k h2
    show ((markL mkR rs k).2 : Int) ≤ _
    omega) ks 1048576 1 h
  omega
end Go.Proofs.YtelhjdccfomafaaDoor

namespace Go.Proofs.YtelhjdccfomafaaDoor
open Go.RowKit

/-- What the model's ValueRead hands back. -/
def ReadS (ks : Ks) (s : ByteArray) (w : World) (e : Ending) (w' : World) : Prop :=
  Below w.heap.size w w' ∧
    ((∃ (d : Nat) (v : Val) (A : Option Addr) (cA : Nat), e = .returned (.tuple #[.agg #[.string v.ty, .int .i64 v.n, .slice A v.parts.length cA, .slice none 0 0], .bool true]) ∧ v.path = [] ∧ kindsOk ks = true ∧ okV ks (d + 1) v = true ∧ lOf (textV (d + 1)) v = s.data.toList ∧ VRd (Cod.val d) (Fresh w w') w' (.slice A v.parts.length cA) (.slice none 0 0) v) ∨
     (e = .returned (.tuple #[.agg #[.string ⟨#[]⟩, .int .i64 0, .slice none 0 0, .slice none 0 0], .bool false]) ∧ ∀ (d : Nat) (v : Val), kindsOk ks = true → okV ks (d + 1) v = true → lOf (textV (d + 1)) v ≠ s.data.toList))

theorem okOf_imp {ks : Ks} {f g : Val → Bool} {v : Val} (h : okOf ks f v = true) (hi : ∀ x ∈ v.parts, f x = true → g x = true) : okOf ks g v = true := by
  cases c1 : (v.ty.toList == [110])
  · cases c2 : (v.ty.toList == [98])
    · cases c3 : (v.ty.toList == [111])
      · obtain ⟨m, k, hk, hh, _⟩ := okOf_parts h c1 c2 c3
        unfold okOf at h ⊢
        rw [c1, c2, c3, hk] at h ⊢
        simp only [Bool.false_eq_true, if_false, Bool.and_eq_true, decide_eq_true_eq, List.all_eq_true] at h ⊢
        exact ⟨h.1, fun x hx => ⟨(h.2 x hx).1, hi x.1 (List.of_mem_zip (show (x.1, x.2) ∈ _ from hx)).1 (h.2 x hx).2⟩⟩
      · unfold okOf at h ⊢; rw [c1, c2, c3] at h ⊢; exact h
    · unfold okOf at h ⊢; rw [c1, c2] at h ⊢; exact h
  · unfold okOf at h ⊢; rw [c1] at h ⊢; exact h
/-- A good value is good at the depth at which it is read. -/
theorem ok_depth (ks : Ks) : ∀ (d D : Nat) (F : Nat → Prop) (w : World) (a p : Value) (v : Val), VRd (Cod.val d) F w a p v → okV ks (D + 1) v = true → okV ks (d + 1) v = true
  | d, D, F, w, a, p, v, h, hv => by
    have hv' : okOf ks (okV ks D) v = true := hv
    refine okOf_imp (f := okV ks D) (g := okV ks d) hv' fun x hx hD => ?_
    obtain ⟨j, hj, rfl⟩ := List.mem_iff_getElem.1 hx
    obtain ⟨b, off, cap, cs, _, _, _, _, _, hr⟩ := h.parts.get hj
    cases d with
    | zero => exact hr.elim
    | succ d =>
      cases D with
      | zero => cases hD
      | succ D =>
        obtain ⟨a', p', _, hV⟩ := hr
        exact ok_depth ks d D F w a' p' _ hV hD
theorem okV_up (ks : Ks) (d : Nat) (v : Val) (h : okV ks d v = true) : ∀ n, okV ks (d + n) v = true ∧ textV (d + n) v = textV d v
  | 0 => ⟨h, rfl⟩
  | n + 1 => by
    obtain ⟨h1, h2⟩ := okV_up ks d v h n
    obtain ⟨h3, h4⟩ := okV_next ks (d + n) v h1
    exact ⟨h3, h4.trans h2⟩
theorem text_depth {ks : Ks} {d e : Nat} {v : Val} (h1 : okV ks d v = true) (h2 : okV ks e v = true) : textV d v = textV e v := by
  rcases Nat.le_total d e with h | h
  · have := (okV_up ks d v h1 (e - d)).2
    rw [show d + (e - d) = e by omega] at this
    exact this.symm
  · have := (okV_up ks e v h2 (d - e)).2
    rw [show e + (d - e) = d by omega] at this
    exact this

set_option maxRecDepth 100000 in
set_option maxHeartbeats 8000000 in
theorem specValueRead_any {ks : Ks} (F : Nat → Prop) (kv : Value) (s : ByteArray) (w : World) (hks : Cod.recs.Sl F w kv ks) (hF : ∀ b, F b → b < w.heap.size) (hs : s.size ≤ 2000000) :
    Calls Tryd.prog 15 #[kv, .string s] w (ReadS ks s w) := by
  obtain ⟨Ak, ck, rfl, _⟩ := id hks
  have HS := Lib.hid hks
  have hB0 := Blk.new w 27 #[.string ⟨#[]⟩, .int .i64 0, .slice none 0 0, .slice none 0 0]
  have hA0 := below_alloc1 w (.cells #[.string ⟨#[]⟩, .int .i64 0, .slice none 0 0, .slice none 0 0] 27)
  have HS1 := Lib.hid (HS.out.keep (below_keeps hA0 hF))
  have HF1 := Lib.hid (show ∀ b, F b → b < (w.alloc (.cells #[.string ⟨#[]⟩, .int .i64 0, .slice none 0 0, .slice none 0 0] 27)).heap.size from fun b hb => by have := hF b hb; simp; omega)
  have HB1 := Lib.hid hB0
  have HE1 := Lib.hid hA0
  clear hks hB0 hA0
  go_enter Tryd.func15, Tryd.ntmps15
  go_upto_region 1 with fail
  have hsz : w.heap.size + 1 = (w.alloc (.cells #[.string ⟨#[]⟩, .int .i64 0, .slice none 0 0, .slice none 0 0] 27)).heap.size := by simp
  generalize hw1 : w.alloc (.cells #[.string ⟨#[]⟩, .int .i64 0, .slice none 0 0, .slice none 0 0] 27) = w1 at *
  clear hw1
  have hszl : w.heap.size < w1.heap.size := by omega
  clear hsz
  go_upto_region 2 with fail
  have HA2 := Lib.hid (below_alloc1 w1 (.cells #[.string s, .int .i64 0, .bool false] 63))
  have HR2 := Lib.hid (show MrB w1.heap.size s 0 false (w1.alloc (.cells #[.string s, .int .i64 0, .bool false] 63)) from Blk.new _ _ _)
  have HS2 := Lib.hid (HS1.out.keep (below_keeps HA2.out HF1.out))
  have HF2 := Lib.hid (show ∀ b, F b → b < (w1.alloc (.cells #[.string s, .int .i64 0, .bool false] 63)).heap.size ∧ b ≠ w1.heap.size from fun b hb => by have := HF1.out b hb; simp; omega)
  have HB2 := Lib.hid (HB1.out.below HA2.out hszl)
  have HE2 := Lib.hid (HE1.out.trans (HA2.out.mono (by omega)))
  generalize hw2 : w1.alloc (.cells #[.string s, .int .i64 0, .bool false] 63) = w2 at *
  clear hw2 HS1 HF1 HB1 HE1
  go_wp2_with fail
  refine (valueM_any (ks := ks) w1.heap.size s hs _ 0 w2 (Nat.lt_succ_self _) (Nat.zero_le _) HR2.out).mono ?_
  rintro e w3 ⟨hW, i', bad, d, v, A, cA, hb, _, hi', hM, rfl, hp, hV, hG⟩
  have HS3 := Lib.hid (HS2.out.keep fun b hb => hW.block b (HF2.out b hb).1 (by have := (HF2.out b hb).2; omega))
  have HF3 := Lib.hid (show ∀ b, F b → b < w3.heap.size from fun b hb => Nat.lt_of_lt_of_le (HF2.out b hb).1 hW.size)
  have HB3 := Lib.hid (show Blk w3 w.heap.size 27 #[.string ⟨#[]⟩, .int .i64 0, .slice none 0 0, .slice none 0 0] from (hW.block _ HB2.out.lt (by omega)).trans HB2.out)
  have HE3 := Lib.hid (HE2.out.trans (hW.to_below (by omega) HE2.out.size))
  have HM := Lib.hid hM
  have HG := Lib.hid hG
  have Hp := Lib.hid hp
  have hw12 : w1.heap.size < w2.heap.size := HR2.out.lt
  have HV := Lib.hid (show VRd (Cod.val d) (fun b => w2.heap.size ≤ b ∧ b < w3.heap.size) w3 (.slice A v.parts.length cA) (.slice none 0 0) v from hV)
  have hw23 := hW.size
  obtain ⟨A', cA', hAe, hAl, hAm, _⟩ := hV.parts
  simp only [Value.slice.injEq] at hAe
  obtain ⟨rfl, _, rfl⟩ := hAe
  unfold maxLen at hAm
  clear hW hM hG hp hV hb HB2 HE2 HS2 HF2 HR2 HA2
  go_upto_region 3 with fail
  have HA4 := Lib.hid (below_alloc1 w3 (.cells #[.string v.ty, .int .i64 v.n, .slice A v.parts.length cA, .slice none 0 0] 27))
  have HX4 := Lib.hid (Blk.new w3 27 #[.string v.ty, .int .i64 v.n, .slice A v.parts.length cA, .slice none 0 0])
  have HM4 := Lib.hid (HM.out.alloc (.cells #[.string v.ty, .int .i64 v.n, .slice A v.parts.length cA, .slice none 0 0] 27))
  have HS4 := Lib.hid (HS3.out.keep (below_keeps HA4.out HF3.out))
  have HF4 := Lib.hid (show ∀ b, F b → b < (w3.alloc (.cells #[.string v.ty, .int .i64 v.n, .slice A v.parts.length cA, .slice none 0 0] 27)).heap.size from fun b hb => by have := HF3.out b hb; simp; omega)
  have HB4 := Lib.hid (HB3.out.alloc (.cells #[.string v.ty, .int .i64 v.n, .slice A v.parts.length cA, .slice none 0 0] 27))
  have HE4 := Lib.hid (HE3.out.trans (HA4.out.mono (by omega)))
  have HV4 := Lib.hid (HV.out.keep (below_keeps HA4.out fun b hb => hb.2))
  have hs4 : w3.heap.size + 1 = (w3.alloc (.cells #[.string v.ty, .int .i64 v.n, .slice A v.parts.length cA, .slice none 0 0] 27)).heap.size := by simp
  obtain ⟨x4, hx4⟩ : ∃ x4, x4 = w3.heap.size := ⟨_, rfl⟩
  rw [← hx4] at HX4 HV4 hs4 hw23
  generalize hw4 : w3.alloc (.cells #[.string v.ty, .int .i64 v.n, .slice A v.parts.length cA, .slice none 0 0] 27) = w4 at *
  rw [← hx4]
  clear hw4 HS3 HF3 HB3 HE3 HV HM HA4 hx4
  obtain ⟨m0, m1, m2⟩ := HM4.out.c
  cases bad with
  | true =>
    have HNo := Lib.hid (show ∀ (d : Nat) (v : Val), kindsOk ks = true → okV ks (d + 1) v = true → lOf (textV (d + 1)) v ≠ s.data.toList from fun D u hk hu ht => by
      obtain ⟨h, _⟩ := HG.out hk D u [] hu (by rw [ht]; simp [tl]) Ends.nil.for_
      cases h)
    obtain ⟨y0, y1, y2, y3⟩ := HB4.out.c2
    obtain ⟨f0, f1, f2, f3⟩ := HB4.out.f4
    obtain ⟨wF, hF⟩ : ∃ wF, wF = set4 w4 w.heap.size (.string ⟨#[]⟩) (.int .i64 0) (.slice none 0 0) (.slice none 0 0) := ⟨_, rfl⟩
    have hBF : Blk wF w.heap.size 27 #[.string ⟨#[]⟩, .int .i64 0, .slice none 0 0, .slice none 0 0] := by rw [hF]; exact (((HB4.out.set_ 0 _).set_ 1 _).set_ 2 _).set_ 3 _
    obtain ⟨z0, z1, z2, z3⟩ := hBF.c2
    have HQ := Lib.hid (show ReadS ks s w (.returned (.tuple #[.agg #[.string ⟨#[]⟩, .int .i64 0, .slice none 0 0, .slice none 0 0], .bool false])) wF from
      ⟨by rw [hF]; exact (((HE4.out.setCell (Nat.le_refl _) _).setCell (Nat.le_refl _) _).setCell (Nat.le_refl _) _).setCell (Nat.le_refl _) _, .inr ⟨rfl, HNo.out⟩⟩)
    unfold set4 at hF
    clear hBF
    go_wp2_with fail
    rw [← hF]
    exact bodyPost_ret (v := .tuple #[.agg #[.string ⟨#[]⟩, .int .i64 0, .slice none 0 0, .slice none 0 0], .bool false]) (by simp [results, Tryd.results15, go_sem, z0, z1, z2, z3]) rfl HQ.out
  | false =>
    by_cases hlt : i' = s.size
    · have Hlt := Lib.hid hlt
      have b0 : ((i' : Int) != (s.size : Int)) = false := by rw [bne_eq_false_iff_eq]; omega
      clear hlt
      obtain ⟨t0, t1, t2, t3⟩ := HX4.out.c2
      have HCk := Lib.hid (specValueOk_any (d := d) (fun b => F b ∨ (w2.heap.size ≤ b ∧ b < x4)) (.slice Ak ks.length ck) A none v.parts.length v.path.length cA 0 v w4 (HS4.out.mono fun b hb => .inl hb) (by
        have := HV4.out.mono (G := fun b => F b ∨ (w2.heap.size ≤ b ∧ b < x4)) fun b hb => .inr hb
        rw [show v.path.length = 0 by rw [Hp.out]; rfl]
        exact this) (fun b hb => by rcases hb with hb | hb; (exact HF4.out b hb); omega))
      rw [show v.path.length = 0 by rw [Hp.out]; rfl] at HCk
      go_wp2_with fail
      refine HCk.out.mono ?_
      rintro e w5 ⟨rfl, hb5⟩
      have HB5 := Lib.hid (HB4.out.below hb5 (by omega))
      have HX5 := Lib.hid (HX4.out.below hb5 (by omega))
      have HE5 := Lib.hid (HE4.out.trans (hb5.mono (by omega)))
      have HV5 := Lib.hid (HV4.out.keep (below_keeps hb5 fun b hb => by omega))
      have hs5 := hb5.size
      clear hb5 HCk t0 t1 t2 t3 m0 m1 m2 HB4 HE4 HS4 HF4
      cases hok : valOk ks d v with
      | false =>
        have HNo := Lib.hid (show ∀ (d : Nat) (v : Val), kindsOk ks = true → okV ks (d + 1) v = true → lOf (textV (d + 1)) v ≠ s.data.toList from fun D u hk hu ht => by
          obtain ⟨_, h, _⟩ := HG.out hk D u [] hu (by rw [ht]; simp [tl]) Ends.nil.for_
          subst h
          have := ok_depth ks d D _ _ _ _ _ HV4.out hu
          unfold valOk at hok
          rw [hk, this] at hok
          cases hok)
        clear hok HV4 HX4
        obtain ⟨y0, y1, y2, y3⟩ := HB5.out.c2
        obtain ⟨f0, f1, f2, f3⟩ := HB5.out.f4
        obtain ⟨wF, hF⟩ : ∃ wF, wF = set4 w5 w.heap.size (.string ⟨#[]⟩) (.int .i64 0) (.slice none 0 0) (.slice none 0 0) := ⟨_, rfl⟩
        have hBF : Blk wF w.heap.size 27 #[.string ⟨#[]⟩, .int .i64 0, .slice none 0 0, .slice none 0 0] := by rw [hF]; exact (((HB5.out.set_ 0 _).set_ 1 _).set_ 2 _).set_ 3 _
        obtain ⟨z0, z1, z2, z3⟩ := hBF.c2
        have HQ := Lib.hid (show ReadS ks s w (.returned (.tuple #[.agg #[.string ⟨#[]⟩, .int .i64 0, .slice none 0 0, .slice none 0 0], .bool false])) wF from
          ⟨by rw [hF]; exact (((HE5.out.setCell (Nat.le_refl _) _).setCell (Nat.le_refl _) _).setCell (Nat.le_refl _) _).setCell (Nat.le_refl _) _, .inr ⟨rfl, HNo.out⟩⟩)
        unfold set4 at hF
        clear hBF
        go_wp2_with fail
        rw [← hF]
        exact bodyPost_ret (v := .tuple #[.agg #[.string ⟨#[]⟩, .int .i64 0, .slice none 0 0, .slice none 0 0], .bool false]) (by simp [results, Tryd.results15, go_sem, z0, z1, z2, z3]) rfl HQ.out
      | true =>
        have hkk : kindsOk ks = true ∧ okV ks (d + 1) v = true := by
          unfold valOk at hok
          rwa [Bool.and_eq_true] at hok
        have Hkk := Lib.hid hkk
        have HTx := Lib.hid (l2Text_any ks d _ A none v.parts.length v.path.length cA 0 v w5 (by rw [show v.path.length = 0 by rw [Hp.out]; rfl]; exact HV5.out) (fun b hb => by omega) hkk.2 (textVal_le hok (show sizeV (d + 1) v ≤ 2000000 by have := size_good hkk.1 hkk.2; omega)))
        rw [show v.path.length = 0 by rw [Hp.out]; rfl] at HTx
        obtain ⟨t0, t1, t2, t3⟩ := HX5.out.c2
        clear hok hkk HV4 HX4
        go_wp2_with fail
        refine HTx.out.mono ?_
        rintro e w6 ⟨rfl, hb6⟩
        have HB6 := Lib.hid (HB5.out.below hb6 (by omega))
        have HX6 := Lib.hid (HX5.out.below hb6 (by omega))
        have HE6 := Lib.hid (HE5.out.trans (hb6.mono (by omega)))
        have HV6 := Lib.hid (HV5.out.keep (below_keeps hb6 fun b hb => by omega))
        have hs6 := hb6.size
        clear hb6 HTx HB5 HX5 HE5 HV5 t0 t1 t2 t3
        cases heq : ((textOf (textV d) v).toList == s.toList) with
        | false =>
          have HNo := Lib.hid (show ∀ (d : Nat) (v : Val), kindsOk ks = true → okV ks (d + 1) v = true → lOf (textV (d + 1)) v ≠ s.data.toList from fun D u hk hu ht => by
            obtain ⟨_, h, _⟩ := HG.out hk D u [] hu (by rw [ht]; simp [tl]) Ends.nil.for_
            subst h
            have h2 := text_depth Hkk.out.2 hu
            have h3 : (textOf (textV d) v).toList = s.toList := by
              rw [toList_data, toList_data, ← ht]
              show (textV (d + 1) v).data.toList = (textV (D + 1) v).data.toList
              rw [h2]
            rw [h3] at heq
            simp at heq)
          obtain ⟨y0, y1, y2, y3⟩ := HB6.out.c2
          obtain ⟨f0, f1, f2, f3⟩ := HB6.out.f4
          obtain ⟨wF, hF⟩ : ∃ wF, wF = set4 w6 w.heap.size (.string ⟨#[]⟩) (.int .i64 0) (.slice none 0 0) (.slice none 0 0) := ⟨_, rfl⟩
          have hBF : Blk wF w.heap.size 27 #[.string ⟨#[]⟩, .int .i64 0, .slice none 0 0, .slice none 0 0] := by rw [hF]; exact (((HB6.out.set_ 0 _).set_ 1 _).set_ 2 _).set_ 3 _
          obtain ⟨z0, z1, z2, z3⟩ := hBF.c2
          have HQ := Lib.hid (show ReadS ks s w (.returned (.tuple #[.agg #[.string ⟨#[]⟩, .int .i64 0, .slice none 0 0, .slice none 0 0], .bool false])) wF from
            ⟨by rw [hF]; exact (((HE6.out.setCell (Nat.le_refl _) _).setCell (Nat.le_refl _) _).setCell (Nat.le_refl _) _).setCell (Nat.le_refl _) _, .inr ⟨rfl, HNo.out⟩⟩)
          unfold set4 at hF
          clear hBF
          go_wp2_with fail
          rw [← hF]
          exact bodyPost_ret (v := .tuple #[.agg #[.string ⟨#[]⟩, .int .i64 0, .slice none 0 0, .slice none 0 0], .bool false]) (by simp [results, Tryd.results15, go_sem, z0, z1, z2, z3]) rfl HQ.out
        | true =>
          have Heq := Lib.hid heq
          obtain ⟨t0, t1, t2, t3⟩ := HX6.out.c2
          obtain ⟨y0, y1, y2, y3⟩ := HB6.out.c2
          obtain ⟨f0, f1, f2, f3⟩ := HB6.out.f4
          obtain ⟨wF, hF⟩ : ∃ wF, wF = set4 w6 w.heap.size (.string v.ty) (.int .i64 v.n) (.slice A v.parts.length cA) (.slice none 0 0) := ⟨_, rfl⟩
          have hBF : Blk wF w.heap.size 27 #[.string v.ty, .int .i64 v.n, .slice A v.parts.length cA, .slice none 0 0] := by rw [hF]; exact (((HB6.out.set_ 0 _).set_ 1 _).set_ 2 _).set_ 3 _
          have hkF : ∀ b', b' ≠ w.heap.size → wF.heap[b']? = w6.heap[b']? := fun b' h => by rw [hF]; exact set4at_far (o := 0) h
          have hsF : wF.heap.size = w6.heap.size := by rw [hF]; simp [World.setCell]
          obtain ⟨z0, z1, z2, z3⟩ := hBF.c2
          have HQ := Lib.hid (show ReadS ks s w (.returned (.tuple #[.agg #[.string v.ty, .int .i64 v.n, .slice A v.parts.length cA, .slice none 0 0], .bool true])) wF from
            ⟨by rw [hF]; exact (((HE6.out.setCell (Nat.le_refl _) _).setCell (Nat.le_refl _) _).setCell (Nat.le_refl _) _).setCell (Nat.le_refl _) _, .inl ⟨d, v, A, cA, rfl, Hp.out, Hkk.out.1, Hkk.out.2, by
              have := Heq.out
              rw [beq_iff_eq, toList_data, toList_data] at this
              exact this, (HV6.out.keep fun b hb => hkF b (by omega)).mono fun b hb => ⟨by omega, by omega⟩⟩⟩)
          unfold set4 at hF
          clear hBF hkF hsF
          go_wp2_with fail
          rw [← hF]
          exact bodyPost_ret (v := .tuple #[.agg #[.string v.ty, .int .i64 v.n, .slice A v.parts.length cA, .slice none 0 0], .bool true]) (by simp [results, Tryd.results15, go_sem, z0, z1, z2, z3]) rfl HQ.out
    · have b0 : ((i' : Int) != (s.size : Int)) = true := by rw [bne_iff_ne]; omega
      have HNo := Lib.hid (show ∀ (d : Nat) (v : Val), kindsOk ks = true → okV ks (d + 1) v = true → lOf (textV (d + 1)) v ≠ s.data.toList from fun D u hk hu ht => by
        obtain ⟨_, _, h⟩ := HG.out hk D u [] hu (by rw [ht]; simp [tl]) Ends.nil.for_
        have := congrArg List.length h
        simp [tl] at this
        omega)
      clear hlt
      obtain ⟨y0, y1, y2, y3⟩ := HB4.out.c2
      obtain ⟨f0, f1, f2, f3⟩ := HB4.out.f4
      obtain ⟨wF, hF⟩ : ∃ wF, wF = set4 w4 w.heap.size (.string ⟨#[]⟩) (.int .i64 0) (.slice none 0 0) (.slice none 0 0) := ⟨_, rfl⟩
      have hBF : Blk wF w.heap.size 27 #[.string ⟨#[]⟩, .int .i64 0, .slice none 0 0, .slice none 0 0] := by rw [hF]; exact (((HB4.out.set_ 0 _).set_ 1 _).set_ 2 _).set_ 3 _
      obtain ⟨z0, z1, z2, z3⟩ := hBF.c2
      have HQ := Lib.hid (show ReadS ks s w (.returned (.tuple #[.agg #[.string ⟨#[]⟩, .int .i64 0, .slice none 0 0, .slice none 0 0], .bool false])) wF from
        ⟨by rw [hF]; exact (((HE4.out.setCell (Nat.le_refl _) _).setCell (Nat.le_refl _) _).setCell (Nat.le_refl _) _).setCell (Nat.le_refl _) _, .inr ⟨rfl, HNo.out⟩⟩)
      unfold set4 at hF
      clear hBF
      go_wp2_with fail
      rw [← hF]
      exact bodyPost_ret (v := .tuple #[.agg #[.string ⟨#[]⟩, .int .i64 0, .slice none 0 0, .slice none 0 0], .bool false]) (by simp [results, Tryd.results15, go_sem, z0, z1, z2, z3]) rfl HQ.out
end Go.Proofs.YtelhjdccfomafaaDoor

namespace Go.Proofs.YtelhjdccfomafaaDoor
open Go.RowKit

def zeroV : Val := .mk ⟨#[]⟩ 0 [] []
/-- An answer of ValueRead. -/
def AnsD (ks : Ks) (s : ByteArray) (D : Nat) (b : Bool) (v : Val) : Prop :=
  (b = true ∧ kindsOk ks = true ∧ okV ks (D + 1) v = true ∧ lOf (textV (D + 1)) v = s.data.toList) ∨
  (b = false ∧ v = zeroV ∧ ∀ (d : Nat) (u : Val), kindsOk ks = true → okV ks (d + 1) u = true → lOf (textV (d + 1)) u ≠ s.data.toList)

theorem VRd.deep {d e : Nat} (h : d ≤ e) {F : Nat → Prop} {w : World} {a p : Value} {v : Val} (hv : VRd (Cod.val d) F w a p v) : VRd (Cod.val e) F w a p v :=
  ⟨hv.ty, hv.n, hv.parts.imp (by rw [val_size, val_size]) fun hr => val_le h hr, hv.path⟩

theorem ok_idx {ks : Ks} (hok : kindsOk ks = true) : ∀ (n d : Nat) (v : Val), idx v.ty ≤ n → okV ks d v = true → okV ks (n + 1) v = true
  | n, 0, _, _, h => by cases h
  | n, d + 1, v, hn, h => by
    have hu : okOf ks (okV ks d) v = true := h
    refine okOf_imp (f := okV ks d) (g := okV ks n) hu fun x hx hD => ?_
    by_cases hb : (v.ty.toList == [110]) = true ∨ (v.ty.toList == [98]) = true ∨ (v.ty.toList == [111]) = true
    · rw [(base_plain hu hb).1] at hx; cases hx
    · have c1 : (v.ty.toList == [110]) = false := by cases h1 : (v.ty.toList == [110]) with | false => rfl | true => exact absurd (.inl h1) hb
      have c2 : (v.ty.toList == [98]) = false := by cases h1 : (v.ty.toList == [98]) with | false => rfl | true => exact absurd (.inr (.inl h1)) hb
      have c3 : (v.ty.toList == [111]) = false := by cases h1 : (v.ty.toList == [111]) with | false => rfl | true => exact absurd (.inr (.inr h1)) hb
      obtain ⟨m, k, hk, hh, _, _, a5, _, a6, _⟩ := okOf_parts hu c1 c2 c3
      have hi : idx v.ty = 3 * m + k + 1 := by unfold idx; rw [hk]
      obtain ⟨j, hj, rfl⟩ := List.mem_iff_getElem.1 hx
      have h3 := idx_field hok hh (List.getElem_mem (show j < (recAt ks m k).fields.length by omega))
      rw [← ext_toList (a6 j hj (by omega)).1] at h3
      cases n with
      | zero => omega
      | succ n => exact ok_idx hok n d _ (by omega) hD
theorem ok_41 {ks : Ks} (hok : kindsOk ks = true) {d : Nat} {v : Val} (h : okV ks (d + 1) v = true) : okV ks 41 v = true := by
  have h1 := ok_idx hok 9 (d + 1) v (idx_le hok (known_ok h)) h
  exact (okV_up ks 10 v h1 31).1

theorem AnsD.same {ks : Ks} {s : ByteArray} {D E : Nat} {b c : Bool} {u v : Val} (h : AnsD ks s D b u) (k : AnsD ks s E c v) : b = c ∧ u = v := by
  rcases h with ⟨rfl, h1, h2, h3⟩ | ⟨rfl, h1, h2⟩ <;> rcases k with ⟨rfl, k1, k2, k3⟩ | ⟨rfl, k1, k2⟩
  · refine ⟨rfl, ?_⟩
    have hu := ok_41 h1 h2
    have hv := ok_41 k1 k2
    have eu : tl s 0 = lOf (textV 41) u ++ [] := by rw [show lOf (textV 41) u = lOf (textV (D + 1)) u by unfold lOf; rw [text_depth hu h2], h3]; simp [tl]
    have ev : tl s 0 = lOf (textV 41) v ++ [] := by rw [show lOf (textV 41) v = lOf (textV (E + 1)) v by unfold lOf; rw [text_depth hv k2], k3]; simp [tl]
    exact (text_inj ks 41 u v [] [] hu hv ((ahead_ty hu eu).trans (ahead_ty hv ev).symm) (eu.symm.trans ev) Ends.nil.for_ Ends.nil.for_).1
  · exact absurd h3 (k2 D u h1 h2)
  · exact absurd k3 (h2 E v k1 k2)
  · exact ⟨rfl, h1.trans k1.symm⟩

theorem zeroV_rd (F : Nat → Prop) (w : World) (d : Nat) : VRd (Cod.val d) F w (.slice none 0 0) (.slice none 0 0) zeroV :=
  ⟨by show (0 : Nat) ≤ maxLen; exact Nat.zero_le _, by show I64 0; unfold I64; omega, Cod.Sl.nil_, Cod.Sl.nil_⟩
theorem zeroV_ov (d lo hi : Nat) (h : lo ≤ hi) (w : World) : OV (OCod.val 27 3 d) 27 3 lo hi w (.slice none 0 0) (.slice none 0 0) zeroV :=
  ⟨by show (0 : Nat) ≤ maxLen; exact Nat.zero_le _, by show I64 0; unfold I64; omega, lo, Nat.le_refl _, h, ⟨none, 0, rfl, Nat.le_refl _, Nat.zero_le _, fun h => absurd h (by simp [zeroV, Val.parts])⟩, ⟨none, 0, rfl, Nat.le_refl _, Nat.zero_le _, fun h => absurd h (by simp [zeroV, Val.path])⟩⟩

/-- The program's answer, one form. -/
def AnsE (ks : Ks) (s : ByteArray) (w : World) (e : Ending) (w' : World) : Prop :=
  Below w.heap.size w w' ∧ ∃ (b : Bool) (v : Val) (A : Option Addr) (cA : Nat), e = .returned (.tuple #[.agg #[.string v.ty, .int .i64 v.n, .slice A v.parts.length cA, .slice none 0 0], .bool b]) ∧ v.path = [] ∧ AnsD ks s 40 b v ∧
    OV (OCod.val 27 3 40) 27 3 w.heap.size w'.heap.size w' (.slice A v.parts.length cA) (.slice none 0 0) v
theorem ReadE.ans {ks : Ks} {s : ByteArray} {w w' : World} {e : Ending} (h : ReadE ks s w e w') : AnsE ks s w e w' := by
  obtain ⟨hb, h⟩ := h
  refine ⟨hb, ?_⟩
  rcases h with ⟨v, A, cA, he, hp, hg, ho⟩ | ⟨he, hn⟩
  · exact ⟨true, v, A, cA, he, hp, .inl ⟨rfl, hg.1, hg.2.1, hg.2.2⟩, ho⟩
  · refine ⟨false, zeroV, none, 0, he, rfl, .inr ⟨rfl, rfl, fun d u hk hu ht => hn ⟨u, hk, ok_41 hk hu, ?_⟩⟩, zeroV_ov 40 _ _ hb.size w'⟩
    rw [← ht]
    unfold lOf
    rw [text_depth (ok_41 hk hu) hu]
/-- The model's answer, one form. -/
def AnsS (ks : Ks) (s : ByteArray) (w : World) (e : Ending) (w' : World) : Prop :=
  Below w.heap.size w w' ∧ ∃ (d : Nat) (b : Bool) (v : Val) (A : Option Addr) (cA : Nat), e = .returned (.tuple #[.agg #[.string v.ty, .int .i64 v.n, .slice A v.parts.length cA, .slice none 0 0], .bool b]) ∧ v.path = [] ∧ AnsD ks s d b v ∧
    VRd (Cod.val d) (Fresh w w') w' (.slice A v.parts.length cA) (.slice none 0 0) v
theorem ReadS.ans {ks : Ks} {s : ByteArray} {w w' : World} {e : Ending} (h : ReadS ks s w e w') : AnsS ks s w e w' := by
  obtain ⟨hb, h⟩ := h
  refine ⟨hb, ?_⟩
  rcases h with ⟨d, v, A, cA, he, hp, h1, h2, h3, h4⟩ | ⟨he, hn⟩
  · exact ⟨d, true, v, A, cA, he, hp, .inl ⟨rfl, h1, h2, h3⟩, h4⟩
  · exact ⟨0, false, zeroV, none, 0, he, rfl, .inr ⟨rfl, rfl, hn⟩, zeroV_rd _ _ 0⟩
theorem AnsD.marks {ks : Ks} {s : ByteArray} {b : Bool} {v : Val} (h : AnsD ks s 40 b v) : (mkTop (mkV 40) v 1).2 ≤ 100000000 := by
  rcases h with ⟨_, h1, h2, _⟩ | ⟨_, rfl, _⟩
  · exact marks_top h1 h2 (by decide)
  · show (1 : Nat) ≤ _; decide
end Go.Proofs.YtelhjdccfomafaaDoor
