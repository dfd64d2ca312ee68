/- Values: their texts; the model, whole. -/
import Derived.Test.YtemlpiokdoeeeaaDoorVt
import Derived.Test.YtemlpiokdoeeeaaDoorVn
namespace Go.Proofs.YtemlpiokdoeeeaaDoor
open Go.RowKit

/-- Texts with blanks between them, behind a text. -/
def joinT (f : Val → ByteArray) : Bool → List Val → ByteArray → ByteArray
  | _, [], acc => acc
  | true, x :: r, acc => joinT f false r (acc ++ f x)
  | false, x :: r, acc => joinT f false r ((acc ++ ⟨#[32]⟩) ++ f x)
def textOf (f : Val → ByteArray) (v : Val) : ByteArray :=
  if (v.ty.toList == [110]) = true then decBy v.n.toNat
  else if (v.ty.toList == [98]) = true then (if v.n = 0 then ⟨#[45]⟩ else ⟨#[43]⟩)
  else if (v.ty.toList == [111]) = true then ⟨#[64]⟩ ++ decBy v.n.toNat
  else joinT f true v.parts (v.ty ++ ⟨#[40]⟩) ++ ⟨#[41]⟩
def textV : Nat → Val → ByteArray
  | 0 => fun _ => ByteArray.empty
  | d + 1 => textOf (textV d)

theorem joinT_ge (f : Val → ByteArray) : ∀ (xs : List Val) (b : Bool) (acc : ByteArray), acc.size ≤ (joinT f b xs acc).size
  | [], b, acc => by cases b <;> exact Nat.le_refl _
  | x :: r, true, acc => by
    show _ ≤ (joinT f false r (acc ++ f x)).size
    have := joinT_ge f r false (acc ++ f x)
    rw [ByteArray.size_append] at this
    omega
  | x :: r, false, acc => by
    show _ ≤ (joinT f false r ((acc ++ ⟨#[32]⟩) ++ f x)).size
    have := joinT_ge f r false ((acc ++ ⟨#[32]⟩) ++ f x)
    rw [ByteArray.size_append, ByteArray.size_append] at this
    omega
theorem joinT_le (f : Val → ByteArray) (g : Val → Nat) : ∀ (xs : List Val) (b : Bool) (acc : ByteArray), (∀ x ∈ xs, (f x).size ≤ g x) → (joinT f b xs acc).size ≤ acc.size + (xs.map g).sum + xs.length
  | [], b, acc, _ => by cases b <;> simp [joinT]
  | x :: r, true, acc, h => by
    show (joinT f false r (acc ++ f x)).size ≤ _
    have h1 := joinT_le f g r false (acc ++ f x) fun y hy => h y (List.mem_cons_of_mem _ hy)
    have h2 := h x List.mem_cons_self
    rw [ByteArray.size_append] at h1
    simp only [List.map_cons, List.sum_cons, List.length_cons]
    omega
  | x :: r, false, acc, h => by
    show (joinT f false r ((acc ++ ⟨#[32]⟩) ++ f x)).size ≤ _
    have h1 := joinT_le f g r false ((acc ++ ⟨#[32]⟩) ++ f x) fun y hy => h y (List.mem_cons_of_mem _ hy)
    have h2 := h x List.mem_cons_self
    rw [ByteArray.size_append, ByteArray.size_append] at h1
    have : (⟨#[32]⟩ : ByteArray).size = 1 := rfl
    simp only [List.map_cons, List.sum_cons, List.length_cons]
    omega
theorem joinT_step {f : Val → ByteArray} {xs : List Val} {j : Nat} {acc R : ByteArray} (hj : j < xs.length) (h : joinT f (decide (j = 0)) (xs.drop j) acc = R) :
    joinT f (decide (j + 1 = 0)) (xs.drop (j + 1)) ((if j = 0 then acc else acc ++ ⟨#[32]⟩) ++ f xs[j]) = R := by
  rw [drop_cons hj] at h
  rw [show decide (j + 1 = 0) = false from decide_eq_false (by omega)]
  by_cases h0 : j = 0
  · rw [decide_eq_true h0] at h; rw [if_pos h0]; exact h
  · rw [decide_eq_false h0] at h; rw [if_neg h0]; exact h
theorem joinT_end {f : Val → ByteArray} {xs : List Val} {j : Nat} {acc R : ByteArray} {b : Bool} (hj : j = xs.length) (h : joinT f b (xs.drop j) acc = R) : acc = R := by
  rw [hj, List.drop_length] at h
  cases b <;> exact h
theorem joinT_room {f : Val → ByteArray} {xs : List Val} {j : Nat} {acc R : ByteArray} (hj : j < xs.length) (h : joinT f (decide (j = 0)) (xs.drop j) acc = R) : acc.size + (f xs[j]).size + (if j = 0 then 0 else 1) ≤ R.size := by
  have h1 := joinT_step hj h
  have h2 := joinT_ge f (xs.drop (j + 1)) (decide (j + 1 = 0)) ((if j = 0 then acc else acc ++ ⟨#[32]⟩) ++ f xs[j])
  rw [h1, ByteArray.size_append] at h2
  split at h2
  · rename_i h0; rw [if_pos h0]; omega
  · rename_i h0
    rw [if_neg h0]
    rw [ByteArray.size_append] at h2
    have : (⟨#[32]⟩ : ByteArray).size = 1 := rfl
    omega

theorem okOf_num {ks : Ks} {g : Val → Bool} {v : Val} (h : okOf ks g v = true) (c : (v.ty.toList == [110]) = true) : 0 ≤ v.n ∧ v.n ≤ 1000000 := by
  unfold okOf at h
  rw [if_pos c] at h
  unfold inB at h
  simp only [Bool.and_eq_true, decide_eq_true_eq] at h
  exact h.2
theorem okOf_tru {ks : Ks} {g : Val → Bool} {v : Val} (h : okOf ks g v = true) (c1 : (v.ty.toList == [110]) = false) (c : (v.ty.toList == [98]) = true) : 0 ≤ v.n ∧ v.n ≤ 1 := by
  unfold okOf at h
  rw [if_neg (by simp [c1]), if_pos c] at h
  unfold inB at h
  simp only [Bool.and_eq_true, decide_eq_true_eq] at h
  exact h.2
theorem okOf_own {ks : Ks} {g : Val → Bool} {v : Val} (h : okOf ks g v = true) (c1 : (v.ty.toList == [110]) = false) (c2 : (v.ty.toList == [98]) = false) (c : (v.ty.toList == [111]) = true) : 0 ≤ v.n ∧ v.n ≤ 3 := by
  unfold okOf at h
  rw [if_neg (by simp [c1]), if_neg (by simp [c2]), if_pos c] at h
  unfold inB at h
  simp only [Bool.and_eq_true, decide_eq_true_eq] at h
  exact h.2
theorem okOf_parts {ks : Ks} {g : Val → Bool} {v : Val} (h : okOf ks g v = true) (c1 : (v.ty.toList == [110]) = false) (c2 : (v.ty.toList == [98]) = false) (c3 : (v.ty.toList == [111]) = false) :
    ∃ m k, kindOf v.ty = some (m, k) ∧ hasB ks m k = true ∧ v.n = 0 ∧ v.path.length = 0 ∧ v.parts.length = (recAt ks m k).fields.length ∧ v.ty.size = 3 ∧
      (∀ j (hj : j < v.parts.length) (hf : j < (recAt ks m k).fields.length), v.parts[j].ty.toList = (recAt ks m k).fields[j].toList ∧ g v.parts[j] = true) ∧ ∀ x ∈ v.parts, g x = true := by
  unfold okOf at h
  rw [if_neg (by simp [c1]), if_neg (by simp [c2]), if_neg (by simp [c3])] at h
  split at h
  · cases h
  · rename_i m k hk
    simp only [Bool.and_eq_true, decide_eq_true_eq, List.all_eq_true] at h
    obtain ⟨⟨⟨⟨h1, h2⟩, h3⟩, h4⟩, h5⟩ := h
    have hj : ∀ j (hj : j < v.parts.length) (hf : j < (recAt ks m k).fields.length), v.parts[j].ty.toList = (recAt ks m k).fields[j].toList ∧ g v.parts[j] = true := fun j hj hf => by
      have hm : (v.parts[j], (recAt ks m k).fields[j]) ∈ v.parts.zip (recAt ks m k).fields := by
        rw [List.mem_iff_getElem]
        exact ⟨j, by rw [List.length_zip]; omega, List.getElem_zip⟩
      obtain ⟨q1, q2⟩ := h5 _ hm
      exact ⟨by simpa using q1, q2⟩
    refine ⟨m, k, hk, h1, h2, h3, h4, ?_, hj, fun x hx => ?_⟩
    · unfold kindOf at hk
      split at hk
      · assumption
      · cases hk
    · obtain ⟨j, hjl, rfl⟩ := List.mem_iff_getElem.1 hx
      exact (hj j hjl (by omega)).2

/-- The text of a value is short. -/
theorem text_le {ks : Ks} {f : Val → ByteArray} {g : Val → Bool} {s : Val → Int} (hs : ∀ x, 0 ≤ s x) (hf : ∀ x, g x = true → ((f x).size : Int) + 4 ≤ 14 * s x) (v : Val) (h : okOf ks g v = true) : ((textOf f v).size : Int) + 4 ≤ 14 * sizeOf' (fun _ => 1) s v := by
  have hp := sumL_pos hs v.parts
  have hsz : sizeOf' (fun _ => 1) s v = 1 + sumL s v.parts := rfl
  rw [hsz]
  unfold textOf
  by_cases c1 : (v.ty.toList == [110]) = true
  · rw [if_pos c1]
    have := okOf_num h c1
    have := size_decBy 6 v.n.toNat (by omega)
    omega
  · rw [if_neg c1]
    by_cases c2 : (v.ty.toList == [98]) = true
    · rw [if_pos c2]
      split
      · have : (⟨#[45]⟩ : ByteArray).size = 1 := rfl
        omega
      · have : (⟨#[43]⟩ : ByteArray).size = 1 := rfl
        omega
    · rw [if_neg c2]
      by_cases c3 : (v.ty.toList == [111]) = true
      · rw [if_pos c3, ByteArray.size_append]
        have := okOf_own h (by simpa using c1) (by simpa using c2) c3
        have := size_decBy 6 v.n.toNat (by omega)
        have : (⟨#[64]⟩ : ByteArray).size = 1 := rfl
        omega
      · rw [if_neg c3, ByteArray.size_append]
        obtain ⟨m, k, _, _, _, _, _, hty, _, hall⟩ := okOf_parts h (by simpa using c1) (by simpa using c2) (by simpa using c3)
        have h1 := joinT_le f (fun x => (14 * s x - 4).toNat) v.parts true (v.ty ++ ⟨#[40]⟩) fun x hx => by have := hf x (hall x hx); omega
        rw [ByteArray.size_append] at h1
        have e1 : (⟨#[40]⟩ : ByteArray).size = 1 := rfl
        have e2 : (⟨#[41]⟩ : ByteArray).size = 1 := rfl
        have h2 : ∀ xs : List Val, (∀ x ∈ xs, g x = true) → (((xs.map fun x => (14 * s x - 4).toNat).sum : Nat) : Int) + 4 * xs.length = 14 * sumL s xs := by
          intro xs
          induction xs with
          | nil => intro _; rfl
          | cons x r ih =>
            intro hx
            have i1 := ih fun y hy => hx y (List.mem_cons_of_mem _ hy)
            have i2 := hf x (hx x List.mem_cons_self)
            simp only [List.map_cons, List.sum_cons, List.length_cons, sumL]
            omega
        have h3 := h2 v.parts hall
        omega
theorem textV_le {ks : Ks} : ∀ (d : Nat) (x : Val), okV ks d x = true → ((textV d x).size : Int) + 4 ≤ 14 * sizeV d x
  | 0, _, h => by cases h
  | d + 1, x, h => text_le (sizeV_pos d) (textV_le d) x h

def TxC (ks : Ks) (c : Cod Val) (f : Val → ByteArray) (g : Val → Bool) : Prop := ∀ (F : Nat → Prop) (A B : Option Addr) (n m cA cB : Nat) (v : Val) (w : World), VRd c F w (.slice A n cA) (.slice B m cB) v → (∀ b, F b → b < w.heap.size) → okOf ks g v = true → (textOf f v).size ≤ 100000000 →
    Calls Tryd.prog 16 #[.agg #[.string v.ty, .int .i64 v.n, .slice A n cA, .slice B m cB]] w fun e w' => e = .returned (.string (textOf f v)) ∧ Below w.heap.size w w'

set_option maxRecDepth 100000 in
set_option maxHeartbeats 4000000 in
theorem l2Text_of {ks : Ks} {c e : Cod Val} {f f' : Val → ByteArray} {g g' : Val → Bool} (hc : IsVal c e) (IH : HasEl c → TxC ks e f' g' ∧ f = textOf f' ∧ g = okOf ks g') : TxC ks c f g := by
  intro F A B n m cA cB v w h hF hok hm
  have HV := Lib.hid h
  have IHH := Lib.hid (fun hp : 0 < v.parts.length => IH ⟨F, w, _, v.parts, h.parts, hp⟩)
  obtain ⟨A', cA', hA, hA1, hA2, _⟩ := h.parts
  obtain ⟨B', cB', hB, hB1, hB2, _⟩ := h.path
  simp only [Value.slice.injEq] at hA hB
  obtain ⟨rfl, rfl, rfl⟩ := hA
  obtain ⟨rfl, rfl, rfl⟩ := hB
  have hty := h.ty
  unfold maxLen at hA2 hB2 hty
  have HB := Lib.hid (Blk.new w 47 #[.string v.ty, .int .i64 v.n, .slice A v.parts.length cA, .slice B v.path.length cB])
  clear h IH
  cases c1 : (v.ty.toList == [110])
  · cases c2 : (v.ty.toList == [98])
    · cases c3 : (v.ty.toList == [111])
      · obtain ⟨hty3, hall⟩ : v.ty.size = 3 ∧ ∀ x ∈ v.parts, g x = true := by
          obtain ⟨_, _, _, _, _, _, _, a, _, b⟩ := okOf_parts hok c1 c2 c3
          exact ⟨a, b⟩
        have hR : textOf f v = joinT f true v.parts (v.ty ++ ⟨#[40]⟩) ++ ⟨#[41]⟩ := by unfold textOf; rw [c1, c2, c3]; rfl
        have HR := Lib.hid hR
        have hm2 : (joinT f true v.parts (v.ty ++ ⟨#[40]⟩)).size + 1 ≤ 100000000 := by rw [hR, ByteArray.size_append] at hm; exact hm
        obtain ⟨T, hT⟩ : ∃ T, T = joinT f true v.parts (v.ty ++ ⟨#[40]⟩) := ⟨_, rfl⟩
        have HTT := Lib.hid hT
        rw [← hT] at hm2
        have HQ : Hid (joinT f true (v.parts.drop 0) (v.ty ++ ⟨#[40]⟩) = T) := by show _ = _; rw [hT]; rfl
        have Hall := Lib.hid hall
        have hs0 : (v.ty ++ ⟨#[40]⟩ : ByteArray).size ≤ 4 := by rw [ByteArray.size_append, hty3]; exact Nat.le_refl _
        have Hs0 := Lib.hid hs0
        have hty4 : v.ty.size ≤ 3 := by omega
        clear hR hm hok hT hall hs0 hty3
        go_enter Tryd.func16, Tryd.ntmps16
        go_wp2
        go_loopw [3, 4] (fun s i wr => ∃ (j : Nat) (acc : ByteArray), j ≤ v.parts.length ∧ i = .int .i64 j ∧ s = .string acc ∧ Hid (joinT f (decide (j = 0)) (v.parts.drop j) acc = T) ∧ Hid (Below (w.heap.size + 1) (w.alloc (.cells #[.string v.ty, .int .i64 v.n, .slice A v.parts.length cA, .slice B v.path.length cB] 47)) wr)) (fun _ i _ => v.parts.length - (intOf i).toNat)
        case atStart => exact ⟨0, _, Nat.zero_le _, rfl, rfl, HQ, Below.refl _ _⟩
        case round =>
          obtain ⟨j, acc, hj, rfl, rfl, HH1, HBe⟩ := hrel
          have hb := Lib.hid (((Below.refl w.heap.size w).alloc (Nat.le_refl _) (.cells #[.string v.ty, .int .i64 v.n, .slice A v.parts.length cA, .slice B v.path.length cB] 47)).trans (HBe.out.mono (by simp)))
          have hws := hb.out.size
          have hw1 : w.heap.size + 1 ≤ wr.heap.size := by have := HBe.out.size; simp at this; omega
          obtain ⟨x0, x1, x2, x3⟩ := (HB.out.below HBe.out (by simp)).c2
          by_cases hlt : j < v.parts.length
          · obtain ⟨bp2, of2, cp2, A2, cA2, B2, cB2, hv, hFp, _, _, hp0, hp1, hp2, hp3, hV⟩ := (HV.out.parts.keep (below_keeps hb.out hF)).val_at hc hlt
            obtain ⟨rfl, rfl⟩ : A = some ⟨bp2, of2, none⟩ ∧ cA = cp2 := by simpa using hv
            have hrm := joinT_room hlt HH1.out
            have hst := joinT_step hlt HH1.out
            obtain ⟨ih1, ih2, ih3⟩ := IHH.out (by omega)
            have hfx := congrFun ih2 v.parts[j]
            have hgx := congrFun ih3 v.parts[j]
            have hgo := Hall.out v.parts[j] (List.getElem_mem hlt)
            rw [hfx] at hrm hst
            rw [hgx] at hgo
            have HGo := Lib.hid hgo
            have Hst := Lib.hid hst
            have IH1 := Lib.hid ih1
            have HVp := Lib.hid hV
            have HFr := Lib.hid (show ∀ b, F b → b < wr.heap.size from fun b h => Nat.lt_of_lt_of_le (hF b h) hws)
            have hfs : (textOf f' v.parts[j]).size ≤ 100000000 := by split at hrm <;> omega
            have has : acc.size ≤ 100000000 := by split at hrm <;> omega
            have hj0 : j = 0 ∨ j ≠ 0 := by omega
            clear hv hV hFp hst hfx hgx hgo ih1 ih2 ih3 hrm
            rcases hj0 with hj0 | hj0
            · rw [if_pos hj0] at Hst
              have b0 : decide ((0 : Int) < (j : Int)) = false := decide_eq_false (by omega)
              have b1 : decide (0 < j) = false := decide_eq_false (by omega)
              have i0 : (0 : Int) ≤ j := by omega
              have i1 : (j : Int) < v.parts.length := by omega
              have i2 : ¬ (0 : Int) < (j : Int) := by omega
              clear hj0
              go_wp2_with fail
              refine (IH1.out F _ _ _ _ _ _ v.parts[j] wr HVp.out HFr.out HGo.out hfs).mono ?_
              rintro e' w2 ⟨rfl, hb2⟩
              have HBn := Lib.hid (HBe.out.trans (hb2.mono hw1))
              clear hb2
              go_wp2
              go_roundw
              case rel => exact ⟨j + 1, _, by omega, by go_num, rfl, Hst, HBn⟩
              case measure => simp [intOf]; omega
            · rw [if_neg hj0] at Hst
              have i0 : (0 : Int) ≤ j := by omega
              have i1 : (j : Int) < v.parts.length := by omega
              have i2 : (0 : Int) < (j : Int) := by omega
              have b1 : decide (0 < j) = true := decide_eq_true (by omega)
              have hac : (acc ++ ⟨#[32]⟩ : ByteArray).size ≤ 100000001 := by rw [ByteArray.size_append]; show _ + 1 ≤ _; omega
              clear hj0
              go_wp2_with fail
              refine (IH1.out F _ _ _ _ _ _ v.parts[j] wr HVp.out HFr.out HGo.out hfs).mono ?_
              rintro e' w2 ⟨rfl, hb2⟩
              have HBn := Lib.hid (HBe.out.trans (hb2.mono hw1))
              clear hb2
              go_wp2
              go_roundw
              case rel => exact ⟨j + 1, _, by omega, by go_num, rfl, Hst, HBn⟩
              case measure => simp [intOf]; omega
          · have HE := Lib.hid (joinT_end (by omega) HH1.out)
            have has : acc.size ≤ 100000000 := by rw [HE.out]; omega
            go_wp2
            go_ret
            exact ⟨ret_str (by rw [HR.out, ← HTT.out, HE.out]), hb.out⟩
      · obtain ⟨n0, n1⟩ := okOf_own hok c1 c2 c3
        have HR : Hid (textOf f v = ⟨#[64]⟩ ++ decBy v.n.toNat) := by show _ = _; unfold textOf; rw [c1, c2, c3]; rfl
        obtain ⟨nn, hnn⟩ : ∃ nn : Nat, v.n = nn := ⟨v.n.toNat, by omega⟩
        have HD := Lib.hid (show ∀ W : World, Calls Tryd.prog 15 #[.int .i64 v.n] W fun e w' => e = .returned (.string (decBy v.n.toNat)) ∧ Below W.heap.size W w' from fun W => by rw [hnn, Int.toNat_natCast]; exact dec_full nn W (by omega))
        have hsz := size_decBy 8 v.n.toNat (by omega)
        clear hok hm hnn
        go_enter Tryd.func16, Tryd.ntmps16
        go_wp2_with (go_at_call 15; refine (HD.out _).mono ?_; rintro e w1 ⟨rfl, hb1⟩)
        go_ret
        exact ⟨ret_str HR.out.symm, ((Below.refl _ _).alloc (Nat.le_refl _) _).trans (hb1.mono (by simp))⟩
    · obtain ⟨n0, n1⟩ := okOf_tru hok c1 c2
      have HR : Hid (textOf f v = if v.n = 0 then ⟨#[45]⟩ else ⟨#[43]⟩) := by show _ = _; unfold textOf; rw [c1, c2]; rfl
      by_cases hn0 : v.n = 0
      · have HR0 : Hid (textOf f v = ⟨#[45]⟩) := by show _ = _; rw [HR.out, if_pos hn0]
        clear hok hm n0 n1
        go_enter Tryd.func16, Tryd.ntmps16
        go_wp2
        go_ret
        exact ⟨ret_str HR0.out.symm, ((Below.refl _ _).alloc (Nat.le_refl _) _).alloc (by simp) _⟩
      · have HR0 : Hid (textOf f v = ⟨#[43]⟩) := by show _ = _; rw [HR.out, if_neg hn0]
        have hn1 : v.n = 1 := by omega
        clear hok hm n0 n1 hn0
        go_enter Tryd.func16, Tryd.ntmps16
        go_wp2
        go_ret
        exact ⟨ret_str HR0.out.symm, ((Below.refl _ _).alloc (Nat.le_refl _) _).alloc (by simp) _⟩
  · obtain ⟨n0, n1⟩ := okOf_num hok c1
    have HR : Hid (textOf f v = decBy v.n.toNat) := by show _ = _; unfold textOf; rw [c1]; rfl
    obtain ⟨nn, hnn⟩ : ∃ nn : Nat, v.n = nn := ⟨v.n.toNat, by omega⟩
    have HD := Lib.hid (show ∀ W : World, Calls Tryd.prog 15 #[.int .i64 v.n] W fun e w' => e = .returned (.string (decBy v.n.toNat)) ∧ Below W.heap.size W w' from fun W => by rw [hnn, Int.toNat_natCast]; exact dec_full nn W (by omega))
    clear hok hm hnn
    go_enter Tryd.func16, Tryd.ntmps16
    go_wp2_with (go_at_call 15; refine (HD.out _).mono ?_; rintro e w1 ⟨rfl, hb1⟩)
    go_ret
    exact ⟨ret_str HR.out.symm, ((Below.refl _ _).alloc (Nat.le_refl _) _).trans (hb1.mono (by simp))⟩

theorem l2Text_any (ks : Ks) : ∀ d, TxC ks (Cod.val d) (textV d) (okV ks d)
  | 0 => l2Text_of (e := Cod.no) (f' := fun _ => ByteArray.empty) (g' := fun _ => false) (IsVal.zero _) fun h => absurd h no_el
  | d + 1 => l2Text_of (IsVal.of _) fun _ => ⟨l2Text_any ks d, rfl, rfl⟩

/-- The text of a value of kinds, the empty one of none. -/
def textVal (ks : Ks) (d : Nat) (v : Val) : ByteArray := if valOk ks d v = true then textOf (textV d) v else ByteArray.empty
theorem textVal_le {ks : Ks} {d : Nat} {v : Val} (h : valOk ks d v = true) (hm : sizeOf' (fun _ => 1) (sizeV d) v ≤ 2000000) : (textOf (textV d) v).size ≤ 100000000 := by
  unfold valOk at h
  simp only [Bool.and_eq_true] at h
  have := textV_le (ks := ks) (d + 1) v h.2
  have e : sizeV (d + 1) v = sizeOf' (fun _ => 1) (sizeV d) v := rfl
  have e2 : textV (d + 1) v = textOf (textV d) v := rfl
  rw [e, e2] at this
  omega
end Go.Proofs.YtemlpiokdoeeeaaDoor
