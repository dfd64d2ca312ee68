/- The functions that reckon sizes, at values. -/
import Derived.Test.YtjmdhjnfekpklaaDoorSz
import Derived.Test.YtjmdhjnfekpklaaDoorVal
namespace Go.Proofs.YtjmdhjnfekpklaaDoor
open Go.RowKit

def szI (xs : List Int) (l : Int) : Int := if l - xs.length < 0 then -1 else l - xs.length
/-- The size of a value, its parts reckoned by f. -/
def szOf (f : Val → Int → Int) (v : Val) (l : Int) : Int :=
  if l - v.ty.size < 0 then -1 else if szS f v.parts (l - v.ty.size) < 0 then -1 else szI v.path (szS f v.parts (l - v.ty.size))
def szVal : Nat → Val → Int → Int
  | 0 => fun _ _ => -1
  | d + 1 => szOf (szVal d)

theorem szI_le (xs : List Int) (l : Int) (_ : 0 ≤ l) : szI xs l ≤ l := by unfold szI; split <;> omega
theorem szOf_le {f : Val → Int → Int} (hf : ∀ x l, 0 ≤ l → f x l ≤ l) (v : Val) (l : Int) (h : 0 ≤ l) : szOf f v l ≤ l := by
  unfold szOf
  split
  · omega
  · split
    · omega
    · have h1 := szS_le hf v.parts (l - v.ty.size) (by omega)
      have h2 := szI_le v.path (szS f v.parts (l - v.ty.size)) (by omega)
      omega
theorem szVal_le : ∀ (d : Nat) (v : Val) (l : Int), 0 ≤ l → szVal d v l ≤ l
  | 0, _, _, h => by unfold szVal; omega
  | d + 1, v, l, h => szOf_le (szVal_le d) v l h

set_option maxHeartbeats 400000 in
theorem szIntS_any (F : Nat → Prop) (v : Value) (xs : List Int) (left : Int) (w : World) (h : Cod.i64.Sl F w v xs) (h0 : 0 ≤ left) (h1 : left ≤ 2000000) :
    Calls Tryd.prog 14 #[v, .int .i64 left] w fun e w' => e = .returned (.int .i64 (szI xs left)) ∧ w = w' := by
  obtain ⟨A, cap, rfl, hlc, hcm, _⟩ := h
  unfold maxLen at hcm
  by_cases ht : left - xs.length < 0
  · have HR : Hid (szI xs left = -1) := by show _ = _; unfold szI; rw [if_pos ht]
    go_enter Tryd.func14, Tryd.ntmps14
    go_wp2
    go_ret
    exact ⟨ret_int HR.out.symm, rfl⟩
  · have HR : Hid (szI xs left = left - xs.length) := by show _ = _; unfold szI; rw [if_neg ht]
    go_enter Tryd.func14, Tryd.ntmps14
    go_wp2
    go_ret
    exact ⟨ret_int HR.out.symm, rfl⟩

def SzSC (c : Cod Val) (f : Val → Int → Int) : Prop := ∀ (F : Nat → Prop) (v : Value) (xs : List Val) (left : Int) (w : World), c.Sl F w v xs → (∀ b, F b → b < w.heap.size) → 0 ≤ left → left ≤ 2000000 →
    Calls Tryd.prog 13 #[v, .int .i64 left] w fun e w' => e = .returned (.int .i64 (szS f xs left)) ∧ Below w.heap.size w w'
def SzC (c : Cod Val) (f : Val → Int → Int) : Prop := ∀ (F : Nat → Prop) (A B : Option Addr) (n m cA cB : Nat) (v : Val) (left : Int) (w : World), VRd c F w (.slice A n cA) (.slice B m cB) v → (∀ b, F b → b < w.heap.size) → 0 ≤ left → left ≤ 2000000 →
    Calls Tryd.prog 5 #[.agg #[.string v.ty, .int .i64 v.n, .slice A n cA, .slice B m cB], .int .i64 left] w fun e w' => e = .returned (.int .i64 (szOf f v left)) ∧ Below w.heap.size w w'

set_option maxHeartbeats 1000000 in
theorem szValue_of {c : Cod Val} {f : Val → Int → Int} (hf : ∀ x l, 0 ≤ l → f x l ≤ l) (IH : SzSC c f) : SzC c f := by
  intro F A B n m cA cB v left w h hF h0 h1
  have HS := Lib.hid h
  have hty := h.ty
  unfold maxLen at hty
  have hsz : (w.alloc (.cells #[.string v.ty, .int .i64 v.n, .slice A n cA, .slice B m cB] 26)).heap.size = w.heap.size + 1 := by simp
  have Hsz := Lib.hid hsz
  have HB := Lib.hid (Blk.new w 26 #[.string v.ty, .int .i64 v.n, .slice A n cA, .slice B m cB])
  have HV := Lib.hid (HS.out.keep (w' := w.alloc (.cells #[.string v.ty, .int .i64 v.n, .slice A n cA, .slice B m cB] 26)) fun b hb => Below.heap_alloc _ _ _ (hF b hb))
  have IHH := Lib.hid IH
  clear h hsz IH
  by_cases hn : left - v.ty.size < 0
  · have HR : Hid (szOf f v left = -1) := by show _ = _; unfold szOf; rw [if_pos hn]
    go_enter Tryd.func5, Tryd.ntmps5
    go_wp2
    go_ret
    exact ⟨ret_int HR.out.symm, (Below.refl _ _).alloc (Nat.le_refl _) _⟩
  · have hle := szS_le hf v.parts (left - v.ty.size) (by omega)
    by_cases hn2 : szS f v.parts (left - v.ty.size) < 0
    · have HR : Hid (szOf f v left = -1) := by show _ = _; unfold szOf; rw [if_neg hn, if_pos hn2]
      go_enter Tryd.func5, Tryd.ntmps5
      go_wp2_with fail
      refine (IHH.out F _ v.parts _ _ HV.out.parts (fun b hb => by have := hF b hb; have := Hsz.out; omega) (by omega) (by omega)).mono ?_
      rintro e w1 ⟨rfl, hb1⟩
      go_wp2
      go_ret
      exact ⟨ret_int HR.out.symm, ((Below.refl _ _).alloc (Nat.le_refl _) _).trans (hb1.mono (by simp))⟩
    · have HR : Hid (szOf f v left = szI v.path (szS f v.parts (left - v.ty.size))) := by show _ = _; unfold szOf; rw [if_neg hn, if_neg hn2]
      have hle2 := szI_le v.path (szS f v.parts (left - v.ty.size)) (by omega)
      go_enter Tryd.func5, Tryd.ntmps5
      go_wp2_with fail
      refine (IHH.out F _ v.parts _ _ HV.out.parts (fun b hb => by have := hF b hb; have := Hsz.out; omega) (by omega) (by omega)).mono ?_
      rintro e w1 ⟨rfl, hb1⟩
      have hcs := (HB.out.below hb1 (by simp)).c2
      obtain ⟨c0, c1, c2, c3⟩ := hcs
      have HP := Lib.hid (HV.out.path.keep (below_keeps hb1 fun b hb => by have := hF b hb; have := Hsz.out; omega))
      go_wp2_with fail
      refine (szIntS_any F _ v.path _ _ HP.out (by omega) (by omega)).mono ?_
      rintro e w' ⟨rfl, rfl⟩
      have HE := Lib.hid (((Below.refl w.heap.size w).alloc (Nat.le_refl _) _).trans (hb1.mono (by simp)))
      clear hb1
      by_cases hn3 : szI v.path (szS f v.parts (left - v.ty.size)) < 0
      · have HR3 : Hid (szI v.path (szS f v.parts (left - v.ty.size)) = -1) := by
          show _ = _; unfold szI at hn3 ⊢; split at hn3
          · rename_i hx; rw [if_pos hx]
          · rename_i hx; omega
        go_wp2
        go_ret
        exact ⟨ret_int (by rw [HR.out, HR3.out]), HE.out⟩
      · go_wp2
        go_ret
        exact ⟨ret_int HR.out.symm, HE.out⟩

set_option maxRecDepth 100000 in
set_option maxHeartbeats 1000000 in
theorem szValueS_of {c e : Cod Val} {f : Val → Int → Int} (hc : IsVal c e) (hf : ∀ x l, 0 ≤ l → f x l ≤ l) {g : Val → Int → Int} (IH : HasEl c → SzC e g ∧ f = szOf g) : SzSC c f := by
  intro F v xs left w h hF h0 h1
  have HS := Lib.hid h
  have IHH := Lib.hid (fun hp : 0 < xs.length => IH ⟨F, w, v, xs, h, hp⟩)
  obtain ⟨A, cap, rfl, hlc, hcm, _⟩ := h
  unfold maxLen at hcm
  clear IH
  by_cases ht : left - xs.length < 0
  · go_enter Tryd.func13, Tryd.ntmps13
    go_wp2
    go_ret
    exact ⟨ret_int (szS_neg _ _ _ ht).symm, Below.refl _ _⟩
  · have HF := Lib.hid (szS_go f xs left ht)
    go_enter Tryd.func13, Tryd.ntmps13
    go_wp2
    go_loopw [1, 5] (fun l i wr => ∃ (k : Nat) (n : Int), k ≤ xs.length ∧ i = .int .i64 k ∧ l = .int .i64 n ∧ 0 ≤ n ∧ n ≤ 2000000 ∧ Hid (szList f (xs.drop k) n = szS f xs left) ∧ Below w.heap.size w wr) (fun _ i _ => xs.length - (intOf i).toNat)
    case atStart => exact ⟨0, _, Nat.zero_le _, rfl, rfl, by omega, by omega, HF.out, Below.refl _ _⟩
    case round =>
      obtain ⟨k, n, hk, rfl, rfl, hn0, hn1, HH, hb⟩ := hrel
      by_cases hlt : k < xs.length
      · have HSr := Lib.hid (HS.out.keep (below_keeps hb hF))
        obtain ⟨b, off, cap', A2, cA, B2, cB, hv, hFb, _, _, hc0, hc1, hc2, hc3, hV⟩ := HSr.out.val_at hc hlt
        obtain ⟨rfl, rfl⟩ : A = some ⟨b, off, none⟩ ∧ cap = cap' := by simpa using hv
        have hle := hf xs[k] n hn0
        have HV := Lib.hid hV
        have hsz := hb.size
        have hfx := (IHH.out (by omega)).2
        have IH2 := Lib.hid (IHH.out (by omega)).1
        have Hfx := Lib.hid (show f xs[k] n = szOf g xs[k] n by rw [hfx])
        clear hv hV hfx
        rw [Hfx.out] at hle
        by_cases hneg : szOf g xs[k] n < 0
        · go_wp2_with (go_at_call 5; refine (IH2.out F _ _ _ _ _ _ xs[k] n _ HV.out (fun b hb' => Nat.lt_of_lt_of_le (hF b hb') hsz) hn0 hn1).mono ?_; rintro e w' ⟨rfl, hb1⟩)
          go_ret
          exact ⟨ret_int (szList_stop hlt HH.out (by rw [Hfx.out]; exact hneg)), hb.trans (hb1.mono hsz)⟩
        · go_wp2_with (go_at_call 5; refine (IH2.out F _ _ _ _ _ _ xs[k] n _ HV.out (fun b hb' => Nat.lt_of_lt_of_le (hF b hb') hsz) hn0 hn1).mono ?_; rintro e w' ⟨rfl, hb1⟩)
          go_roundw
          case rel => exact ⟨k + 1, _, by omega, by go_num, rfl, by omega, by omega, by rw [← Hfx.out]; exact szList_step hlt HH.out (by rw [Hfx.out]; omega), hb.trans (hb1.mono hsz)⟩
          case measure => simp [intOf]; omega
      · go_wp2
        go_ret
        exact ⟨ret_int (szList_end (by omega) HH.out), hb⟩

theorem szValueS_any : ∀ d, SzSC (Cod.val d) (szVal d)
  | 0 => szValueS_of (e := Cod.no) (g := fun _ _ => 0) (IsVal.zero _) (szVal_le 0) fun h => absurd h no_el
  | d + 1 => szValueS_of (IsVal.of _) (szVal_le (d + 1)) fun _ => ⟨szValue_of (szVal_le d) (szValueS_any d), rfl⟩
theorem szValue_any (d : Nat) : SzC (Cod.val d) (szVal d) := szValue_of (szVal_le d) (szValueS_any d)
end Go.Proofs.YtjmdhjnfekpklaaDoor
