/- The functions that reckon sizes, at values. The functions that copy arguments, at values: what they hand back is new, and reads as what came in. The functions that compare, at values: where both sides read as the same, they answer true. -/
import Derived.Test.YthkdkefkgmmoiaaSz
import Derived.Test.YthkdkefkgmmoiaaVal
import Derived.Test.YthkdkefkgmmoiaaTo
import Derived.Test.YthkdkefkgmmoiaaEq
namespace Go.Proofs.Ythkdkefkgmmoiaa
open Go.RowKit

def szI (xs : List Int) (l : Int) : Int := if l - xs.length < 0 then -1 else l - xs.length
/-- The size of a value, its parts reckoned by f. -/
def szOf (f : Val → Int → Int) (v : Val) (l : Int) : Int :=
  if l - v.ty.size < 0 then -1 else if szS f v.parts (l - v.ty.size) < 0 then -1 else szI v.path (szS f v.parts (l - v.ty.size))
def szVal : Nat → Val → Int → Int
  | 0 => fun _ _ => -1
  | d + 1 => szOf (szVal d)

theorem szI_le (xs : List Int) (l : Int) (_ : 0 ≤ l) : szI xs l ≤ l := by unfold szI; split <;> omega
theorem szOf_le {f : Val → Int → Int} (hf : ∀ x l, 0 ≤ l → f x l ≤ l) (v : Val) (l : Int) (h : 0 ≤ l) : szOf f v l ≤ l := by
  unfold szOf
  split
  · omega
  · split
    · omega
    · have h1 := szS_le hf v.parts (l - v.ty.size) (by omega)
      have h2 := szI_le v.path (szS f v.parts (l - v.ty.size)) (by omega)
      omega
theorem szVal_le : ∀ (d : Nat) (v : Val) (l : Int), 0 ≤ l → szVal d v l ≤ l
  | 0, _, _, h => by unfold szVal; omega
  | d + 1, v, l, h => szOf_le (szVal_le d) v l h

set_option maxHeartbeats 400000 in
theorem szIntS_any (F : Nat → Prop) (v : Value) (xs : List Int) (left : Int) (w : World) (h : Cod.i64.Sl F w v xs) (h0 : 0 ≤ left) (h1 : left ≤ 2000000) :
    Calls Try.prog 89 #[v, .int .i64 left] w fun e w' => e = .returned (.int .i64 (szI xs left)) ∧ w = w' := by
  obtain ⟨A, cap, rfl, hlc, hcm, _⟩ := h
  unfold maxLen at hcm
  by_cases ht : left - xs.length < 0
  · have HR : Hid (szI xs left = -1) := by show _ = _; unfold szI; rw [if_pos ht]
    go_enter Try.func89, Try.ntmps89
    go_wp2
    go_ret
    exact ⟨ret_int HR.out.symm, rfl⟩
  · have HR : Hid (szI xs left = left - xs.length) := by show _ = _; unfold szI; rw [if_neg ht]
    go_enter Try.func89, Try.ntmps89
    go_wp2
    go_ret
    exact ⟨ret_int HR.out.symm, rfl⟩

def SzSC (c : Cod Val) (f : Val → Int → Int) : Prop := ∀ (F : Nat → Prop) (v : Value) (xs : List Val) (left : Int) (w : World), c.Sl F w v xs → (∀ b, F b → b < w.heap.size) → 0 ≤ left → left ≤ 2000000 →
    Calls Try.prog 88 #[v, .int .i64 left] w fun e w' => e = .returned (.int .i64 (szS f xs left)) ∧ Below w.heap.size w w'
def SzC (c : Cod Val) (f : Val → Int → Int) : Prop := ∀ (F : Nat → Prop) (A B : Option Addr) (n m cA cB : Nat) (v : Val) (left : Int) (w : World), VRd c F w (.slice A n cA) (.slice B m cB) v → (∀ b, F b → b < w.heap.size) → 0 ≤ left → left ≤ 2000000 →
    Calls Try.prog 66 #[.agg #[.string v.ty, .int .i64 v.n, .slice A n cA, .slice B m cB], .int .i64 left] w fun e w' => e = .returned (.int .i64 (szOf f v left)) ∧ Below w.heap.size w w'

set_option maxHeartbeats 1000000 in
theorem szValue_of {c : Cod Val} {f : Val → Int → Int} (hf : ∀ x l, 0 ≤ l → f x l ≤ l) (IH : SzSC c f) : SzC c f := by
  intro F A B n m cA cB v left w h hF h0 h1
  have HS := Lib.hid h
  have hty := h.ty
  unfold maxLen at hty
  have hsz : (w.alloc (.cells #[.string v.ty, .int .i64 v.n, .slice A n cA, .slice B m cB] 85)).heap.size = w.heap.size + 1 := by simp
  have Hsz := Lib.hid hsz
  have HB := Lib.hid (Blk.new w 85 #[.string v.ty, .int .i64 v.n, .slice A n cA, .slice B m cB])
  have HV := Lib.hid (HS.out.keep (w' := w.alloc (.cells #[.string v.ty, .int .i64 v.n, .slice A n cA, .slice B m cB] 85)) fun b hb => Below.heap_alloc _ _ _ (hF b hb))
  have IHH := Lib.hid IH
  clear h hsz IH
  by_cases hn : left - v.ty.size < 0
  · have HR : Hid (szOf f v left = -1) := by show _ = _; unfold szOf; rw [if_pos hn]
    go_enter Try.func66, Try.ntmps66
    go_wp2
    go_ret
    exact ⟨ret_int HR.out.symm, (Below.refl _ _).alloc (Nat.le_refl _) _⟩
  · have hle := szS_le hf v.parts (left - v.ty.size) (by omega)
    by_cases hn2 : szS f v.parts (left - v.ty.size) < 0
    · have HR : Hid (szOf f v left = -1) := by show _ = _; unfold szOf; rw [if_neg hn, if_pos hn2]
      go_enter Try.func66, Try.ntmps66
      go_wp2_with fail
      refine (IHH.out F _ v.parts _ _ HV.out.parts (fun b hb => by have := hF b hb; have := Hsz.out; omega) (by omega) (by omega)).mono ?_
      rintro e w1 ⟨rfl, hb1⟩
      go_wp2
      go_ret
      exact ⟨ret_int HR.out.symm, ((Below.refl _ _).alloc (Nat.le_refl _) _).trans (hb1.mono (by simp))⟩
    · have HR : Hid (szOf f v left = szI v.path (szS f v.parts (left - v.ty.size))) := by show _ = _; unfold szOf; rw [if_neg hn, if_neg hn2]
      have hle2 := szI_le v.path (szS f v.parts (left - v.ty.size)) (by omega)
      go_enter Try.func66, Try.ntmps66
      go_wp2_with fail
      refine (IHH.out F _ v.parts _ _ HV.out.parts (fun b hb => by have := hF b hb; have := Hsz.out; omega) (by omega) (by omega)).mono ?_
      rintro e w1 ⟨rfl, hb1⟩
      have hcs := (HB.out.below hb1 (by simp)).c2
      obtain ⟨c0, c1, c2, c3⟩ := hcs
      have HP := Lib.hid (HV.out.path.keep (below_keeps hb1 fun b hb => by have := hF b hb; have := Hsz.out; omega))
      go_wp2_with fail
      refine (szIntS_any F _ v.path _ _ HP.out (by omega) (by omega)).mono ?_
      rintro e w' ⟨rfl, rfl⟩
      have HE := Lib.hid (((Below.refl w.heap.size w).alloc (Nat.le_refl _) _).trans (hb1.mono (by simp)))
      clear hb1
      by_cases hn3 : szI v.path (szS f v.parts (left - v.ty.size)) < 0
      · have HR3 : Hid (szI v.path (szS f v.parts (left - v.ty.size)) = -1) := by
          show _ = _; unfold szI at hn3 ⊢; split at hn3
          · rename_i hx; rw [if_pos hx]
          · rename_i hx; omega
        go_wp2
        go_ret
        exact ⟨ret_int (by rw [HR.out, HR3.out]), HE.out⟩
      · go_wp2
        go_ret
        exact ⟨ret_int HR.out.symm, HE.out⟩

set_option maxRecDepth 100000 in
set_option maxHeartbeats 1000000 in
theorem szValueS_of {c e : Cod Val} {f : Val → Int → Int} (hc : IsVal c e) (hf : ∀ x l, 0 ≤ l → f x l ≤ l) {g : Val → Int → Int} (IH : HasEl c → SzC e g ∧ f = szOf g) : SzSC c f := by
  intro F v xs left w h hF h0 h1
  have HS := Lib.hid h
  have IHH := Lib.hid (fun hp : 0 < xs.length => IH ⟨F, w, v, xs, h, hp⟩)
  obtain ⟨A, cap, rfl, hlc, hcm, _⟩ := h
  unfold maxLen at hcm
  clear IH
  by_cases ht : left - xs.length < 0
  · go_enter Try.func88, Try.ntmps88
    go_wp2
    go_ret
    exact ⟨ret_int (szS_neg _ _ _ ht).symm, Below.refl _ _⟩
  · have HF := Lib.hid (szS_go f xs left ht)
    go_enter Try.func88, Try.ntmps88
    go_wp2
    go_loopw [1, 5] (fun l i wr => ∃ (k : Nat) (n : Int), k ≤ xs.length ∧ i = .int .i64 k ∧ l = .int .i64 n ∧ 0 ≤ n ∧ n ≤ 2000000 ∧ Hid (szList f (xs.drop k) n = szS f xs left) ∧ Below w.heap.size w wr) (fun _ i _ => xs.length - (intOf i).toNat)
    case atStart => exact ⟨0, _, Nat.zero_le _, rfl, rfl, by omega, by omega, HF.out, Below.refl _ _⟩
    case round =>
      obtain ⟨k, n, hk, rfl, rfl, hn0, hn1, HH, hb⟩ := hrel
      by_cases hlt : k < xs.length
      · have HSr := Lib.hid (HS.out.keep (below_keeps hb hF))
        obtain ⟨b, off, cap', A2, cA, B2, cB, hv, hFb, _, _, hc0, hc1, hc2, hc3, hV⟩ := HSr.out.val_at hc hlt
        obtain ⟨rfl, rfl⟩ : A = some ⟨b, off, none⟩ ∧ cap = cap' := by simpa using hv
        have hle := hf xs[k] n hn0
        have HV := Lib.hid hV
        have hsz := hb.size
        have hfx := (IHH.out (by omega)).2
        have IH2 := Lib.hid (IHH.out (by omega)).1
        have Hfx := Lib.hid (show f xs[k] n = szOf g xs[k] n by rw [hfx])
        clear hv hV hfx
        rw [Hfx.out] at hle
        by_cases hneg : szOf g xs[k] n < 0
        · go_wp2_with (go_at_call 66; refine (IH2.out F _ _ _ _ _ _ xs[k] n _ HV.out (fun b hb' => Nat.lt_of_lt_of_le (hF b hb') hsz) hn0 hn1).mono ?_; rintro e w' ⟨rfl, hb1⟩)
          go_ret
          exact ⟨ret_int (szList_stop hlt HH.out (by rw [Hfx.out]; exact hneg)), hb.trans (hb1.mono hsz)⟩
        · go_wp2_with (go_at_call 66; refine (IH2.out F _ _ _ _ _ _ xs[k] n _ HV.out (fun b hb' => Nat.lt_of_lt_of_le (hF b hb') hsz) hn0 hn1).mono ?_; rintro e w' ⟨rfl, hb1⟩)
          go_roundw
          case rel => exact ⟨k + 1, _, by omega, by go_num, rfl, by omega, by omega, by rw [← Hfx.out]; exact szList_step hlt HH.out (by rw [Hfx.out]; omega), hb.trans (hb1.mono hsz)⟩
          case measure => simp [intOf]; omega
      · go_wp2
        go_ret
        exact ⟨ret_int (szList_end (by omega) HH.out), hb⟩

theorem szValueS_any : ∀ d, SzSC (Cod.val d) (szVal d)
  | 0 => szValueS_of (e := Cod.no) (g := fun _ _ => 0) (IsVal.zero _) (szVal_le 0) fun h => absurd h no_el
  | d + 1 => szValueS_of (IsVal.of _) (szVal_le (d + 1)) fun _ => ⟨szValue_of (szVal_le d) (szValueS_any d), rfl⟩
theorem szValue_any (d : Nat) : SzC (Cod.val d) (szVal d) := szValue_of (szVal_le d) (szValueS_any d)
end Go.Proofs.Ythkdkefkgmmoiaa

namespace Go.Proofs.Ythkdkefkgmmoiaa
open Go.RowKit

theorem info_int : (Try.prog.info? 3).map (fun i => (i.zero, i.size, i.bytes)) = some (some (.int .i64 0), 1, 8) := by kernel_rfl
theorem info_val : (Try.prog.info? 95).map (fun i => (i.zero, i.size, i.bytes)) = some (some (.agg #[.string ByteArray.empty, .int .i64 0, .slice none 0 0, .slice none 0 0]), 4, 72) := by kernel_rfl

set_option maxHeartbeats 400000 in
theorem toIntS_any (F : Nat → Prop) (v : Value) (xs : List Int) (w : World) (h : Cod.i64.Sl F w v xs) (hF : ∀ b, F b → b < w.heap.size) (hn : xs.length ≤ 2000000) :
    Calls Try.prog 94 #[v] w fun e w' => ∃ A' c', e = .returned (.slice A' xs.length c') ∧ Made Cod.i64 w w' (.slice A' xs.length c') xs := by
  have HS := Lib.hid h
  obtain ⟨A, cap, rfl, hlc, hcm, _⟩ := h
  unfold maxLen at hcm
  have hmk := make_len (P := Try.prog) 31 3 _ 1 8 Try.underlying31 info_int (by omega) xs.length hn
  go_enter Try.func94, Try.ntmps94
  go_wp2
  go_loopw [4] (fun i wr => ∃ (k : Nat) (cs : Array Value), k ≤ xs.length ∧ i = .int .i64 k ∧ Blk wr w.heap.size 3 cs ∧ cs.size = xs.length ∧ Cod.i64.Part NoB wr cs k xs ∧ Below w.heap.size w wr) (fun i _ => xs.length - (intOf i).toNat)
  case atStart => exact ⟨0, _, Nat.zero_le _, rfl, Blk.new _ _ _, by simp [madeCells], Cod.Part.zero, (Below.refl _ _).alloc (Nat.le_refl _) _⟩
  case round =>
    obtain ⟨k, cs, hk, rfl, HB, hsz, HP, hb⟩ := hrel
    have HBl := HB.lt
    by_cases hlt : k < xs.length
    · have HSr := Lib.hid (HS.out.keep (below_keeps hb hF))
      obtain ⟨b, off, cap', hv, hFb, _, _, hc0, hi0⟩ := HSr.out.i64_at hlt
      obtain ⟨rfl, rfl⟩ : A = some ⟨b, off, none⟩ ∧ cap = cap' := by simpa using hv
      obtain ⟨d0, hd0⟩ := HB.holds hsz hlt
      have hf0 := HB.frozen k
      have HB' := Lib.hid HB
      have HP' := Lib.hid HP
      have Hsz := Lib.hid hsz
      have HI := Lib.hid hi0
      clear hv HB HP hsz hmk hi0
      go_wp2
      go_roundw
      case rel => exact ⟨k + 1, _, by omega, by go_num, HB'.out.set_ k _, by rw [Array.size_setIfInBounds, Hsz.out], (HP'.out.keep fun b hb' => hb'.elim).one rfl hlt Hsz.out ⟨rfl, HI.out⟩, hb.setCell (by simp) _⟩
      case measure => simp [intOf]; omega
    · obtain rfl : k = xs.length := by omega
      have HM : Made Cod.i64 w wr (.slice (some ⟨w.heap.size, 0, none⟩) xs.length xs.length) xs := ⟨(HP.mono fun _ h => h.elim).sl HB ⟨Nat.le_refl _, HBl⟩ (Nat.le_refl _) (by unfold maxLen; omega), hb⟩
      clear hmk HB HP
      go_wp2
      go_ret
      exact ⟨_, _, rfl, HM⟩

/-- No slice in it is long. -/
def Smol (P : Val → Prop) (v : Val) : Prop := v.parts.length ≤ 2000000 ∧ v.path.length ≤ 2000000 ∧ ∀ x ∈ v.parts, P x
def SmolD : Nat → Val → Prop
  | 0 => fun _ => True
  | d + 1 => Smol (SmolD d)

def ToSC (c : Cod Val) (P : Val → Prop) : Prop := ∀ (F : Nat → Prop) (v : Value) (xs : List Val) (w : World), c.Sl F w v xs → (∀ b, F b → b < w.heap.size) → xs.length ≤ 2000000 → (∀ x ∈ xs, P x) →
    Calls Try.prog 93 #[v] w fun e w' => ∃ A' c', e = .returned (.slice A' xs.length c') ∧ Made c w w' (.slice A' xs.length c') xs
def ToC (c : Cod Val) (P : Val → Prop) : Prop := ∀ (F : Nat → Prop) (A B : Option Addr) (n m cA cB : Nat) (v : Val) (w : World), VRd c F w (.slice A n cA) (.slice B m cB) v → (∀ b, F b → b < w.heap.size) → Smol P v →
    Calls Try.prog 72 #[.agg #[.string v.ty, .int .i64 v.n, .slice A n cA, .slice B m cB]] w fun e w' => ∃ A' cA' B' cB', e = .returned (.agg #[.string v.ty, .int .i64 v.n, .slice A' v.parts.length cA', .slice B' v.path.length cB']) ∧ MadeV c w w' (.slice A' v.parts.length cA') (.slice B' v.path.length cB') v

/-- The first of three new blocks. -/
theorem Blk.of3a (w : World) (o o' : Obj) (t : TypeId) (cs : Array Value) : Blk (((w.alloc (.cells cs t)).alloc o).alloc o') w.heap.size t cs := ((Blk.new w t cs).alloc o).alloc o'

set_option maxRecDepth 100000 in
set_option maxHeartbeats 1000000 in
theorem toValue_of {c : Cod Val} {P : Val → Prop} (IH : ToSC c P) : ToC c P := by
  intro F A B n m cA cB v w h hF hn
  obtain ⟨hn1, hn2, hn3⟩ := hn
  have HN3 := Lib.hid hn3
  have HS := Lib.hid h
  have IHH := Lib.hid IH
  clear h IH hn3
  have hF3 : ∀ (o o' o'' : Obj), ∀ b, F b → b < (((w.alloc o).alloc o').alloc o'').heap.size := fun o o' o'' b hb => by have := hF b hb; simp; omega
  have hk3 : ∀ (o o' o'' : Obj), ∀ b, F b → (((w.alloc o).alloc o').alloc o'').heap[b]? = w.heap[b]? := fun o o' o'' b hb => by
    have := hF b hb
    rw [Below.heap_alloc _ _ _ (by simp; omega), Below.heap_alloc _ _ _ (by simp; omega), Below.heap_alloc _ _ _ (by omega)]
  have HF3 := Lib.hid hF3
  have HK3 := Lib.hid hk3
  clear hF3 hk3
  go_enter Try.func72, Try.ntmps72
  go_wp2_with fail
  refine (IHH.out F _ v.parts _ (HS.out.parts.keep (HK3.out _ _ _)) (HF3.out _ _ _) hn1 HN3.out).mono ?_
  rintro e w1 ⟨A', cA', rfl, hM⟩
  have hB0 := (Blk.of3a w (.cells #[.string ByteArray.empty, .int .i64 0, .slice none 0 0, .slice none 0 0] 95) (.cells #[.string v.ty, .int .i64 v.n, .slice none 0 0, .slice none 0 0] 95) 85 #[.string v.ty, .int .i64 v.n, .slice A n cA, .slice B m cB]).below hM.2 (by simp; omega)
  obtain ⟨hB1, hB2⟩ := Blk.of3 w (.cells #[.string v.ty, .int .i64 v.n, .slice A n cA, .slice B m cB] 85) 95 95 #[.string ByteArray.empty, .int .i64 0, .slice none 0 0, .slice none 0 0] #[.string v.ty, .int .i64 v.n, .slice none 0 0, .slice none 0 0]
  have hC1 := hB1.below hM.2 (by simp)
  have hC2 := hB2.below hM.2 (by simp)
  have hs1 : w.heap.size + 3 ≤ w1.heap.size := by simpa using hM.2.size
  have c03 := hB0.c2.2.2.2
  have c22 := hC2.c2.2.2.1
  have f22 := hC2.f4.2.2.1
  have HM := Lib.hid hM
  have HC1 := Lib.hid (hC1.far (p := ⟨w.heap.size + 1 + 1, 2, none⟩) (by simp) (.slice A' v.parts.length cA'))
  have HC2 := Lib.hid (show Blk (w1.setCell ⟨w.heap.size + 1 + 1, 2, none⟩ (.slice A' v.parts.length cA')) (w.heap.size + 1 + 1) 95 #[.string v.ty, .int .i64 v.n, .slice A' v.parts.length cA', .slice none 0 0] from hC2.set_ 2 _)
  have HP1 := Lib.hid (show Cod.i64.Sl F (w1.setCell ⟨w.heap.size + 1 + 1, 2, none⟩ (.slice A' v.parts.length cA')) (.slice B m cB) v.path from HS.out.path.keep fun b hb => by
    have := hF b hb
    rw [Below.heap_setCell _ _ _ _ (by simp; omega), hM.2.block b (by simp; omega)]
    exact HK3.out _ _ _ b hb)
  have HF1 := Lib.hid (show ∀ b, F b → b < (w1.setCell ⟨w.heap.size + 1 + 1, 2, none⟩ (.slice A' v.parts.length cA')).heap.size from fun b hb => by have := hF b hb; simp; omega)
  clear hB0 hB1 hB2 hC1 hC2 hM
  go_wp2_with fail
  refine (toIntS_any F _ v.path _ HP1.out HF1.out hn2).mono ?_
  rintro e w2 ⟨B', cB', rfl, hM2⟩
  have hs2 : w1.heap.size ≤ w2.heap.size := by simpa using hM2.2.size
  have hD1 := HC1.out.below hM2.2 (by simp; omega)
  have hD2 := HC2.out.below hM2.2 (by simp; omega)
  obtain ⟨x0, x1, x2, x3⟩ := hD1.c2
  obtain ⟨y0, y1, y2, y3⟩ := hD1.f4
  obtain ⟨z0, z1, z2, z3⟩ := hD2.c2
  obtain ⟨t0, t1, t2, t3⟩ := hD2.f4
  have HM2 := Lib.hid hM2
  clear hD1 hD2 hM2 c03 c22 f22
  go_wp2
  have hk5 : ∀ b, b ≠ w.heap.size + 1 → b ≠ w.heap.size + 1 + 1 → (((((w2.setCell ⟨w.heap.size + 1 + 1, 3, none⟩ (.slice B' v.path.length cB')).setCell ⟨w.heap.size + 1, 0, none⟩ (.string v.ty)).setCell ⟨w.heap.size + 1, 1, none⟩ (.int .i64 v.n)).setCell ⟨w.heap.size + 1, 2, none⟩ (.slice A' v.parts.length cA')).setCell ⟨w.heap.size + 1, 3, none⟩ (.slice B' v.path.length cB')).heap[b]? = w2.heap[b]? := fun b h1 h2 => by
    rw [Below.heap_setCell _ _ _ _ h1, Below.heap_setCell _ _ _ _ h1, Below.heap_setCell _ _ _ _ h1, Below.heap_setCell _ _ _ _ h1, Below.heap_setCell _ _ _ _ h2]
  have hsz5 : w2.heap.size = (((((w2.setCell ⟨w.heap.size + 1 + 1, 3, none⟩ (.slice B' v.path.length cB')).setCell ⟨w.heap.size + 1, 0, none⟩ (.string v.ty)).setCell ⟨w.heap.size + 1, 1, none⟩ (.int .i64 v.n)).setCell ⟨w.heap.size + 1, 2, none⟩ (.slice A' v.parts.length cA')).setCell ⟨w.heap.size + 1, 3, none⟩ (.slice B' v.path.length cB')).heap.size := by simp
  have hbl : Below w.heap.size w w2 := ((((Below.refl w.heap.size w).alloc (Nat.le_refl _) _).alloc (by simp) _).alloc (by simp; omega) _ |>.trans (HM.out.2.mono (by simp; omega))).setCell (by simp; omega) (.slice A' v.parts.length cA') |>.trans (HM2.out.2.mono (by simp; omega))
  refine bodyPost_ret (v := .agg #[.string v.ty, .int .i64 v.n, .slice A' v.parts.length cA', .slice B' v.path.length cB']) (by simp [results, Try.results72, go_sem, x0, x1, x2, x3]) rfl ⟨A', cA', B', cB', rfl, ⟨HS.out.ty, HS.out.n, ?_, ?_⟩, ?_⟩
  · refine (HM.out.1.keep fun b hb => ?_).mono fun b hb => ⟨?_, ?_⟩
    · obtain ⟨h1, h2⟩ := hb
      simp at h1
      rw [hk5 b (by omega) (by omega), HM2.out.2.block b (by simp; omega), Below.heap_setCell _ _ _ _ (by simp; omega)]
    · have := hb.1
      simp at this
      omega
    · have := hb.2
      rw [← hsz5]
      omega
  · refine (HM2.out.1.keep fun b hb => ?_).mono fun b hb => ⟨?_, ?_⟩
    · have h1 := hb.1
      simp at h1
      exact hk5 b (by omega) (by omega)
    · have h1 := hb.1
      simp at h1
      omega
    · rw [← hsz5]
      exact hb.2
  · exact ((((hbl.setCell (by simp; omega) _).setCell (by simp) _).setCell (by simp) _).setCell (by simp) _).setCell (by simp) _

set_option maxRecDepth 100000 in
set_option maxHeartbeats 1000000 in
theorem toValueS_of {c e : Cod Val} {P : Val → Prop} (hc : IsVal c e) {Q : Val → Prop} (IH : HasEl c → ToC e Q ∧ ∀ x, P x → Smol Q x) : ToSC c P := by
  intro F v xs w h hF hn hm
  have HS := Lib.hid h
  have Hm := Lib.hid hm
  have IHH := Lib.hid (fun hp : 0 < xs.length => IH ⟨F, w, v, xs, h, hp⟩)
  have HEl := Lib.hid (fun hp : 0 < xs.length => (show HasEl c from ⟨F, w, v, xs, h, hp⟩))
  clear hm IH
  obtain ⟨A, cap, rfl, hlc, hcm, _⟩ := h
  unfold maxLen at hcm
  have hmk := make_len (P := Try.prog) 93 95 _ 4 72 Try.underlying93 info_val (by omega) xs.length hn
  go_enter Try.func93, Try.ntmps93
  go_wp2
  go_loopw [4] (fun i wr => ∃ (k : Nat) (cs : Array Value), k ≤ xs.length ∧ i = .int .i64 k ∧ Blk wr w.heap.size 95 cs ∧ cs.size = xs.length * 4 ∧ c.Part (fun b => w.heap.size < b ∧ b < wr.heap.size) wr cs k xs ∧ Below w.heap.size w wr) (fun i _ => xs.length - (intOf i).toNat)
  case atStart => exact ⟨0, _, Nat.zero_le _, rfl, Blk.new _ _ _, by simp [madeCells], Cod.Part.zero, (Below.refl _ _).alloc (Nat.le_refl _) _⟩
  case round =>
    obtain ⟨k, cs, hk, rfl, HB, hsz, HP, hb⟩ := hrel
    have HBl := HB.lt
    by_cases hlt : k < xs.length
    · have HSr := Lib.hid (HS.out.keep (below_keeps hb hF))
      obtain ⟨b, off, cap', A2, cA, B2, cB, hv, hFb, _, _, hc0, hc1, hc2, hc3, hV⟩ := HSr.out.val_at hc hlt
      obtain ⟨rfl, rfl⟩ : A = some ⟨b, off, none⟩ ∧ cap = cap' := by simpa using hv
      have HB' := Lib.hid HB
      have HP' := Lib.hid HP
      have Hsz := Lib.hid hsz
      have HV := Lib.hid hV
      have hm1 := (IHH.out (by omega)).2 _ (Hm.out xs[k] (List.getElem_mem hlt))
      have Hm1 := Lib.hid hm1
      have IH1 := Lib.hid (IHH.out (by omega)).1
      have HE1 := Lib.hid (HEl.out (by omega))
      have hws := hb.size
      clear hv HB HP hsz hmk hV hm1
      go_wp2_with fail
      refine (IH1.out F A2 B2 _ _ cA cB xs[k] wr HV.out (fun b hb' => Nat.lt_of_lt_of_le (hF b hb') hws) Hm1.out).mono ?_
      rintro e' w1 ⟨A', cA', B', cB', rfl, hM⟩
      have hbl := hM.2
      have HB1 := HB'.out.below hbl HBl
      obtain ⟨d0, hd0⟩ := HB1.holds Hsz.out (i := k * 4) (by omega)
      obtain ⟨d1, hd1⟩ := HB1.holds Hsz.out (i := k * 4 + 1) (by omega)
      obtain ⟨d2, hd2⟩ := HB1.holds Hsz.out (i := k * 4 + 2) (by omega)
      obtain ⟨d3, hd3⟩ := HB1.holds Hsz.out (i := k * 4 + 3) (by omega)
      have hf0 := HB1.frozen (k * 4)
      have hf1 := HB1.frozen (k * 4 + 1)
      have hf2 := HB1.frozen (k * 4 + 2)
      have hf3 := HB1.frozen (k * 4 + 3)
      have HBB := Lib.hid HB1
      have hw1 := hbl.size
      have HM := Lib.hid hM
      clear HB1 hM hbl
      go_wp2
      go_roundw
      case rel =>
        have hk1 : ∀ b, w.heap.size < b → ((((w1.setCell ⟨w.heap.size, k * 4, none⟩ (.string xs[k].ty)).setCell ⟨w.heap.size, k * 4 + 1, none⟩ (.int .i64 xs[k].n)).setCell ⟨w.heap.size, k * 4 + 2, none⟩ (.slice A' xs[k].parts.length cA')).setCell ⟨w.heap.size, k * 4 + 3, none⟩ (.slice B' xs[k].path.length cB')).heap[b]? = w1.heap[b]? := fun b hb' => by
          rw [Below.heap_setCell _ _ _ _ (by simp; omega), Below.heap_setCell _ _ _ _ (by simp; omega), Below.heap_setCell _ _ _ _ (by simp; omega), Below.heap_setCell _ _ _ _ (by simp; omega)]
        refine ⟨k + 1, _, by omega, by go_num, (((HBB.out.set_ _ _).set_ _ _).set_ _ _).set_ _ _, by simp only [Array.size_setIfInBounds]; exact Hsz.out, ?_, ?_⟩
        · refine Cod.Part.four ?_ hc.size hlt Hsz.out ?_
          · refine (HP'.out.keep fun b hb' => (hk1 b hb'.1).trans (HM.out.2.block b hb'.2)).mono fun b hb' => ⟨hb'.1, ?_⟩
            have := hb'.2
            simp; omega
          · refine hc.lay HE1.out ((HM.out.1.keep fun b hb' => hk1 b (by have := hb'.1; omega)).mono fun b hb' => ⟨by have := hb'.1; omega, ?_⟩)
            have := hb'.2
            simp; omega
        · exact ((((hb.trans (HM.out.2.mono hws)).setCell (by simp) _).setCell (by simp) _).setCell (by simp) _).setCell (by simp) _
      case measure => simp [intOf]; omega
    · obtain rfl : k = xs.length := by omega
      have HM : Made c w wr (.slice (some ⟨w.heap.size, 0, none⟩) xs.length xs.length) xs := ⟨(HP.mono fun b h => (⟨Nat.le_of_lt h.1, h.2⟩ : Fresh w wr b)).sl HB ⟨Nat.le_refl _, HBl⟩ (Nat.le_refl _) (by unfold maxLen; omega), hb⟩
      clear hmk HB HP
      go_wp2
      go_ret
      exact ⟨_, _, rfl, HM⟩

theorem toValueS_any : ∀ d, ToSC (Cod.val d) (SmolD d)
  | 0 => toValueS_of (e := Cod.no) (Q := fun _ => True) (IsVal.zero _) fun h => absurd h no_el
  | d + 1 => toValueS_of (IsVal.of _) fun _ => ⟨toValue_of (toValueS_any d), fun _ h => h⟩
theorem toValue_any (d : Nat) : ToC (Cod.val d) (SmolD d) := toValue_of (toValueS_any d)
end Go.Proofs.Ythkdkefkgmmoiaa

namespace Go.Proofs.Ythkdkefkgmmoiaa
open Go.RowKit

set_option maxHeartbeats 400000 in
theorem eqIntS_any (F : Nat → Prop) (v v' : Value) (xs : List Int) (w : World) (h : Cod.i64.Sl F w v xs) (h' : Cod.i64.Sl F w v' xs) :
    Calls Try.prog 104 #[v, v'] w fun e w' => e = .returned (.bool true) ∧ Below w.heap.size w w' := by
  have HS := Lib.hid h
  have HS' := Lib.hid h'
  obtain ⟨A, cap, rfl, hlc, hcm, _⟩ := h
  obtain ⟨A', cap', rfl, hlc', hcm', _⟩ := h'
  unfold maxLen at hcm hcm'
  go_enter Try.func104, Try.ntmps104
  go_wp2
  go_loopw [5] (fun i wr => ∃ (k n : Nat), k ≤ xs.length ∧ i = .int .i64 k ∧ wr = w.drewN n) (fun i _ => xs.length - (intOf i).toNat)
  case atStart => exact ⟨0, 0, Nat.zero_le _, rfl, rfl⟩
  case round =>
    obtain ⟨k, n, hk, rfl, rfl⟩ := hrel
    by_cases hlt : k < xs.length
    · obtain ⟨b, off, c1, hv, _, _, _, hc0, _⟩ := HS.out.i64_at hlt
      obtain ⟨rfl, rfl⟩ : A = some ⟨b, off, none⟩ ∧ cap = c1 := by simpa using hv
      obtain ⟨b', off', c1', hv', _, _, _, hc0', _⟩ := HS'.out.i64_at hlt
      obtain ⟨rfl, rfl⟩ : A' = some ⟨b', off', none⟩ ∧ cap' = c1' := by simpa using hv'
      clear hv hv'
      have i0 : (0 : Int) ≤ k := by omega
      have i1 : (k : Int) < xs.length := by omega
      generalize xs[k] = x at hc0 hc0'
      go_wp2
      go_quiet (fail)
      go_wp2
      go_roundw
      case rel => exact ⟨k + 1, _, by omega, by go_num, rfl⟩
      case measure => simp [intOf]; omega
    · go_wp2
      go_ret
      exact ⟨rfl, below_drewN (Below.refl _ _) _⟩

def EqSC (c : Cod Val) : Prop := ∀ (F : Nat → Prop) (v v' : Value) (xs : List Val) (w : World), c.Sl F w v xs → c.Sl F w v' xs → (∀ b, F b → b < w.heap.size) →
    Calls Try.prog 103 #[v, v'] w fun e w' => e = .returned (.bool true) ∧ Below w.heap.size w w'
def EqC (c : Cod Val) : Prop := ∀ (F : Nat → Prop) (a p a' p' : Value) (v : Val) (w : World), VRd c F w a p v → VRd c F w a' p' v → (∀ b, F b → b < w.heap.size) →
    Calls Try.prog 79 #[.agg #[.string v.ty, .int .i64 v.n, a, p], .agg #[.string v.ty, .int .i64 v.n, a', p']] w fun e w' => e = .returned (.bool true) ∧ Below w.heap.size w w'

set_option maxRecDepth 100000 in
set_option maxHeartbeats 1000000 in
theorem eqValue_of {c : Cod Val} (IH : EqSC c) : EqC c := by
  intro F a p a' p' v w h h' hF
  have HS := Lib.hid h
  have HS' := Lib.hid h'
  have IHH := Lib.hid IH
  obtain ⟨A, cA, rfl, _⟩ := h.parts
  obtain ⟨B, cB, rfl, _⟩ := h.path
  obtain ⟨A', cA', rfl, _⟩ := h'.parts
  obtain ⟨B', cB', rfl, _⟩ := h'.path
  clear h h' IH
  have HK := Lib.hid (show ∀ (o o' : Obj), ∀ b, F b → ((w.alloc o).alloc o').heap[b]? = w.heap[b]? from fun o o' b hb => by
    have := hF b hb
    rw [Below.heap_alloc _ _ _ (by simp; omega), Below.heap_alloc _ _ _ (by omega)])
  have HL := Lib.hid (show ∀ (o o' : Obj), ∀ b, F b → b < ((w.alloc o).alloc o').heap.size from fun o o' b hb => by have := hF b hb; simp; omega)
  go_enter Try.func79, Try.ntmps79
  go_wp2_with fail
  refine (IHH.out F _ _ v.parts _ (HS.out.parts.keep (HK.out _ _)) (HS'.out.parts.keep (HK.out _ _)) (HL.out _ _)).mono ?_
  rintro e w1 ⟨rfl, hb⟩
  have hB0 := ((Blk.new w 95 #[.string v.ty, .int .i64 v.n, .slice A v.parts.length cA, .slice B v.path.length cB]).alloc (.cells #[.string v.ty, .int .i64 v.n, .slice A' v.parts.length cA', .slice B' v.path.length cB'] 95)).below hb (by simp; omega)
  have hB1 := (Blk.new (w.alloc (.cells #[.string v.ty, .int .i64 v.n, .slice A v.parts.length cA, .slice B v.path.length cB] 95)) 95 #[.string v.ty, .int .i64 v.n, .slice A' v.parts.length cA', .slice B' v.path.length cB']).below hb (by simp)
  simp only [World.size_alloc] at hB1
  have c03 := hB0.c2.2.2.2
  have c13 := hB1.c2.2.2.2
  have HP := Lib.hid ((HS.out.path.keep (HK.out (.cells #[.string v.ty, .int .i64 v.n, .slice A v.parts.length cA, .slice B v.path.length cB] 95) (.cells #[.string v.ty, .int .i64 v.n, .slice A' v.parts.length cA', .slice B' v.path.length cB'] 95))).keep (below_keeps hb fun b hb' => by have := hF b hb'; simp; omega))
  have HP' := Lib.hid ((HS'.out.path.keep (HK.out (.cells #[.string v.ty, .int .i64 v.n, .slice A v.parts.length cA, .slice B v.path.length cB] 95) (.cells #[.string v.ty, .int .i64 v.n, .slice A' v.parts.length cA', .slice B' v.path.length cB'] 95))).keep (below_keeps hb fun b hb' => by have := hF b hb'; simp; omega))
  have HE := Lib.hid ((((Below.refl w.heap.size w).alloc (Nat.le_refl _) (.cells #[.string v.ty, .int .i64 v.n, .slice A v.parts.length cA, .slice B v.path.length cB] 95)).alloc (by simp) (.cells #[.string v.ty, .int .i64 v.n, .slice A' v.parts.length cA', .slice B' v.path.length cB'] 95)).trans (hb.mono (by simp; omega)))
  have hw1 := HE.out.size
  clear hB0 hB1 hb
  go_wp2_with fail
  refine (eqIntS_any F _ _ v.path w1 HP.out HP'.out).mono ?_
  rintro e w2 ⟨rfl, hb2⟩
  go_wp2
  go_ret
  exact ⟨rfl, HE.out.trans (hb2.mono hw1)⟩

set_option maxRecDepth 100000 in
set_option maxHeartbeats 1000000 in
theorem eqValueS_of {c e : Cod Val} (hc : IsVal c e) (IH : HasEl c → EqC e) : EqSC c := by
  intro F v v' xs w h h' hF
  have HS := Lib.hid h
  have HS' := Lib.hid h'
  have IHH := Lib.hid (fun hp : 0 < xs.length => IH ⟨F, w, v, xs, h, hp⟩)
  obtain ⟨A, cap, rfl, hlc, hcm, _⟩ := h
  obtain ⟨A', cap', rfl, hlc', hcm', _⟩ := h'
  unfold maxLen at hcm hcm'
  clear IH
  go_enter Try.func103, Try.ntmps103
  go_wp2
  go_loopw [5] (fun i wr => ∃ (k : Nat), k ≤ xs.length ∧ i = .int .i64 k ∧ Below w.heap.size w wr) (fun i _ => xs.length - (intOf i).toNat)
  case atStart => exact ⟨0, Nat.zero_le _, rfl, Below.refl _ _⟩
  case round =>
    obtain ⟨k, hk, rfl, hb⟩ := hrel
    by_cases hlt : k < xs.length
    · have HSr := Lib.hid (HS.out.keep (below_keeps hb hF))
      have HSr' := Lib.hid (HS'.out.keep (below_keeps hb hF))
      obtain ⟨b, off, c1, A2, cA, B2, cB, hv, _, _, _, hc0, hc1, hc2, hc3, hV⟩ := HSr.out.val_at hc hlt
      obtain ⟨rfl, rfl⟩ : A = some ⟨b, off, none⟩ ∧ cap = c1 := by simpa using hv
      obtain ⟨b', off', c1', A2', cA', B2', cB', hv', _, _, _, hc0', hc1', hc2', hc3', hV'⟩ := HSr'.out.val_at hc hlt
      obtain ⟨rfl, rfl⟩ : A' = some ⟨b', off', none⟩ ∧ cap' = c1' := by simpa using hv'
      have hsz := hb.size
      have HV := Lib.hid hV
      have HV' := Lib.hid hV'
      have IH1 := Lib.hid (IHH.out (by omega))
      clear hv hv' hV hV'
      have i0 : (0 : Int) ≤ k := by omega
      have i1 : (k : Int) < xs.length := by omega
      go_wp2
      go_still_tail 8, (by kernel_rfl)
      change wpList _ _ _ _ _ wr.drew
      go_wp2_with fail
      refine (IH1.out F _ _ _ _ xs[k] wr.drew HV.out.drew HV'.out.drew (fun b hb' => Nat.lt_of_lt_of_le (hF b hb') hsz)).mono ?_
      rintro e' w1 ⟨rfl, hb1⟩
      go_wp2
      go_roundw
      case rel => exact ⟨k + 1, by omega, by go_num, hb.trans (Below.drew (Below.refl _ _) |>.trans (hb1.mono hsz))⟩
      case measure => simp [intOf]; omega
    · go_wp2
      go_ret
      exact ⟨rfl, hb⟩

theorem eqValueS_any : ∀ d, EqSC (Cod.val d)
  | 0 => eqValueS_of (e := Cod.no) (IsVal.zero _) fun h => absurd h no_el
  | d + 1 => eqValueS_of (IsVal.of _) fun _ => eqValue_of (eqValueS_any d)
theorem eqValue_any (d : Nat) : EqC (Cod.val d) := eqValue_of (eqValueS_any d)
end Go.Proofs.Ythkdkefkgmmoiaa
