/- The text of a shape: of the model. The text of a shape: of the model, whole. -/
import Derived.Test.YtgfpncpphpkahaaDoorJz
import Derived.Test.YtgfpncpphpkahaaDoorVt
import Derived.Lib.AppendIntMem
import Derived.Test.YtgfpncpphpkahaaDoorLat
namespace Go.Proofs.YtgfpncpphpkahaaDoor
open Go.RowKit

/-- A number in decimal, with its sign. -/
def decZ (i : Int) : ByteArray := ⟨(Lib.itoa i).toArray⟩
theorem decZ_nat (n : Nat) : decZ (n : Int) = decBy n := by unfold decZ decBy Lib.itoa; rw [if_neg (by omega)]; simp
theorem decZ_neg {n : Nat} (h : 0 < n) : decZ (-(n : Int)) = ⟨#[45]⟩ ++ decBy n := by
  apply ext_toList
  rw [toList_data, toList_data, ByteArray.data_append, Array.toList_append]
  unfold decZ decBy
  rw [Lib.itoa_neg n h]
  simp
theorem size_decZ {i : Int} (h : I64 i) : (decZ i).size ≤ 20 := by
  unfold I64 at h
  by_cases hn : i < 0
  · obtain ⟨u, rfl⟩ : ∃ u : Nat, i = -(u : Int) := ⟨i.natAbs, by omega⟩
    have h1 := size_decBy 18 u (by omega)
    have h2 : (⟨#[45]⟩ : ByteArray).size = 1 := rfl
    rw [decZ_neg (by omega), ByteArray.size_append]
    omega
  · obtain ⟨u, rfl⟩ : ∃ u : Nat, i = (u : Int) := ⟨i.toNat, by omega⟩
    have h1 := size_decBy 18 u (by omega)
    rw [decZ_nat]
    omega
theorem decZ_min : decZ (-9223372036854775808) = ⟨#[45, 57, 50, 50, 51, 51, 55, 50, 48, 51, 54, 56, 53, 52, 55, 55, 53, 56, 48, 56]⟩ := by
  rw [show (-9223372036854775808 : Int) = -((9223372036854775808 : Nat) : Int) from rfl, decZ_neg (by omega)]
  iterate 18 rw [decBy_big (by omega)]
  rw [decBy_small (by omega)]
  decide

set_option maxRecDepth 100000 in
set_option maxHeartbeats 4000000 in
theorem dec_all (n : Nat) : ∀ w : World, n ≤ 9223372036854775807 → Calls Tryd.prog 77 #[.int .i64 n] w fun e w' => e = .returned (.string (decBy n)) ∧ Below w.heap.size w w' := by
  induction n using Nat.strongRecOn with
  | _ n ih =>
    intro w hn
    by_cases h : n < 10
    · exact dec_full n w (by omega)
    · have HD := Lib.hid (decBy_big h)
      have hcall : ∀ W : World, Calls Tryd.prog 77 #[.int .i64 ((n : Int) / 10)] W fun e w' => e = .returned (.string (decBy (n / 10))) ∧ Below W.heap.size W w' := by
        intro W
        rw [show (n : Int) / 10 = ((n / 10 : Nat) : Int) by omega]
        exact ih (n / 10) (by omega) W (by omega)
      have HC := Lib.hid hcall
      have hge : ¬ (n : Int) < 10 := by omega
      have r0 : 0 ≤ (n : Int) % 10 := by omega
      have r1 : (n : Int) % 10 < 10 := by omega
      have r2 : (0 : Int) ≤ n := by omega
      have r3 : (n : Int) ≤ 9223372036854775807 := by omega
      clear ih hcall h hn
      have HW := Lib.hid (show Below w.heap.size w w.drew from Below.drew (Below.refl _ _))
      have HB0 := Lib.hid (show Blk (w.alloc (.cells #[.int .u8 (48 + (n : Int) % 10)] 5)).drew w.heap.size 5 #[.int .u8 (48 + (n : Int) % 10)] from Blk.new w 5 #[.int .u8 (48 + (n : Int) % 10)])
      have hcv0 := conv_digit (d := 48 + (n : Int) % 10) (w.alloc (.cells #[.int .u8 (48 + (n : Int) % 10)] 5)).drew w.heap.size (HB0.out.cell 0)
      have HW1 := Lib.hid (show Below w.heap.size w (w.alloc (.cells #[.int .u8 (48 + (n : Int) % 10)] 5)).drew from ((Below.refl _ _).alloc (Nat.le_refl _) _).drew)
      have hsz := size_decBy 18 (n / 10) (by omega)
      have hss : (strOfNums [48 + (n : Int) % 10]).size ≤ 1 := by rw [strOfNums_size]; exact Nat.le_refl _
      have e1 : IntKind.i64.wrap ((n : Int) / 10) = (n : Int) / 10 := by rw [IntKind.wrap_i64]; omega
      have e2 : (n : Int).tmod 10 = (n : Int) % 10 := Int.tmod_eq_emod_of_nonneg r2
      have e3 : IntKind.i64.wrap (48 + (n : Int) % 10) = 48 + (n : Int) % 10 := by rw [IntKind.wrap_i64]; omega
      have e4 : IntKind.u8.wrap (48 + (n : Int) % 10) = 48 + (n : Int) % 10 := by rw [IntKind.wrap_u8]; omega
      go_enter Tryd.func77, Tryd.ntmps77
      go_wp2
      go_region_with ((go_at_call 77; (with_reducible refine (HC.out _).mono ?_); rintro e w1 ⟨rfl, hb1⟩; go_must (have HE := Lib.hid (show Below w.heap.size w w1 from (by first | exact HW.out.trans hb1 | exact HW1.out.trans (hb1.mono (by simp)))); have hcvN := conv_digit (d := 48 + (n : Int) % 10) (w1.alloc (.cells #[.int .u8 (48 + (n : Int) % 10)] 5)) w1.heap.size ((Blk.new w1 5 #[.int .u8 (48 + (n : Int) % 10)]).cell 0); (first | (have hcvM := conv_digit (d := 48 + (n : Int) % 10) w1 w.heap.size ((HB0.out.below hb1 (by simp)).cell 0)) | skip); clear hb1)))
      all_goals
        go_wp2
        go_ret
        exact ⟨ret_str HD.out.symm, by first | exact HE.out | exact HE.out.alloc HE.out.size _⟩

set_option maxRecDepth 100000 in
set_option maxHeartbeats 1000000 in
/-- Whatever the number. -/
theorem dec_any (i : Int) (hi : I64 i) (w : World) : Calls Tryd.prog 77 #[.int .i64 i] w fun e w' => e = .returned (.string (decZ i)) ∧ Below w.heap.size w w' := by
  have hi' := hi
  unfold I64 at hi'
  by_cases hn : i < 0
  · by_cases hm : i < -9223372036854775807
    · obtain rfl : i = -9223372036854775808 := by omega
      have HR := Lib.hid decZ_min
      clear hi hi' hn hm
      go_enter Tryd.func77, Tryd.ntmps77
      go_wp2
      go_ret
      exact ⟨ret_str HR.out.symm, Below.refl _ _⟩
    · obtain ⟨u, rfl⟩ : ∃ u : Nat, i = -(u : Int) := ⟨i.natAbs, by omega⟩
      have HR := Lib.hid (decZ_neg (n := u) (by omega))
      have HC := Lib.hid (dec_all u w (by omega))
      have hs := size_decBy 18 u (by omega)
      have e1 : - -(u : Int) = u := by omega
      clear hi
      go_enter Tryd.func77, Tryd.ntmps77
      go_wp2_with (go_at_call 77; refine HC.out.mono ?_; rintro e w1 ⟨rfl, hb⟩)
      go_ret
      exact ⟨ret_str HR.out.symm, hb⟩
  · obtain ⟨u, rfl⟩ : ∃ u : Nat, i = (u : Int) := ⟨i.toNat, by omega⟩
    rw [decZ_nat]
    exact dec_all u w (by omega)

/-- Origins behind a text, each behind a dot. -/
def dotsA : List Int → ByteArray → ByteArray
  | [], acc => acc
  | i :: r, acc => dotsA r ((acc ++ ⟨#[46]⟩) ++ decZ i)
def headT (t : ByteArray) : ByteArray := if t.size = 0 then ⟨#[45]⟩ else t
def markT (x : MarkR) : ByteArray := dotsA x.fr (headT x.ty)
/-- Marks behind a text, each behind a blank. -/
def spA : List MarkR → ByteArray → ByteArray
  | [], acc => acc
  | x :: r, acc => spA r ((acc ++ ⟨#[32]⟩) ++ markT x)
def I64s (xs : List Int) : Prop := ∀ i ∈ xs, I64 i
theorem dotsA_size : ∀ (xs : List Int) (acc : ByteArray), I64s xs → acc.size ≤ (dotsA xs acc).size ∧ (dotsA xs acc).size ≤ acc.size + 21 * xs.length
  | [], acc, _ => ⟨Nat.le_refl _, by show acc.size ≤ _; omega⟩
  | i :: r, acc, h => by
    have h1 := dotsA_size r ((acc ++ ⟨#[46]⟩) ++ decZ i) fun j hj => h j (List.mem_cons_of_mem _ hj)
    have h2 := size_decZ (h i List.mem_cons_self)
    rw [ByteArray.size_append, ByteArray.size_append, show (⟨#[46]⟩ : ByteArray).size = 1 from rfl] at h1
    show acc.size ≤ (dotsA r _).size ∧ (dotsA r _).size ≤ _
    rw [List.length_cons]
    omega
theorem headT_size (t : ByteArray) : (headT t).size ≤ t.size + 1 := by
  unfold headT
  split
  · show 1 ≤ _; omega
  · omega
/-- What a mark may weigh. -/
def markW (x : MarkR) : Nat := 1 + x.ty.size + x.fr.length
theorem markT_size {x : MarkR} (h : I64s x.fr) : (markT x).size + 1 ≤ 21 * markW x := by
  have h1 := (dotsA_size x.fr (headT x.ty) h).2
  have h2 := headT_size x.ty
  unfold markT markW
  omega
theorem spA_size : ∀ (xs : List MarkR) (acc : ByteArray), (∀ x ∈ xs, I64s x.fr) → acc.size ≤ (spA xs acc).size ∧ (spA xs acc).size ≤ acc.size + 21 * (xs.map markW).sum
  | [], acc, _ => ⟨Nat.le_refl _, by show acc.size ≤ _; omega⟩
  | x :: r, acc, h => by
    have h1 := spA_size r ((acc ++ ⟨#[32]⟩) ++ markT x) fun j hj => h j (List.mem_cons_of_mem _ hj)
    have h2 := markT_size (h x List.mem_cons_self)
    rw [ByteArray.size_append, ByteArray.size_append, show (⟨#[32]⟩ : ByteArray).size = 1 from rfl] at h1
    show acc.size ≤ (spA r _).size ∧ (spA r _).size ≤ _
    rw [List.map_cons, List.sum_cons]
    omega
theorem dots_step {xs : List Int} {k : Nat} {acc R : ByteArray} (hk : k < xs.length) (h : dotsA (xs.drop k) acc = R) : dotsA (xs.drop (k + 1)) ((acc ++ ⟨#[46]⟩) ++ decZ xs[k]) = R := by
  rw [drop_cons hk] at h; exact h
theorem dots_end {xs : List Int} {k : Nat} {acc R : ByteArray} (hk : k = xs.length) (h : dotsA (xs.drop k) acc = R) : acc = R := by
  rw [hk, List.drop_length] at h; exact h
theorem sp_step {xs : List MarkR} {k : Nat} {acc R : ByteArray} (hk : k < xs.length) (h : spA (xs.drop k) acc = R) : spA (xs.drop (k + 1)) ((acc ++ ⟨#[32]⟩) ++ markT xs[k]) = R := by
  rw [drop_cons hk] at h; exact h
theorem sp_end {xs : List MarkR} {k : Nat} {acc R : ByteArray} (hk : k = xs.length) (h : spA (xs.drop k) acc = R) : acc = R := by
  rw [hk, List.drop_length] at h; exact h
theorem Cod.Sl.i64s {F : Nat → Prop} {w : World} {v : Value} {xs : List Int} (h : Cod.i64.Sl F w v xs) : I64s xs := by
  intro i hi
  obtain ⟨k, hk, rfl⟩ := List.getElem_of_mem hi
  obtain ⟨_, _, _, _, _, _, _, _, h1⟩ := h.i64_at hk
  exact h1

theorem szI_eq {xs : List Int} {l : Int} (h : 0 ≤ szI xs l) : szI xs l = l - xs.length := by
  unfold szI at h ⊢
  split at h
  · omega
  · rename_i g; rw [if_neg g]
/-- What the marks of one's own arguments weigh. -/
theorem szMarkr_w {x : MarkR} {l : Int} (h0 : 0 ≤ l) (h : 0 ≤ szMarkr x l) : (markW x : Int) ≤ 1 + (l - szMarkr x l) := by
  unfold szMarkr at h ⊢
  obtain ⟨g0, g1⟩ := szThen_pos h
  rw [szThen_go (by omega)] at h ⊢
  obtain ⟨g2, g3⟩ := szThen_pos h
  rw [szThen_go (by omega)]
  have := szI_eq (xs := x.fr) (l := l - x.ty.size) (by omega)
  unfold markW
  omega
theorem szList_w : ∀ (xs : List MarkR) (l : Int), 0 ≤ l → 0 ≤ szList szMarkr xs l → ((xs.map markW).sum : Int) ≤ xs.length + (l - szList szMarkr xs l)
  | [], l, _, _ => by show ((0 : Nat) : Int) ≤ ((0 : Nat) : Int) + (l - l); omega
  | x :: r, l, h0, h => by
    unfold szList at h ⊢
    split at h
    · omega
    · rename_i g
      rw [if_neg g, List.map_cons, List.sum_cons, List.length_cons]
      have h1 := szMarkr_w h0 (by omega : 0 ≤ szMarkr x l)
      have h2 := szList_w r (szMarkr x l) (by omega) h
      omega
theorem szS_w {xs : List MarkR} {l : Int} (h : 0 ≤ szS szMarkr xs l) : ((xs.map markW).sum : Int) ≤ l - szS szMarkr xs l := by
  unfold szS at h ⊢
  split at h
  · omega
  · rename_i g
    rw [if_neg g]
    have := szList_w xs (l - xs.length) (by omega) h
    omega
theorem szShaper_few {x : ShapeR} (h : 0 ≤ szShaper x 1048576) : (x.stack.map markW).sum + (x.places.map markW).sum ≤ 1048576 := by
  unfold szShaper at h
  obtain ⟨g0, g1⟩ := szThen_pos h
  rw [szThen_go (by omega)] at h
  obtain ⟨g2, g3⟩ := szThen_pos h
  have h1 := szS_w g0
  have h2 := szS_w g2
  omega

theorem empty_list {t : ByteArray} (h : t.size = 0) : t.toList = [] := List.eq_nil_of_length_eq_zero (by rw [length_toList, h])
theorem nonempty_list {t : ByteArray} (h : ¬ t.size = 0) : ¬ t.toList = [] := fun e => h (by rw [← length_toList, e]; rfl)

set_option maxRecDepth 100000 in
set_option maxHeartbeats 8000000 in
theorem l5Text_any (F : Nat → Prop) (v : Value) (xs : List MarkR) (w : World) (h : Cod.markr.Sl F w v xs) (hF : ∀ b, F b → b < w.heap.size) (hm : (xs.map markW).sum ≤ 2000000) :
    Calls Tryd.prog 40 #[v] w fun e w' => e = .returned (.string (spA xs ⟨#[]⟩)) ∧ Below w.heap.size w w' := by
  have HS := Lib.hid h
  have hI : ∀ x ∈ xs, I64s x.fr := by
    intro x hx
    obtain ⟨k, hk, rfl⟩ := List.getElem_of_mem hx
    obtain ⟨_, _, _, _, _, _, _, _, _, _, _, hV⟩ := HS.out.markr_at hk
    exact hV.fr.i64s
  have hR := (spA_size xs ⟨#[]⟩ hI).2
  have hR2 : (spA xs ⟨#[]⟩).size ≤ 42000000 := by show _ ≤ _; have h0 : (⟨#[]⟩ : ByteArray).size = 0 := rfl; omega
  obtain ⟨A, cap, rfl, hlc, hcm, _⟩ := h
  unfold maxLen at hcm
  have H0 : Hid (spA (xs.drop 0) ⟨#[]⟩ = spA xs ⟨#[]⟩) := rfl
  have HI := Lib.hid hI
  clear hR hI hm
  go_enter Tryd.func40, Tryd.ntmps40
  go_wp2
  go_loopw [3, 4] (fun o i wr => ∃ (k : Nat) (acc : ByteArray), k ≤ xs.length ∧ i = .int .i64 k ∧ o = .string acc ∧ Hid (spA (xs.drop k) acc = spA xs ⟨#[]⟩) ∧ Hid (Below w.heap.size w wr)) (fun _ i _ => xs.length - (intOf i).toNat)
  case atStart => exact ⟨0, _, Nat.zero_le _, rfl, rfl, H0, Below.refl _ _⟩
  case round =>
    obtain ⟨k, acc, hk, rfl, rfl, HH, HB⟩ := hrel
    by_cases hlt : k < xs.length
    · have HSr := Lib.hid (HS.out.keep (below_keeps HB.out hF))
      obtain ⟨b, off, c1, A1, e1, hv, _, _, _, hc0, hc1, hV⟩ := HSr.out.markr_at hlt
      obtain ⟨rfl, rfl⟩ : A = some ⟨b, off, none⟩ ∧ cap = c1 := by simpa using hv
      have HN := Lib.hid (sp_step hlt HH.out)
      have hI2 : ∀ x ∈ xs.drop (k + 1), I64s x.fr := fun x hx => HI.out x (List.mem_of_mem_drop hx)
      have hsn := (spA_size (xs.drop (k + 1)) ((acc ++ ⟨#[32]⟩) ++ markT xs[k]) hI2).1
      rw [HN.out, ByteArray.size_append, ByteArray.size_append] at hsn
      have hsa : acc.size ≤ 42000000 := by omega
      have hst : (markT xs[k]).size ≤ 42000000 := by omega
      have i0 : (0 : Int) ≤ k := by omega
      have i1 : (k : Int) < xs.length := by omega
      have hty := hV.ty
      unfold maxLen at hty
      clear hv hV hI2 hsn
      obtain ⟨wo, rfl⟩ : ∃ wo : World, wo = wr := ⟨_, rfl⟩
      by_cases he : xs[k].ty.size = 0
      ·
        have HT : Hid (headT xs[k].ty = ⟨#[45]⟩) := by show _ = _; unfold headT; rw [if_pos he]
        have H0 : Hid (dotsA (xs[k].fr.drop 0) (⟨#[45]⟩) = markT xs[k]) := by show _ = _; rw [← HT.out]; rfl
        have t1 : (xs[k].ty.toList == []) = true := by rw [empty_list he]; rfl
        have t2 : xs[k].ty.toList.isEmpty = true := by rw [empty_list he]; rfl
        clear he
        go_wp2
        go_loopw [5, 6] (fun t j wi => ∃ (q : Nat) (tx : ByteArray), q ≤ xs[k].fr.length ∧ j = .int .i64 q ∧ t = .string tx ∧ Hid (dotsA (xs[k].fr.drop q) tx = markT xs[k]) ∧ Hid (Below w.heap.size w wi)) (fun _ j _ => xs[k].fr.length - (intOf j).toNat)
        case atStart => exact ⟨0, _, Nat.zero_le _, rfl, rfl, H0, HB⟩
        case round =>
          obtain ⟨q, tx, hq, rfl, rfl, HD, HBi⟩ := hrel
          have HSi := Lib.hid (HS.out.keep (below_keeps HBi.out hF))
          obtain ⟨b', off', c2, A2, e2, hv', _, _, _, hd0, hd1, hV'⟩ := HSi.out.markr_at hlt
          obtain ⟨⟨rfl, rfl⟩, rfl⟩ : (b = b' ∧ off = off') ∧ cap = c2 := by simpa using hv'
          have HVi := Lib.hid hV'.fr
          have hi64 := hV'.fr.i64s
          clear hv' hV'
          by_cases hq' : q < xs[k].fr.length
          · obtain ⟨b3, off3, c3, hv3, _, hl3, hm3, hg0, hgi⟩ := HVi.out.i64_at hq'
            unfold maxLen at hm3
            obtain ⟨rfl, rfl⟩ : A2 = some ⟨b3, off3, none⟩ ∧ e2 = c3 := by simpa using hv3
            have HN := Lib.hid (dots_step hq' HD.out)
            have hsz := dotsA_size (xs[k].fr.drop q) tx fun i hi => hi64 i (List.mem_of_mem_drop hi)
            rw [HD.out] at hsz
            have hsn := dotsA_size (xs[k].fr.drop (q + 1)) ((tx ++ ⟨#[46]⟩) ++ decZ (xs[k].fr[q])) fun i hi => hi64 i (List.mem_of_mem_drop hi)
            rw [HN.out, ByteArray.size_append] at hsn
            have hs1 : (tx ++ ⟨#[46]⟩ : ByteArray).size ≤ 100000000 := by omega
            have hs2 : tx.size ≤ 100000000 := by omega
            have hs3 := size_decZ hgi
            have HC := Lib.hid (dec_any (xs[k].fr[q]) hgi wr)
            have j0 : (0 : Int) ≤ q := by omega
            have j1 : (q : Int) < xs[k].fr.length := by omega
            clear hv3 hsz hsn hi64
            go_wp2_with (go_at_call 77; refine HC.out.mono ?_; rintro e w2 ⟨rfl, hb2⟩)
            go_roundw
            case rel => exact ⟨q + 1, _, by omega, by go_num, rfl, HN, HBi.out.trans (hb2.mono HBi.out.size)⟩
            case measure => simp [intOf]; omega
          · have HE := Lib.hid (dots_end (by omega) HD.out)
            have hs1 : tx.size ≤ 100000000 := by rw [HE.out]; omega
            have hs2 : (acc ++ ⟨#[32]⟩ : ByteArray).size ≤ 100000000 := by rw [ByteArray.size_append]; show _ + 1 ≤ _; omega
            rw [← HE.out] at HN
            have j2 : ¬ (q : Int) < xs[k].fr.length := by omega
            clear hi64
            go_wp2
            go_roundw
            case rel => exact ⟨k + 1, _, by omega, by go_num, rfl, HN, HBi⟩
            case measure => simp [intOf]; omega
      ·
        have HT : Hid (headT xs[k].ty = xs[k].ty) := by show _ = _; unfold headT; rw [if_neg he]
        have H0 : Hid (dotsA (xs[k].fr.drop 0) (xs[k].ty) = markT xs[k]) := by show _ = _; rw [← HT.out]; rfl
        have t1 : (xs[k].ty.toList == []) = false := by rw [beq_eq_false_iff_ne]; exact nonempty_list he
        have t2 : xs[k].ty.toList.isEmpty = false := by rw [List.isEmpty_eq_false_iff]; exact nonempty_list he
        clear he
        go_wp2
        go_loopw [5, 6] (fun t j wi => ∃ (q : Nat) (tx : ByteArray), q ≤ xs[k].fr.length ∧ j = .int .i64 q ∧ t = .string tx ∧ Hid (dotsA (xs[k].fr.drop q) tx = markT xs[k]) ∧ Hid (Below w.heap.size w wi)) (fun _ j _ => xs[k].fr.length - (intOf j).toNat)
        case atStart => exact ⟨0, _, Nat.zero_le _, rfl, rfl, H0, HB⟩
        case round =>
          obtain ⟨q, tx, hq, rfl, rfl, HD, HBi⟩ := hrel
          have HSi := Lib.hid (HS.out.keep (below_keeps HBi.out hF))
          obtain ⟨b', off', c2, A2, e2, hv', _, _, _, hd0, hd1, hV'⟩ := HSi.out.markr_at hlt
          obtain ⟨⟨rfl, rfl⟩, rfl⟩ : (b = b' ∧ off = off') ∧ cap = c2 := by simpa using hv'
          have HVi := Lib.hid hV'.fr
          have hi64 := hV'.fr.i64s
          clear hv' hV'
          by_cases hq' : q < xs[k].fr.length
          · obtain ⟨b3, off3, c3, hv3, _, hl3, hm3, hg0, hgi⟩ := HVi.out.i64_at hq'
            unfold maxLen at hm3
            obtain ⟨rfl, rfl⟩ : A2 = some ⟨b3, off3, none⟩ ∧ e2 = c3 := by simpa using hv3
            have HN := Lib.hid (dots_step hq' HD.out)
            have hsz := dotsA_size (xs[k].fr.drop q) tx fun i hi => hi64 i (List.mem_of_mem_drop hi)
            rw [HD.out] at hsz
            have hsn := dotsA_size (xs[k].fr.drop (q + 1)) ((tx ++ ⟨#[46]⟩) ++ decZ (xs[k].fr[q])) fun i hi => hi64 i (List.mem_of_mem_drop hi)
            rw [HN.out, ByteArray.size_append] at hsn
            have hs1 : (tx ++ ⟨#[46]⟩ : ByteArray).size ≤ 100000000 := by omega
            have hs2 : tx.size ≤ 100000000 := by omega
            have hs3 := size_decZ hgi
            have HC := Lib.hid (dec_any (xs[k].fr[q]) hgi wr)
            have j0 : (0 : Int) ≤ q := by omega
            have j1 : (q : Int) < xs[k].fr.length := by omega
            clear hv3 hsz hsn hi64
            go_wp2_with (go_at_call 77; refine HC.out.mono ?_; rintro e w2 ⟨rfl, hb2⟩)
            go_roundw
            case rel => exact ⟨q + 1, _, by omega, by go_num, rfl, HN, HBi.out.trans (hb2.mono HBi.out.size)⟩
            case measure => simp [intOf]; omega
          · have HE := Lib.hid (dots_end (by omega) HD.out)
            have hs1 : tx.size ≤ 100000000 := by rw [HE.out]; omega
            have hs2 : (acc ++ ⟨#[32]⟩ : ByteArray).size ≤ 100000000 := by rw [ByteArray.size_append]; show _ + 1 ≤ _; omega
            rw [← HE.out] at HN
            have j2 : ¬ (q : Int) < xs[k].fr.length := by omega
            clear hi64
            go_wp2
            go_roundw
            case rel => exact ⟨k + 1, _, by omega, by go_num, rfl, HN, HBi⟩
            case measure => simp [intOf]; omega
    · have HE := Lib.hid (sp_end (by omega) HH.out)
      go_wp2
      go_ret
      exact ⟨ret_str HE.out, HB.out⟩
end Go.Proofs.YtgfpncpphpkahaaDoor

namespace Go.Proofs.YtgfpncpphpkahaaDoor
open Go.RowKit

def preT (x : ShapeR) : ByteArray := (spA x.stack ⟨#[]⟩ ++ ⟨#[32, 124]⟩) ++ spA x.places ⟨#[]⟩
def shapeT (x : ShapeR) : ByteArray := (preT x).extract 1 (preT x).size
theorem Cod.Sl.mark64 {F : Nat → Prop} {w : World} {v : Value} {xs : List MarkR} (h : Cod.markr.Sl F w v xs) : ∀ x ∈ xs, I64s x.fr := by
  intro x hx
  obtain ⟨k, hk, rfl⟩ := List.getElem_of_mem hx
  obtain ⟨_, _, _, _, _, _, _, _, _, _, _, hV⟩ := h.markr_at hk
  exact hV.fr.i64s
theorem spA_few {F : Nat → Prop} {w : World} {v : Value} {xs : List MarkR} (h : Cod.markr.Sl F w v xs) (hm : (xs.map markW).sum ≤ 2000000) : (spA xs ⟨#[]⟩).size ≤ 42000000 := by
  have h1 := (spA_size xs ⟨#[]⟩ h.mark64).2
  have h0 : (⟨#[]⟩ : ByteArray).size = 0 := rfl
  omega

set_option maxRecDepth 100000 in
set_option maxHeartbeats 4000000 in
theorem specShapeText_any (F : Nat → Prop) (A0 A1 : Option Addr) (n0 c0 n1 c1 : Nat) (x : ShapeR) (w : World) (h : ShapeRd F w (.slice A0 n0 c0) (.slice A1 n1 c1) x) (hF : ∀ b, F b → b < w.heap.size) (hm : (x.stack.map markW).sum + (x.places.map markW).sum ≤ 1048576) :
    Calls Tryd.prog 19 #[.agg #[.slice A0 n0 c0, .slice A1 n1 c1]] w fun e w' => e = .returned (.string (shapeT x)) ∧ Below w.heap.size w w' := by
  obtain ⟨w0, hw0⟩ : ∃ w0, w0 = w.alloc (.cells #[.slice A0 n0 c0, .slice A1 n1 c1] 26) := ⟨_, rfl⟩
  have hb0 : Below w.heap.size w w0 := by rw [hw0]; exact (Below.refl _ _).alloc (Nat.le_refl _) _
  have HB0 := Lib.hid (show Blk w0 w.heap.size 26 #[.slice A0 n0 c0, .slice A1 n1 c1] by rw [hw0]; exact Blk.new _ _ _)
  have HV := Lib.hid (h.keep (below_keeps hb0 hF))
  have HF0 := Lib.hid (show ∀ b, F b → b < w0.heap.size from fun b hb => Nat.lt_of_lt_of_le (hF b hb) hb0.size)
  have hs1 := spA_few h.stack (by omega)
  have hs2 := spA_few h.places (by omega)
  have hlt := HB0.out.lt
  have k0 := Later.cell (w0 := w0) (p := ⟨w.heap.size, 0, none⟩) hlt HB0.out.g2.1
  have k1 := Later.cell (w0 := w0) (p := ⟨w.heap.size, 1, none⟩) hlt HB0.out.g2.2
  have HC1 := Lib.hid fun s : Later w0 => Calls.later (l5Text_any F _ x.stack s.w (HV.out.stack.keep fun b hb => s.h.block b (HF0.out b hb)) (fun b hb => Nat.lt_of_lt_of_le (HF0.out b hb) s.h.size) (by omega))
  have HC2 := Lib.hid fun s : Later w0 => Calls.later (l5Text_any F _ x.places s.w (HV.out.places.keep fun b hb => s.h.block b (HF0.out b hb)) (fun b hb => Nat.lt_of_lt_of_le (HF0.out b hb) s.h.size) (by omega))
  have HE := Lib.hid hb0
  have Hw0 := Lib.hid hw0
  have HP : Hid (shapeT x = (preT x).extract 1 (preT x).size) := rfl
  have hp1 : (preT x).size ≤ 100000000 := by unfold preT; rw [ByteArray.size_append, ByteArray.size_append]; have : (⟨#[32, 124]⟩ : ByteArray).size = 2 := rfl; omega
  have hp2 : 2 ≤ (preT x).size := by unfold preT; rw [ByteArray.size_append, ByteArray.size_append]; have : (⟨#[32, 124]⟩ : ByteArray).size = 2 := rfl; omega
  have hp3 : (spA x.stack ⟨#[]⟩ ++ ⟨#[32, 124]⟩ : ByteArray).size ≤ 50000000 := by rw [ByteArray.size_append]; have : (⟨#[32, 124]⟩ : ByteArray).size = 2 := rfl; omega
  unfold preT at hp1 hp2 HP
  clear h hF hm hw0 hb0
  go_enter Tryd.func19, Tryd.ntmps19
  go_wp2_with fail
  rw [← Hw0.out]
  refine wp_region_later w0 (Below.refl _ _) (by kernel_rfl) (by kernel_rfl) ?_
  repeat (go_big_quiet_step (first | (go_at_call 40; with_reducible exact HC1.out _) | (go_at_call 40; with_reducible exact HC2.out _)))
  refine wpQuiet_nil ?_
  intro s
  go_wp2
  go_ret
  exact ⟨ret_str (by have g := HP.out; rw [ByteArray.size_append, ByteArray.size_append] at g; exact g.symm), HE.out.trans (s.h.mono HE.out.size)⟩
end Go.Proofs.YtgfpncpphpkahaaDoor
