/- The program's types: the small functions. -/
import Derived.Test.YthhheipinogcoaaDoorSpb
import Derived.Test.YthhheipinogcoaaDoorMap
namespace Go.Proofs.YthhheipinogcoaaDoor
open Go.RowKit

/-- The name of a kind. -/
def nameB (m k : Nat) : ByteArray := strOfNums [83, 48 + (m : Int), 48 + (k : Int)]

set_option maxRecDepth 100000 in
set_option maxHeartbeats 400000 in
theorem kindName_any (m k : Nat) (w : World) (hm : m ≤ 9) (hk : k ≤ 9) :
    Calls Tryd.prog 46 #[.int .i64 m, .int .i64 k] w fun e w' => e = .returned (.string (nameB m k)) ∧ Below w.heap.size w w' := by
  have hcv := run_convert_bytes_arg (P := Tryd.prog) (w.alloc (.cells #[.int .u8 83, .int .u8 (48 + (m : Int)), .int .u8 (48 + (k : Int))] 5)) 108 5 Tryd.underlying108 Tryd.underlying5 w.heap.size 0 3 3 [83, 48 + (m : Int), 48 + (k : Int)] rfl
    (fun i hi => by
      rw [Nat.zero_add]
      have hB := Blk.new w 5 #[.int .u8 83, .int .u8 (48 + (m : Int)), .int .u8 (48 + (k : Int))]
      rw [hB.cell]
      match i, hi with
      | 0, _ => rfl
      | 1, _ => rfl
      | 2, _ => rfl) 9 Tryd.underlying9
  go_enter Tryd.func46, Tryd.ntmps46
  go_wp2
  go_ret
  exact ⟨rfl, (Below.refl _ _).alloc (Nat.le_refl _) _⟩

def needOf (able : Int) : Int := if (bits .and .i64 able 12 != 0) = true then bits .or .i64 (bits .and .i64 able 3) 4 else bits .and .i64 able 3

set_option maxHeartbeats 400000 in
theorem fieldNeed_any (able : Int) (w : World) :
    Calls Tryd.prog 65 #[.int .i64 able] w fun e w' => e = .returned (.int .i64 (needOf able)) ∧ w = w' := by
  cases hb : (bits .and .i64 able 12 != 0)
  · have HN : Hid (needOf able = bits .and .i64 able 3) := by show _ = _; unfold needOf; rw [hb]; rfl
    go_enter Tryd.func65, Tryd.ntmps65
    go_wp2
    go_ret
    exact ⟨ret_int HN.out.symm, rfl⟩
  · have HN : Hid (needOf able = bits .or .i64 (bits .and .i64 able 3) 4) := by show _ = _; unfold needOf; rw [hb]; rfl
    go_enter Tryd.func65, Tryd.ntmps65
    go_wp2
    go_ret
    exact ⟨ret_int HN.out.symm, rfl⟩

def signB (t : ByteArray) : ByteArray := if refB t then t.extract 0 1 else ByteArray.empty

theorem ret_ss {a b a' b' : ByteArray} (ha : a = a') (hb : b = b') : Ending.returned (.tuple #[.string a, .string b]) = .returned (.tuple #[.string a', .string b']) := by rw [ha, hb]
theorem empty_of_size {t : ByteArray} (h : t.size = 0) : t = ByteArray.empty := by
  apply ext_toList
  have : t.toList.length = 0 := by rw [length_toList, h]
  rw [List.eq_nil_of_length_eq_zero this, toList_data]; rfl

set_option maxHeartbeats 400000 in
theorem splitSign_any (t : ByteArray) (w : World) (hs : t.size ≤ maxLen) :
    Calls Tryd.prog 68 #[.string t] w fun e w' => e = .returned (.tuple #[.string (signB t), .string (ofT t)]) ∧ ∃ n, w' = w.drewN n := by
  unfold maxLen at hs
  by_cases h0 : 0 < t.size
  · have he : t.toList.isEmpty = false := by
      rw [List.isEmpty_eq_false_iff]
      intro h
      have := length_toList t
      rw [h] at this
      simp at this
      omega
    cases h1 : ((t[0].toNat : Int) == 38)
    · cases h2 : ((t[0].toNat : Int) == 33)
      · have HR : Hid (signB t = ByteArray.empty ∧ ofT t = t) := by
          have hr : refB t = false := by unfold refB; rw [dif_pos h0, h1, h2]; rfl
          show _ ∧ _; unfold signB ofT; rw [hr]; exact ⟨rfl, rfl⟩
        go_enter Tryd.func68, Tryd.ntmps68
        go_wp2
        go_ret2
        exact ⟨ret_ss HR.out.1.symm HR.out.2.symm, 0, rfl⟩
      · have HR : Hid (signB t = t.extract 0 1 ∧ ofT t = t.extract 1 t.size) := by
          have hr : refB t = true := by unfold refB; rw [dif_pos h0, h1, h2]; rfl
          show _ ∧ _; unfold signB ofT; rw [hr]; exact ⟨rfl, rfl⟩
        go_enter Tryd.func68, Tryd.ntmps68
        go_wp2
        go_quiet (fail)
        go_wp2
        go_ret2
        exact ⟨ret_ss HR.out.1.symm HR.out.2.symm, _, rfl⟩
    · have HR : Hid (signB t = t.extract 0 1 ∧ ofT t = t.extract 1 t.size) := by
        have hr : refB t = true := by unfold refB; rw [dif_pos h0, h1]; rfl
        show _ ∧ _; unfold signB ofT; rw [hr]; exact ⟨rfl, rfl⟩
      go_enter Tryd.func68, Tryd.ntmps68
      go_wp2
      go_quiet (fail)
      go_wp2
      go_ret2
      exact ⟨ret_ss HR.out.1.symm HR.out.2.symm, _, rfl⟩
  · obtain rfl : t = ByteArray.empty := empty_of_size (by omega)
    go_enter Tryd.func68, Tryd.ntmps68
    go_wp2
    go_ret2
    exact ⟨rfl, 0, rfl⟩

/-- A record as an element of a map: of it the abilities alone are told. -/
def RecV (v : Value) (r : Rec) : Prop := ∃ A n c, v = .agg #[.int .i64 r.able, .slice A n c]
def firstIs (t : ByteArray) (c : Int) : Bool := if h : 0 < t.size then (t[0].toNat : Int) == c else false
def plainL (l : List (ByteArray × Rec)) (t : ByteArray) : Int :=
  if baseB t then 7 else if firstIs t 83 then (match look l t with | some r => r.able | none => -1) else -1

theorem zero_rec (w : World) : (zeroValue 59).run Tryd.prog w = .ok (.agg #[.int .i64 0, .slice none 0 0]) w := by kernel_rfl

theorem base_size {t : ByteArray} (h : baseB t = true) : t.size = 1 := by
  rw [← length_toList]
  rcases base_cases h with h | h | h <;> rw [h] <;> rfl
theorem base_of {t : ByteArray} (h1 : t.size = 1) {c : UInt8} (hc : t[0]'(by omega) = c) (h : c = 110 ∨ c = 98 ∨ c = 111) : baseB t = true := by
  have hl : t.toList = [c] := by
    have hg := get_toList t 0 (by omega)
    have hn : t.toList.length = 1 := by rw [length_toList, h1]
    match hm : t.toList, hn with
    | [a], _ =>
      rw [hm] at hg
      simp at hg
      rw [hg, hc]
  unfold baseB
  rw [hl]
  rcases h with rfl | rfl | rfl <;> rfl
theorem base_first {t : ByteArray} (h : baseB t = true) : firstIs t 110 = true ∨ firstIs t 98 = true ∨ firstIs t 111 = true := by
  have h1 := base_size h
  have h0 : 0 < t.size := by omega
  have hg := get_toList t 0 h0
  unfold firstIs
  rw [dif_pos h0, dif_pos h0, dif_pos h0]
  rcases base_cases h with h | h | h <;> rw [h] at hg <;> simp at hg <;> rw [← hg] <;> simp
theorem byte_of {c : UInt8} {n : Nat} (h : ((c.toNat : Int) == (n : Int)) = true) : c.toNat = n := by
  have := beq_iff_eq.1 h
  omega
theorem plainL_7 {l : List (ByteArray × Rec)} {t : ByteArray} (h : baseB t = true) : plainL l t = 7 := by unfold plainL; rw [h]; rfl
theorem plainL_no {l : List (ByteArray × Rec)} {t : ByteArray} (h : baseB t = false) (h2 : firstIs t 83 = false) : plainL l t = -1 := by unfold plainL; rw [h, h2]; rfl
theorem base_not {t : ByteArray} (h : t.size ≠ 1) : baseB t = false := by
  cases hb : baseB t with
  | false => rfl
  | true => exact absurd (base_size hb) h
theorem isEmpty_pos {t : ByteArray} (h0 : 0 < t.size) : t.toList.isEmpty = false := by
  rw [List.isEmpty_eq_false_iff]
  intro h
  have := length_toList t
  rw [h] at this
  simp at this
  omega

set_option maxHeartbeats 1000000 in
theorem plainAble_any (l : List (ByteArray × Rec)) (b : Nat) (t : ByteArray) (w : World) (hl : MapIs RecV w b l) (hs : t.size ≤ maxLen) :
    Calls Tryd.prog 66 #[.map (some b), .string t] w fun e w' => e = .returned (.int .i64 (plainL l t)) ∧ Below w.heap.size w w' := by
  unfold maxLen at hs
  by_cases h0 : 0 < t.size
  · have he := isEmpty_pos h0
    have hfi : ∀ c, firstIs t c = ((t[0].toNat : Int) == c) := fun c => by unfold firstIs; rw [dif_pos h0]
    have Hfi := Lib.hid hfi
    clear hfi
    cases c1 : ((t[0].toNat : Int) == 110)
    · cases c2 : ((t[0].toNat : Int) == 98)
      · cases c3 : ((t[0].toNat : Int) == 111)
        · have hb : baseB t = false := by
            cases hb : baseB t with
            | false => rfl
            | true => rcases base_first hb with h | h | h <;> rw [Hfi.out] at h <;> simp [h] at c1 c2 c3
          cases c4 : ((t[0].toNat : Int) == 83)
          · have HP : Hid (plainL l t = -1) := by show _ = _; unfold plainL; rw [hb, Hfi.out, c4]; rfl
            clear hl hb
            go_enter Tryd.func66, Tryd.ntmps66
            go_wp2
            go_ret
            exact ⟨ret_int HP.out.symm, Below.refl _ _⟩
          · rcases hl.lookup Tryd.underlying50 Tryd.underlying9 _ (zero_rec w) t true with ⟨g1, g2⟩ | ⟨r, v, g1, ⟨A, n, c, rfl⟩, g2⟩
            · have HP : Hid (plainL l t = -1) := by show _ = _; unfold plainL; rw [hb, Hfi.out, c4, g1]; rfl
              clear hl hb g1
              simp only [if_true] at g2
              go_enter Tryd.func66, Tryd.ntmps66
              go_wp2
              go_ret
              exact ⟨ret_int HP.out.symm, (Below.refl _ _).alloc (Nat.le_refl _) _⟩
            · have HP : Hid (plainL l t = r.able) := by show _ = _; unfold plainL; rw [hb, Hfi.out, c4, g1]; rfl
              clear hl hb g1
              simp only [if_true] at g2
              go_enter Tryd.func66, Tryd.ntmps66
              go_wp2
              go_ret
              exact ⟨ret_int HP.out.symm, (Below.refl _ _).alloc (Nat.le_refl _) _⟩
        · by_cases h1 : t.size = 1
          · have HP : Hid (plainL l t = 7) := plainL_7 (base_of (c := 111) h1 (UInt8.toNat_inj.1 (byte_of (n := 111) c3)) (by simp))
            have b1 : ((t.size : Int) == 1) = true := by rw [beq_iff_eq]; omega
            clear hl h1
            go_enter Tryd.func66, Tryd.ntmps66
            go_wp2
            go_ret
            exact ⟨ret_int HP.out.symm, Below.refl _ _⟩
          · have HP : Hid (plainL l t = -1) := plainL_no (base_not h1) (by rw [Hfi.out, ← Bool.not_eq_true]; intro h; have e1 := byte_of (n := 83) h; have e2 := byte_of (n := 111) c3; omega)
            have b1 : ((t.size : Int) == 1) = false := by rw [beq_eq_false_iff_ne]; omega
            clear hl h1
            go_enter Tryd.func66, Tryd.ntmps66
            go_wp2
            go_ret
            exact ⟨ret_int HP.out.symm, Below.refl _ _⟩
      · by_cases h1 : t.size = 1
        · have HP : Hid (plainL l t = 7) := plainL_7 (base_of (c := 98) h1 (UInt8.toNat_inj.1 (byte_of (n := 98) c2)) (by simp))
          have b1 : ((t.size : Int) == 1) = true := by rw [beq_iff_eq]; omega
          clear hl h1
          go_enter Tryd.func66, Tryd.ntmps66
          go_wp2
          go_ret
          exact ⟨ret_int HP.out.symm, Below.refl _ _⟩
        · have HP : Hid (plainL l t = -1) := plainL_no (base_not h1) (by rw [Hfi.out, ← Bool.not_eq_true]; intro h; have e1 := byte_of (n := 83) h; have e2 := byte_of (n := 98) c2; omega)
          have b1 : ((t.size : Int) == 1) = false := by rw [beq_eq_false_iff_ne]; omega
          clear hl h1
          go_enter Tryd.func66, Tryd.ntmps66
          go_wp2
          go_ret
          exact ⟨ret_int HP.out.symm, Below.refl _ _⟩
    · by_cases h1 : t.size = 1
      · have HP : Hid (plainL l t = 7) := plainL_7 (base_of (c := 110) h1 (UInt8.toNat_inj.1 (byte_of (n := 110) c1)) (by simp))
        have b1 : ((t.size : Int) == 1) = true := by rw [beq_iff_eq]; omega
        clear hl h1
        go_enter Tryd.func66, Tryd.ntmps66
        go_wp2
        go_ret
        exact ⟨ret_int HP.out.symm, Below.refl _ _⟩
      · have HP : Hid (plainL l t = -1) := plainL_no (base_not h1) (by rw [Hfi.out, ← Bool.not_eq_true]; intro h; have e1 := byte_of (n := 83) h; have e2 := byte_of (n := 110) c1; omega)
        have b1 : ((t.size : Int) == 1) = false := by rw [beq_eq_false_iff_ne]; omega
        clear hl h1
        go_enter Tryd.func66, Tryd.ntmps66
        go_wp2
        go_ret
        exact ⟨ret_int HP.out.symm, Below.refl _ _⟩
  · obtain rfl : t = ByteArray.empty := empty_of_size (by omega)
    have HP : Hid (plainL l ByteArray.empty = -1) := plainL_no (base_not (by decide)) (by unfold firstIs; rw [dif_neg h0])
    clear hl
    go_enter Tryd.func66, Tryd.ntmps66
    go_wp2
    go_ret
    exact ⟨ret_int HP.out.symm, Below.refl _ _⟩
end Go.Proofs.YthhheipinogcoaaDoor
