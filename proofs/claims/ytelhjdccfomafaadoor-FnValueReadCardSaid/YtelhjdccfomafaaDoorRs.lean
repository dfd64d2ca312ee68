/- The program's reader: whatever the type, a value of it is read; the type that is told ahead. The program's ValueRead. -/
import Derived.Test.YtelhjdccfomafaaDoorRqa
namespace Go.Proofs.YtelhjdccfomafaaDoor
open Go.RowKit

theorem kindOf_three {t : ByteArray} {m k : Nat} (h : kindOf t = some (m, k)) : t.size = 3 := by
  unfold kindOf at h
  split at h
  · assumption
  · cases h
theorem field_size {ks : Ks} {m k : Nat} {f : ByteArray} (h : fieldB ks m k f = true) : f.size ≤ 3 := by
  unfold fieldB at h
  split at h
  · have := length_toList f
    rcases base_cases h with h | h | h <;> rw [h] at this <;> simp at this <;> omega
  · rename_i am ak hk
    exact Nat.le_of_eq (kindOf_three hk)
theorem rank_of {t : ByteArray} {m k : Nat} (h : kindOf t = some (m, k)) : rank t = 10 * m + k + 1 := by unfold rank; rw [h]
theorem rec_few {ks : Ks} (h : kindsOk ks = true) {m k : Nat} (hh : hasB ks m k = true) : (recAt ks m k).fields.length ≤ 3 := by
  have := ok_rec h hh
  unfold recB at this
  simp only [Bool.and_eq_true, decide_eq_true_eq] at this
  exact this.1.2

set_option maxRecDepth 100000 in
theorem read_all {ks : Ks} {F : Nat → Prop} (rb tb : Nat) (s : ByteArray) (hs : s.size ≤ 2000000) (htb : tb ≠ rb) (hok : kindsOk ks = true) : ∀ (d : Nat) (t : ByteArray), t.size ≤ 3 → (∀ m k, kindOf t = some (m, k) → hasB ks m k = true → rank t ≤ d) →
    ∀ (i : Nat) (w : World), Table F ks tb w → (∀ b, F b → b < w.heap.size ∧ b ≠ rb) → RdB rb tb s i w → i ≤ s.size → Calls Tryd.prog 27 #[.pointer (some ⟨rb, 0, none⟩), .string t] w (ReadD ks d rb tb s i t w) := by
  intro d
  induction d with
  | zero =>
    intro t hts hr i w hT hF hR hi
    refine value_of 0 rb tb i s t w hR hi hs hts fun c1 c2 c3 => record_of 0 rb tb i s t _ (hT.keep (fun b hb => Below.heap_alloc _ _ _ (hF b hb).1) (Below.heap_alloc _ _ _ hT.lt)) (fun b hb => ⟨by have := (hF b hb).1; simp; omega, (hF b hb).2⟩) htb (hR.alloc _) hi hs c1 c2 c3 fun m k hk hh => ?_
    have h1 := hr m k hk hh
    have h2 := rank_of hk
    omega
  | succ d ih =>
    intro t hts hr i w hT hF hR hi
    refine value_of (d + 1) rb tb i s t w hR hi hs hts fun c1 c2 c3 => record_of (d + 1) rb tb i s t _ (hT.keep (fun b hb => Below.heap_alloc _ _ _ (hF b hb).1) (Below.heap_alloc _ _ _ hT.lt)) (fun b hb => ⟨by have := (hF b hb).1; simp; omega, (hF b hb).2⟩) htb (hR.alloc _) hi hs c1 c2 c3 fun m k hk hh => ?_
    have h1 := hr m k hk hh
    have h2 := rank_of hk
    refine ⟨by have := rec_few hok hh; omega, d, rfl, fun f hf i' w' hT' hF' hR' hi' => ?_⟩
    have hfb := ok_field hok hh hf
    refine ih f (field_size hfb) (fun m' k' hk' hh' => ?_) i' w' hT' hF' hR' hi'
    have := rank_field (kindOf_le hk).2 hfb
    omega

/-- The type that is told ahead at the first byte. -/
def ahead (s : ByteArray) : ByteArray := if atB s 0 = 45 ∨ atB s 0 = 43 then ⟨#[98]⟩ else if atB s 0 = 64 then ⟨#[111]⟩ else if atB s 0 = 83 then s.extract 0 (min 3 s.size) else ⟨#[110]⟩
theorem ahead_size (s : ByteArray) : (ahead s).size ≤ 3 := by
  unfold ahead
  split
  · decide
  · split
    · decide
    · split
      · rw [ByteArray.size_extract]; omega
      · decide

theorem atB_L {s : ByteArray} {c : UInt8} {r : List UInt8} (h : tl s 0 = c :: r) : atB s 0 = c.toNat := by
  have hs : 0 < s.size := by
    rcases Nat.eq_zero_or_pos s.size with h0 | h0
    · rw [tl_end (by omega)] at h; cases h
    · exact h0
  rw [tl_cons hs] at h
  simp only [List.cons.injEq] at h
  unfold atB
  rw [dif_pos hs, h.1]
theorem dec_first (n : Nat) : ∃ c r, Lib.decDigits n = c :: r ∧ 48 ≤ c.toNat ∧ c.toNat ≤ 57 := by
  obtain ⟨h1, _, h3⟩ := dec_digits n
  cases h : Lib.decDigits n with
  | nil => exact absurd h h3
  | cons c r => exact ⟨c, r, rfl, h1 c (by rw [h]; simp)⟩
theorem ahead_ty {ks : Ks} {d : Nat} {s : ByteArray} {v : Val} {r : List UInt8} (hv : okV ks (d + 1) v = true) (h : tl s 0 = lOf (textV (d + 1)) v ++ r) : v.ty = ahead s := by
  have hv' : okOf ks (okV ks d) v = true := hv
  rw [show textV (d + 1) = textOf (textV d) from rfl, textOf_L] at h
  cases c1 : (v.ty.toList == [110])
  · cases c2 : (v.ty.toList == [98])
    · cases c3 : (v.ty.toList == [111])
      · obtain ⟨m, k, hk, hh, _⟩ := okOf_parts hv' c1 c2 c3
        rw [c1, c2, c3] at h
        simp only [Bool.false_eq_true, if_false] at h
        have h3 := kindOf_three hk
        have hb : (v.ty[0]'(by omega)).toNat = 83 := by
          unfold kindOf at hk
          rw [dif_pos h3] at hk
          split at hk
          · rename_i hc; exact hc.1
          · cases hk
        have hl3 : v.ty.data.toList.length = 3 := by simpa using h3
        have he : v.ty.data.toList = v.ty[0]'(by omega) :: v.ty.data.toList.drop 1 := by
          have := tl_cons (s := v.ty) (i := 0) (by omega)
          simpa [tl] using this
        have ha : atB s 0 = 83 := by
          rw [← hb]
          rw [he] at h
          exact atB_L h
        have htk : s.data.toList.take 3 = v.ty.data.toList := by
          have h' : s.data.toList = v.ty.data.toList ++ (40 :: (joinL (lOf (textV d)) true v.parts ++ [41]) ++ r) := by
            have : tl s 0 = s.data.toList := by simp [tl]
            rw [← this, h]
            simp
          rw [h', List.take_append_of_le_length (by omega), List.take_of_length_le (by omega)]
        have hs3 : 3 ≤ s.size := by
          have : (s.data.toList.take 3).length = 3 := by rw [htk, hl3]
          rw [List.length_take] at this
          have e : s.data.toList.length = s.size := by simp
          omega
        unfold ahead
        rw [ha, if_neg (by decide), if_neg (by decide), if_pos rfl, Nat.min_eq_left hs3]
        apply ext_toList
        rw [toList_data, toList_data, ← htk]
        simp [ByteArray.data_extract, Array.toList_extract, List.extract_eq_take_drop]
      · rw [c1, c2, c3] at h
        simp only [Bool.false_eq_true, if_false, if_true, List.cons_append] at h
        have ha : atB s 0 = 64 := atB_L h
        unfold ahead
        rw [ha, if_neg (by decide), if_pos rfl]
        exact ext_toList (by rw [beq_iff_eq] at c3; rw [c3, toList_data])
    · rw [c1, c2] at h
      simp only [Bool.false_eq_true, if_false, if_true] at h
      have ha : atB s 0 = 45 ∨ atB s 0 = 43 := by
        split at h
        · exact .inl (atB_L h)
        · exact .inr (atB_L h)
      unfold ahead
      rw [if_pos ha]
      exact ext_toList (by rw [beq_iff_eq] at c2; rw [c2, toList_data])
  · rw [c1] at h
    simp only [if_true] at h
    rw [decBy_L] at h
    obtain ⟨c, r', e, h1, h2⟩ := dec_first v.n.toNat
    rw [e] at h
    have ha : atB s 0 = c.toNat := atB_L h
    unfold ahead
    rw [ha, if_neg (by omega), if_neg (by omega), if_neg (by omega)]
    exact ext_toList (by rw [beq_iff_eq] at c1; rw [c1, toList_data])

set_option maxRecDepth 100000 in
set_option maxHeartbeats 1000000 in
theorem typeAhead_any (rb tb : Nat) (s : ByteArray) (w : World) (h : RdB rb tb s 0 w) (hs : s.size ≤ 2000000) :
    Calls Tryd.prog 28 #[.pointer (some ⟨rb, 0, none⟩)] w fun e w' => e = .returned (.string (ahead s)) ∧ Quiet w w' := by
  have HP := Lib.hid (peek_any rb tb 0 s w h (Nat.zero_le _) hs)
  have HR := Lib.hid h
  by_cases h45 : atB s 0 = 45
  · have HA : Hid (ahead s = ⟨#[98]⟩) := by show _ = _; unfold ahead; rw [if_pos (.inl h45)]
    rw [h45] at HP
    clear h h45
    go_enter Tryd.func28, Tryd.ntmps28
    go_wp2_with fail
    refine HP.out.mono ?_
    rintro e w1 ⟨rfl, hq⟩
    go_wp2_with fail
    go_ret
    exact ⟨ret_str HA.out.symm, hq⟩
  by_cases h43 : atB s 0 = 43
  · have HA : Hid (ahead s = ⟨#[98]⟩) := by show _ = _; unfold ahead; rw [if_pos (.inr h43)]
    rw [h43] at HP
    clear h h45 h43
    go_enter Tryd.func28, Tryd.ntmps28
    go_wp2_with fail
    refine HP.out.mono ?_
    rintro e w1 ⟨rfl, hq⟩
    go_wp2_with fail
    go_ret
    exact ⟨ret_str HA.out.symm, hq⟩
  by_cases h64 : atB s 0 = 64
  · have HA : Hid (ahead s = ⟨#[111]⟩) := by show _ = _; unfold ahead; rw [if_neg (by omega), if_pos h64]
    rw [h64] at HP
    clear h h45 h43 h64
    go_enter Tryd.func28, Tryd.ntmps28
    go_wp2_with fail
    refine HP.out.mono ?_
    rintro e w1 ⟨rfl, hq⟩
    go_wp2_with fail
    go_ret
    exact ⟨ret_str HA.out.symm, hq⟩
  by_cases h83 : atB s 0 = 83
  · have HA : Hid (ahead s = s.extract 0 (min 3 s.size)) := by show _ = _; unfold ahead; rw [if_neg (by omega), if_neg (by omega), if_pos h83]
    rw [h83] at HP
    clear h h45 h43 h64 h83
    go_enter Tryd.func28, Tryd.ntmps28
    go_wp2_with fail
    refine HP.out.mono ?_
    rintro e w1 ⟨rfl, hq⟩
    have HR1 := Lib.hid (hq.rd HR.out)
    have HQ := Lib.hid hq
    clear hq
    obtain ⟨x0, x1, x2⟩ := HR1.out.c
    have x3 : w1.cell? ⟨rb, 2, none⟩ = some (.int .i64 0) := x2
    clear x2
    by_cases h3 : 3 ≤ s.size
    · go_wp2_with fail
      go_quiet (fail)
      go_wp2
      go_ret
      exact ⟨ret_str (by rw [HA.out, Nat.min_eq_left h3]), ⟨HQ.out.1, HQ.out.2.1, HQ.out.2.2.1, HQ.out.2.2.2⟩⟩
    · have h4 : s.size < 3 := by omega
      clear h3
      go_wp2_with fail
      go_quiet (fail)
      go_wp2
      go_ret
      exact ⟨ret_str (by rw [HA.out, Nat.min_eq_right (Nat.le_of_lt h4), ByteArray.extract_zero_size]), ⟨HQ.out.1, HQ.out.2.1, HQ.out.2.2.1, HQ.out.2.2.2⟩⟩
  · have HA : Hid (ahead s = ⟨#[110]⟩) := by show _ = _; unfold ahead; rw [if_neg (by omega), if_neg (by omega), if_neg h83]
    have b0 : (((atB s 0 : Nat) : Int) == 45) = false := by rw [beq_eq_false_iff_ne]; omega
    have b1 : (((atB s 0 : Nat) : Int) == 43) = false := by rw [beq_eq_false_iff_ne]; omega
    have b2 : (((atB s 0 : Nat) : Int) == 64) = false := by rw [beq_eq_false_iff_ne]; omega
    have b3 : (((atB s 0 : Nat) : Int) == 83) = false := by rw [beq_eq_false_iff_ne]; omega
    clear h h45 h43 h64 h83
    go_enter Tryd.func28, Tryd.ntmps28
    go_wp2_with fail
    refine HP.out.mono ?_
    rintro e w1 ⟨rfl, hq⟩
    go_wp2_with fail
    go_ret
    exact ⟨ret_str HA.out.symm, hq⟩
end Go.Proofs.YtelhjdccfomafaaDoor

namespace Go.Proofs.YtelhjdccfomafaaDoor
open Go.RowKit

/-- A value of kinds with a text. -/
def GoodText (ks : Ks) (s : ByteArray) (v : Val) : Prop := kindsOk ks = true ∧ okV ks 41 v = true ∧ lOf (textV 41) v = s.data.toList
/-- What ValueRead hands back. -/
def ReadE (ks : Ks) (s : ByteArray) (w : World) (e : Ending) (w' : World) : Prop :=
  Below w.heap.size w w' ∧
    ((∃ (v : Val) (A : Option Addr) (cA : Nat), e = .returned (.tuple #[.agg #[.string v.ty, .int .i64 v.n, .slice A v.parts.length cA, .slice none 0 0], .bool true]) ∧ v.path = [] ∧ GoodText ks s v ∧ OV (OCod.val 27 3 40) 27 3 w.heap.size w'.heap.size w' (.slice A v.parts.length cA) (.slice none 0 0) v) ∨
     (e = .returned (.tuple #[.agg #[.string ⟨#[]⟩, .int .i64 0, .slice none 0 0, .slice none 0 0], .bool false]) ∧ ¬ ∃ v, GoodText ks s v))

theorem kind_rank {ks : Ks} (h : kindsOk ks = true) {t : ByteArray} {m k : Nat} (hk : kindOf t = some (m, k)) (hh : hasB ks m k = true) : rank t ≤ 40 := by
  have h1 := rank_of hk
  have h2 := kindOf_le hk
  have h3 := ok_len h
  obtain ⟨hm, _⟩ := has_at hh
  omega

theorem below_alloc1 (w : World) (o : Obj) : Below w.heap.size w (w.alloc o) := (Below.refl _ _).alloc (Nat.le_refl _) _
set_option maxRecDepth 100000 in
set_option maxHeartbeats 4000000 in
theorem implValueRead_any {ks : Ks} (F : Nat → Prop) (kv : Value) (s : ByteArray) (w : World) (hks : Cod.recs.Sl F w kv ks) (hF : ∀ b, F b → b < w.heap.size) (hs : s.size ≤ 2000000) :
    Calls Tryd.prog 12 #[kv, .string s] w (ReadE ks s w) := by
  obtain ⟨Ak, ck, rfl, _⟩ := id hks
  have HS := Lib.hid hks
  have hk1 : ∀ b, F b → (w.alloc (.cells #[.string ⟨#[]⟩, .int .i64 0, .slice none 0 0, .slice none 0 0] 27)).heap[b]? = w.heap[b]? := fun b hb => Below.heap_alloc _ _ _ (hF b hb)
  have HS1 := Lib.hid (HS.out.keep hk1)
  have HF1 := Lib.hid (show ∀ b, F b → b < (w.alloc (.cells #[.string ⟨#[]⟩, .int .i64 0, .slice none 0 0, .slice none 0 0] 27)).heap.size from fun b hb => by have := hF b hb; simp; omega)
  have HB := Lib.hid (Blk.new w 27 #[.string ⟨#[]⟩, .int .i64 0, .slice none 0 0, .slice none 0 0])
  clear hk1 hks
  go_enter Tryd.func12, Tryd.ntmps12
  go_wp2_with fail
  refine (tableOf_any F _ ks _ HS1.out HF1.out).mono ?_
  rintro e w1 ⟨hb1, hh⟩
  have HB1 := Lib.hid (HB.out.below hb1 (by simp))
  have HF2 := Lib.hid (show ∀ b, F b → b < w1.heap.size from fun b hb => Nat.lt_of_lt_of_le (HF1.out b hb) hb1.size)
  have HE := Lib.hid (((Below.refl w.heap.size w).alloc (Nat.le_refl _) (.cells #[.string ⟨#[]⟩, .int .i64 0, .slice none 0 0, .slice none 0 0] 27)).trans (hb1.mono (by simp)))
  have hsz : w.heap.size + 1 ≤ w1.heap.size := by simpa using hb1.size
  rcases hh with ⟨hk, rfl⟩ | ⟨hk, b, l, rfl, hm, ht, hw⟩
  · have HNo := Lib.hid (show ¬ ∃ v, GoodText ks s v from fun ⟨v, h, _⟩ => by rw [hk] at h; cases h)
    clear hk hb1
    obtain ⟨x0, x1, x2, x3⟩ := HB1.out.c2
    obtain ⟨f0, f1, f2, f3⟩ := HB1.out.f4
    obtain ⟨wF, hF⟩ : ∃ wF, wF = set4 w1 w.heap.size (.string ⟨#[]⟩) (.int .i64 0) (.slice none 0 0) (.slice none 0 0) := ⟨_, rfl⟩
    have hBF : Blk wF w.heap.size 27 #[.string ⟨#[]⟩, .int .i64 0, .slice none 0 0, .slice none 0 0] := by rw [hF]; exact (((HB1.out.set_ 0 _).set_ 1 _).set_ 2 _).set_ 3 _
    obtain ⟨z0, z1, z2, z3⟩ := hBF.c2
    have HQ := Lib.hid (show ReadE ks s w (.returned (.tuple #[.agg #[.string ⟨#[]⟩, .int .i64 0, .slice none 0 0, .slice none 0 0], .bool false])) wF from
      ⟨by rw [hF]; exact (((HE.out.setCell (Nat.le_refl _) _).setCell (Nat.le_refl _) _).setCell (Nat.le_refl _) _).setCell (Nat.le_refl _) _, .inr ⟨rfl, HNo.out⟩⟩)
    unfold set4 at hF
    clear hBF
    go_wp2_with fail
    rw [← hF]
    exact bodyPost_ret (v := .tuple #[.agg #[.string ⟨#[]⟩, .int .i64 0, .slice none 0 0, .slice none 0 0], .bool false]) (by simp [results, Tryd.results12, go_sem, z0, z1, z2, z3]) rfl HQ.out
  · have HK := Lib.hid hk
    have HT := Lib.hid (show Table F ks b w1 from ⟨l, hm.imp fun _ _ hr => hr.keep (below_keeps hb1 HF1.out), ht⟩)
    have hbw : b < w1.heap.size := HT.out.lt
    clear hk hb1 hm ht
    go_upto_region 5 with fail
    have HA := Lib.hid (below_alloc1 w1 (.cells #[.map (some b), .string s, .int .i64 0] 53))
    have HR2 := Lib.hid (show RdB w1.heap.size b s 0 (w1.alloc (.cells #[.map (some b), .string s, .int .i64 0] 53)) from Blk.new _ _ _)
    have HT2 := Lib.hid (show Table F ks b (w1.alloc (.cells #[.map (some b), .string s, .int .i64 0] 53)) from HT.out.keep (fun b hb => Below.heap_alloc _ _ _ (HF2.out b hb)) (Below.heap_alloc _ _ _ hbw))
    have HF3 := Lib.hid (show ∀ x, F x → x < (w1.alloc (.cells #[.map (some b), .string s, .int .i64 0] 53)).heap.size ∧ x ≠ w1.heap.size from fun x hx => by have := HF2.out x hx; simp; omega)
    have HB2 := Lib.hid (HB1.out.below HA.out hsz)
    have HE2 := Lib.hid (HE.out.trans (HA.out.mono (by omega)))
    have hsz2 : w1.heap.size + 1 ≤ (w1.alloc (.cells #[.map (some b), .string s, .int .i64 0] 53)).heap.size := by simp
    generalize hw2 : w1.alloc (.cells #[.map (some b), .string s, .int .i64 0] 53) = w2 at *
    clear hw2
    go_wp2_with fail
    refine (typeAhead_any w1.heap.size b s w2 HR2.out hs).mono ?_
    rintro e w3 ⟨rfl, hq⟩
    have HR3 := Lib.hid (hq.rd HR2.out)
    have HT3 := Lib.hid (show Table F ks b w3 from HT2.out.keep (fun _ _ => by rw [hq.2.2.2]) (by rw [hq.2.2.2]))
    have HF4 := Lib.hid (show ∀ b, F b → b < w3.heap.size ∧ b ≠ w1.heap.size from fun b hb => by rw [hq.2.2.2]; exact HF3.out b hb)
    have HQ := Lib.hid hq
    have hsz3 : w3.heap.size = w2.heap.size := by rw [hq.2.2.2]
    have Hsz3 := Lib.hid hsz3
    clear hq
    have hsz4 : w1.heap.size + 1 ≤ w3.heap.size := by omega
    clear hsz3
    go_wp2_with fail
    refine (read_all w1.heap.size b s hs (by omega) HK.out 40 (ahead s) (ahead_size s) (fun m k hk hh => kind_rank HK.out hk hh) 0 w3 HT3.out HF4.out HR3.out (Nat.zero_le _)).mono ?_
    rintro e w4 ⟨hW, i', hi', hR4, hh⟩
    have HW23 := Lib.hid ((HQ.out.wrote w1.heap.size (w1.heap.size + 1)).trans hW)
    have HB4 := Lib.hid (show Blk w4 w.heap.size 27 #[.string ⟨#[]⟩, .int .i64 0, .slice none 0 0, .slice none 0 0] from (HW23.out.block _ (by omega) (by omega)).trans HB2.out)
    have HE4 := Lib.hid (show Below w.heap.size w w4 from HE2.out.trans (HW23.out.to_below (by omega) HE2.out.size))
    have HR4 := Lib.hid hR4
    have hs4 : w1.heap.size < w4.heap.size := by have := hR4.lt; omega
    have hsw : w.heap.size < w4.heap.size := by omega
    clear hW hR4
    rcases hh with ⟨v, A, cA, rfl, p1, p2, p3, p4, p5, p6⟩ | ⟨rfl, hno⟩
    · have hv : GoodText ks s v ∨ i' < s.size := by
        by_cases hi2 : i' < s.size
        · exact .inr hi2
        · left
          refine ⟨HK.out, p2, ?_⟩
          rw [tl_end (s := s) (i := i') (by omega), List.append_nil] at p4
          rw [← p4]
          simp [tl]
      have hno : i' < s.size → ¬ ∃ v, GoodText ks s v := fun hlt ⟨u, h1, h2, h3⟩ => by
        have e0 : tl s 0 = lOf (textV 41) u ++ [] := by rw [h3]; simp [tl]
        have hty : v.ty = u.ty := by rw [p3]; exact (ahead_ty h2 e0).symm
        obtain ⟨_, e1⟩ := text_inj ks 41 v u _ _ p2 h2 hty (p4.symm.trans e0) p5 Ends.nil.for_
        have := congrArg List.length e1
        simp [tl] at this
        omega
      have Hv := Lib.hid hv
      have HNo := Lib.hid hno
      have Hp1 := Lib.hid p1
      have Hp6 := Lib.hid p6
      obtain ⟨_, _, _, ho6, _⟩ := p6.rows
      obtain ⟨_, _, hl6, hl7, hl8⟩ := ho6.len_
      unfold maxLen at hl8
      have hlc : v.parts.length ≤ cA ∧ cA ≤ 9223372036854775807 := by
        simp only [Value.slice.injEq] at hl6
        obtain ⟨_, _, rfl⟩ := hl6
        omega
      clear p1 p2 p3 p4 p5 p6 hv hno ho6 hl6 hl7 hl8
      go_upto_region 6 with fail
      have HA5 := Lib.hid (below_alloc1 w4 (.cells #[.string v.ty, .int .i64 v.n, .slice A v.parts.length cA, .slice none 0 0] 27))
      have HB5 := Lib.hid (HB4.out.below HA5.out hsw)
      have HR5 := Lib.hid (show RdB w1.heap.size b s i' (w4.alloc (.cells #[.string v.ty, .int .i64 v.n, .slice A v.parts.length cA, .slice none 0 0] 27)) from HR4.out.alloc _)
      have HV5 := Lib.hid (Blk.new w4 27 #[.string v.ty, .int .i64 v.n, .slice A v.parts.length cA, .slice none 0 0])
      have HE5 := Lib.hid (HE4.out.trans (HA5.out.mono (by omega)))
      have hs5 : w4.heap.size + 1 ≤ (w4.alloc (.cells #[.string v.ty, .int .i64 v.n, .slice A v.parts.length cA, .slice none 0 0] 27)).heap.size := by simp
      generalize hw5 : w4.alloc (.cells #[.string v.ty, .int .i64 v.n, .slice A v.parts.length cA, .slice none 0 0] 27) = w5 at *
      clear hw5
      obtain ⟨y0, y1, y2⟩ := HR5.out.c
      obtain ⟨x0, x1, x2, x3⟩ := HB5.out.c2
      obtain ⟨f0, f1, f2, f3⟩ := HB5.out.f4
      by_cases hlt : i' < s.size
      · have Hlt := Lib.hid hlt
        have b0 : (i' : Int) < (s.size : Int) := by omega
        clear hlt
        obtain ⟨wF, hF⟩ : ∃ wF, wF = set4 w5 w.heap.size (.string ⟨#[]⟩) (.int .i64 0) (.slice none 0 0) (.slice none 0 0) := ⟨_, rfl⟩
        have hBF : Blk wF w.heap.size 27 #[.string ⟨#[]⟩, .int .i64 0, .slice none 0 0, .slice none 0 0] := by rw [hF]; exact (((HB5.out.set_ 0 _).set_ 1 _).set_ 2 _).set_ 3 _
        obtain ⟨z0, z1, z2, z3⟩ := hBF.c2
        have HQ := Lib.hid (show ReadE ks s w (.returned (.tuple #[.agg #[.string ⟨#[]⟩, .int .i64 0, .slice none 0 0, .slice none 0 0], .bool false])) wF from
          ⟨by rw [hF]; exact (((HE5.out.setCell (Nat.le_refl _) _).setCell (Nat.le_refl _) _).setCell (Nat.le_refl _) _).setCell (Nat.le_refl _) _, .inr ⟨rfl, HNo.out Hlt.out⟩⟩)
        unfold set4 at hF
        clear hBF
        go_wp2_with fail
        rw [← hF]
        exact bodyPost_ret (v := .tuple #[.agg #[.string ⟨#[]⟩, .int .i64 0, .slice none 0 0, .slice none 0 0], .bool false]) (by simp [results, Tryd.results12, go_sem, z0, z1, z2, z3]) rfl HQ.out
      · have Hlt := Lib.hid hlt
        have b0 : ¬ (i' : Int) < (s.size : Int) := by omega
        clear hlt
        obtain ⟨t0, t1, t2, t3⟩ := HV5.out.c2
        obtain ⟨wF, hF⟩ : ∃ wF, wF = set4 w5 w.heap.size (.string v.ty) (.int .i64 v.n) (.slice A v.parts.length cA) (.slice none 0 0) := ⟨_, rfl⟩
        have hBF : Blk wF w.heap.size 27 #[.string v.ty, .int .i64 v.n, .slice A v.parts.length cA, .slice none 0 0] := by rw [hF]; exact (((HB5.out.set_ 0 _).set_ 1 _).set_ 2 _).set_ 3 _
        have hkF : ∀ b', b' ≠ w.heap.size → wF.heap[b']? = w5.heap[b']? := fun b' h => by rw [hF]; exact set4at_far (o := 0) h
        have hsF : wF.heap.size = w5.heap.size := by rw [hF]; simp [World.setCell]
        obtain ⟨z0, z1, z2, z3⟩ := hBF.c2
        have HQ := Lib.hid (show ReadE ks s w (.returned (.tuple #[.agg #[.string v.ty, .int .i64 v.n, .slice A v.parts.length cA, .slice none 0 0], .bool true])) wF from
          ⟨by rw [hF]; exact (((HE5.out.setCell (Nat.le_refl _) _).setCell (Nat.le_refl _) _).setCell (Nat.le_refl _) _).setCell (Nat.le_refl _) _, .inl ⟨v, A, cA, rfl, Hp1.out, Hv.out.resolve_right Hlt.out,
            (Hp6.out.keep fun b' g1 g2 => (hkF b' (by omega)).trans (HA5.out.block b' g2)).mono (by omega) (by omega)⟩⟩)
        unfold set4 at hF
        clear hBF hkF hsF
        go_wp2_with fail
        rw [← hF]
        exact bodyPost_ret (v := .tuple #[.agg #[.string v.ty, .int .i64 v.n, .slice A v.parts.length cA, .slice none 0 0], .bool true]) (by simp [results, Tryd.results12, go_sem, z0, z1, z2, z3]) rfl HQ.out
    · have HNo := Lib.hid (show ¬ ∃ v, GoodText ks s v from fun ⟨v, h1, h2, h3⟩ => by
        have e0 : tl s 0 = lOf (textV 41) v ++ [] := by rw [h3]; simp [tl]
        exact hno ⟨v, [], h2, ahead_ty h2 e0, e0, Ends.nil.for_⟩)
      clear hno
      go_upto_region 6 with fail
      have HA5 := Lib.hid (below_alloc1 w4 (.cells #[.string ⟨#[]⟩, .int .i64 0, .slice none 0 0, .slice none 0 0] 27))
      have HB5 := Lib.hid (HB4.out.below HA5.out hsw)
      have HR5 := Lib.hid (show RdB w1.heap.size b s i' (w4.alloc (.cells #[.string ⟨#[]⟩, .int .i64 0, .slice none 0 0, .slice none 0 0] 27)) from HR4.out.alloc _)
      have HE5 := Lib.hid (HE4.out.trans (HA5.out.mono (by omega)))
      have hs5 : w4.heap.size + 1 ≤ (w4.alloc (.cells #[.string ⟨#[]⟩, .int .i64 0, .slice none 0 0, .slice none 0 0] 27)).heap.size := by simp
      generalize hw5 : w4.alloc (.cells #[.string ⟨#[]⟩, .int .i64 0, .slice none 0 0, .slice none 0 0] 27) = w5 at *
      clear hw5
      obtain ⟨x0, x1, x2, x3⟩ := HB5.out.c2
      obtain ⟨f0, f1, f2, f3⟩ := HB5.out.f4
      obtain ⟨wF, hF⟩ : ∃ wF, wF = set4 w5 w.heap.size (.string ⟨#[]⟩) (.int .i64 0) (.slice none 0 0) (.slice none 0 0) := ⟨_, rfl⟩
      have hBF : Blk wF w.heap.size 27 #[.string ⟨#[]⟩, .int .i64 0, .slice none 0 0, .slice none 0 0] := by rw [hF]; exact (((HB5.out.set_ 0 _).set_ 1 _).set_ 2 _).set_ 3 _
      obtain ⟨z0, z1, z2, z3⟩ := hBF.c2
      have HQ := Lib.hid (show ReadE ks s w (.returned (.tuple #[.agg #[.string ⟨#[]⟩, .int .i64 0, .slice none 0 0, .slice none 0 0], .bool false])) wF from
        ⟨by rw [hF]; exact (((HE5.out.setCell (Nat.le_refl _) _).setCell (Nat.le_refl _) _).setCell (Nat.le_refl _) _).setCell (Nat.le_refl _) _, .inr ⟨rfl, HNo.out⟩⟩)
      unfold set4 at hF
      clear hBF
      go_wp2_with fail
      rw [← hF]
      exact bodyPost_ret (v := .tuple #[.agg #[.string ⟨#[]⟩, .int .i64 0, .slice none 0 0, .slice none 0 0], .bool false]) (by simp [results, Tryd.results12, go_sem, z0, z1, z2, z3]) rfl HQ.out
end Go.Proofs.YtelhjdccfomafaaDoor
