/- What is drawn for the law of InsRead. -/
import Derived.Test.YtbjnjdhkillbiaaDoorFj
import Derived.Test.YtbjnjdhkillbiaaDoorIti
namespace Go.Proofs.YtbjnjdhkillbiaaDoor
open Go.RowKit

theorem insText_few {o : ByteArray} {x y : Int} : (insText o x y).size ≤ 40 := by
  unfold insText
  split
  · rename_i h; exact size_insT h
  · exact Nat.zero_le _
/-- What is drawn: a text. -/
def DrawnT (W : World) (e : Ending) (w' : World) : Prop := ∃ s : ByteArray, s.size ≤ 1000 ∧ e = .returned (.string s) ∧ Below W.heap.size W w'

set_option maxRecDepth 100000 in
set_option maxHeartbeats 8000000 in
theorem drawInsRead_any (F : Nat → Prop) (v : Value) (xs : List Nat) (w : World) (hv : Cod.u8.Sl F w v xs) (hF : ∀ b, F b → b < w.heap.size) : Calls Tryd.prog 23 #[v] w (DrawnT w) := by
  have HV0 := Lib.hid hv
  obtain ⟨vA, vc, rfl, _, _, _⟩ := hv
  go_enter Tryd.func23, Tryd.ntmps23
  go_wp2_with fail
  refine (open_any F _ xs _ HV0.out hF).mono ?_
  rintro e w1 ⟨g, rfl, hg1, hr1, hb1⟩
  have HW1 := Lib.hid hb1
  have HR1 := Lib.hid hr1
  clear hb1 hr1
  go_wp2_with fail
  refine (l91Ins_any g 0 w1 HR1.out (by omega)).mono ?_
  rintro e w2 ⟨o, x, y, a1, a2, a3, a4, a5, rfl, ⟨q, hq, hr2⟩, hg2⟩
  have HW2 := Lib.hid (HW1.out.trans (below_grown hg2 (by omega) HW1.out.size))
  have hgl := hr2.lt
  have HR2 := Lib.hid hr2
  clear hr2 hg2
  go_wp2_with fail
  refine (specInsText_any o x y w2 (by unfold I64; omega) (by unfold I64; omega)).mono ?_
  rintro e w3 ⟨rfl, hb3⟩
  have HR := Lib.hid (HR2.out.keep (w' := w3) (fun b hb => hb3.block b hb) hb3.size)
  have HW3 := Lib.hid (HW2.out.trans (hb3.mono HW2.out.size))
  have ht : (insText o x y).size ≤ 40 := insText_few
  generalize insText o x y = t at ht
  clear hb3 HR2 a1 a2 a3 a4 a5
  go_upto_if 12 with (go_at_call 46; refine (pick_any g q _ w3 HR.out (by omega) (by omega)).mono ?_; rintro e wp ⟨k, rfl, hk, hrp, hgp, hsp⟩)
  have HRp := Lib.hid hrp
  have HWp := Lib.hid (HW3.out.trans (below_grown hgp (by omega) HW3.out.size))
  have hgw := HRp.out.lt
  clear hk hrp hgp hsp HR HW3
  go_cut [4, 12] (fun s4 _ wx => ∃ t : ByteArray, s4 = .string t ∧ t.size ≤ 100 ∧ Hid (∃ q, q ≤ 5 ∧ Rdr g q wx) ∧ Hid (Below w.heap.size w wx))
  case first =>
    by_cases hk0 : k = 0
    · have b1 : ((k : Int) == 0) = true := by rw [beq_iff_eq]; omega
      obtain ⟨wl, hwl⟩ : ∃ wl, wl = wp.alloc (.cells #[.string ⟨#[32]⟩, .string ⟨#[32, 49]⟩, .string ⟨#[48]⟩, .string ⟨#[32, 120]⟩] 9) := ⟨_, rfl⟩
      have hBl : Blk wl wp.heap.size 9 #[.string ⟨#[32]⟩, .string ⟨#[32, 49]⟩, .string ⟨#[48]⟩, .string ⟨#[32, 120]⟩] := by rw [hwl]; exact Blk.new _ _ _
      have HRl : Rdr g (q + 1) wl := by rw [hwl]; exact HRp.out.keep (fun b hb => Below.heap_alloc _ _ _ hb) (by simp)
      have HWl : Hid (Below w.heap.size w wl) := by show Below _ _ wl; rw [hwl]; exact HWp.out.alloc HWp.out.size _
      have HC := Lib.hid (of_any (fun b => b = wp.heap.size) g (q + 1) (.slice (some ⟨wp.heap.size, 0, none⟩) 4 4) ([⟨#[32]⟩, ⟨#[32, 49]⟩, ⟨#[48]⟩, ⟨#[32, 120]⟩] : List ByteArray) wl HRl (by omega) (hBl.strs ([⟨#[32]⟩, ⟨#[32, 49]⟩, ⟨#[48]⟩, ⟨#[32, 120]⟩] : List ByteArray) (by decide) (fun i x hi => by match i, hi with | 0, hi => (simp at hi; subst hi; exact ⟨rfl, by decide⟩) | 1, hi => (simp at hi; subst hi; exact ⟨rfl, by decide⟩) | 2, hi => (simp at hi; subst hi; exact ⟨rfl, by decide⟩) | 3, hi => (simp at hi; subst hi; exact ⟨rfl, by decide⟩) | n + 4, hi => simp at hi)) (fun b hb => by rw [hb]; exact ⟨hBl.lt, by omega⟩) (by decide) (by decide))
      have Hwl := Lib.hid hwl
      clear hwl hBl HRl hk0
      go_wp2_with fail
      rw [← Hwl.out]
      refine HC.out.mono ?_
      rintro e wn ⟨z, hz, rfl, ⟨⟨qn, hqn, hrn⟩, hgn⟩, hsn⟩
      have hzb : z.size ≤ 20 := by
        simp only [List.mem_cons, List.not_mem_nil, or_false] at hz
        rcases hz with rfl | rfl | rfl | rfl <;> decide
      have HRn := Lib.hid (show ∃ q, q ≤ 5 ∧ Rdr g q wn from ⟨qn, by omega, hrn⟩)
      have HWn := Lib.hid (HWl.out.trans (below_grown hgn (by omega) HWl.out.size))
      clear hz hrn hgn hsn HC
      go_wp2_with fail
      go_meet
      exact ⟨t ++ z, rfl, by rw [ByteArray.size_append]; omega, HRn, HWn⟩
    · have b1 : ((k : Int) == 0) = false := by rw [beq_eq_false_iff_ne]; omega
      clear hk0
      go_wp2_with fail
      go_meet
      exact ⟨t, rfl, by omega, ⟨q + 1, by omega, HRp.out⟩, HWp⟩
  case rest =>
    obtain ⟨t2, ht2, ht, HRc, HWc⟩ := hcut
    obtain ⟨q, hq, hr⟩ := HRc.out
    subst ht2
    obtain ⟨t, rfl⟩ : ∃ t, t = t2 := ⟨_, rfl⟩
    have HR := Lib.hid hr
    have HW3 := HWc
    clear HRp HWp hgw hr HRc HWc
    go_upto_if 20 with (go_at_call 46; refine (pick_any g q _ wc HR.out (by omega) (by omega)).mono ?_; rintro e wp ⟨k, rfl, hk, hrp, hgp, hsp⟩)
    have HRp := Lib.hid hrp
    have HWp := Lib.hid (HW3.out.trans (below_grown hgp (by omega) HW3.out.size))
    have hgw := HRp.out.lt
    clear hk hrp hgp hsp HR HW3
    go_cut [4, 20] (fun s4 _ wx => ∃ t : ByteArray, s4 = .string t ∧ t.size ≤ 100 ∧ Hid (∃ q, q ≤ 7 ∧ Rdr g q wx) ∧ Hid (Below w.heap.size w wx))
    case first =>
      by_cases hk0 : k = 0
      · have b1 : ((k : Int) == 0) = true := by rw [beq_iff_eq]; omega
        obtain ⟨wl, hwl⟩ : ∃ wl, wl = wp.alloc (.cells #[.string ⟨#[]⟩, .string ⟨#[110, 117, 109]⟩, .string ⟨#[110, 117, 109, 32, 48, 49]⟩, .string ⟨#[110, 117, 109, 32, 49, 48, 48, 48, 48, 48, 49]⟩, .string ⟨#[102, 105, 101, 108, 100, 32, 49]⟩, .string ⟨#[99, 97, 108, 108, 32, 48, 32, 48, 32, 48]⟩, .string ⟨#[32, 100, 114, 111, 112]⟩, .string ⟨#[110, 117, 109, 32, 45, 49]⟩] 9) := ⟨_, rfl⟩
        have hBl : Blk wl wp.heap.size 9 #[.string ⟨#[]⟩, .string ⟨#[110, 117, 109]⟩, .string ⟨#[110, 117, 109, 32, 48, 49]⟩, .string ⟨#[110, 117, 109, 32, 49, 48, 48, 48, 48, 48, 49]⟩, .string ⟨#[102, 105, 101, 108, 100, 32, 49]⟩, .string ⟨#[99, 97, 108, 108, 32, 48, 32, 48, 32, 48]⟩, .string ⟨#[32, 100, 114, 111, 112]⟩, .string ⟨#[110, 117, 109, 32, 45, 49]⟩] := by rw [hwl]; exact Blk.new _ _ _
        have HRl : Rdr g (q + 1) wl := by rw [hwl]; exact HRp.out.keep (fun b hb => Below.heap_alloc _ _ _ hb) (by simp)
        have HWl : Hid (Below w.heap.size w wl) := by show Below _ _ wl; rw [hwl]; exact HWp.out.alloc HWp.out.size _
        have HC := Lib.hid (of_any (fun b => b = wp.heap.size) g (q + 1) (.slice (some ⟨wp.heap.size, 0, none⟩) 8 8) ([⟨#[]⟩, ⟨#[110, 117, 109]⟩, ⟨#[110, 117, 109, 32, 48, 49]⟩, ⟨#[110, 117, 109, 32, 49, 48, 48, 48, 48, 48, 49]⟩, ⟨#[102, 105, 101, 108, 100, 32, 49]⟩, ⟨#[99, 97, 108, 108, 32, 48, 32, 48, 32, 48]⟩, ⟨#[32, 100, 114, 111, 112]⟩, ⟨#[110, 117, 109, 32, 45, 49]⟩] : List ByteArray) wl HRl (by omega) (hBl.strs ([⟨#[]⟩, ⟨#[110, 117, 109]⟩, ⟨#[110, 117, 109, 32, 48, 49]⟩, ⟨#[110, 117, 109, 32, 49, 48, 48, 48, 48, 48, 49]⟩, ⟨#[102, 105, 101, 108, 100, 32, 49]⟩, ⟨#[99, 97, 108, 108, 32, 48, 32, 48, 32, 48]⟩, ⟨#[32, 100, 114, 111, 112]⟩, ⟨#[110, 117, 109, 32, 45, 49]⟩] : List ByteArray) (by decide) (fun i x hi => by match i, hi with | 0, hi => (simp at hi; subst hi; exact ⟨rfl, by decide⟩) | 1, hi => (simp at hi; subst hi; exact ⟨rfl, by decide⟩) | 2, hi => (simp at hi; subst hi; exact ⟨rfl, by decide⟩) | 3, hi => (simp at hi; subst hi; exact ⟨rfl, by decide⟩) | 4, hi => (simp at hi; subst hi; exact ⟨rfl, by decide⟩) | 5, hi => (simp at hi; subst hi; exact ⟨rfl, by decide⟩) | 6, hi => (simp at hi; subst hi; exact ⟨rfl, by decide⟩) | 7, hi => (simp at hi; subst hi; exact ⟨rfl, by decide⟩) | n + 8, hi => simp at hi)) (fun b hb => by rw [hb]; exact ⟨hBl.lt, by omega⟩) (by decide) (by decide))
        have Hwl := Lib.hid hwl
        clear hwl hBl HRl hk0
        go_wp2_with fail
        rw [← Hwl.out]
        refine HC.out.mono ?_
        rintro e wn ⟨z, hz, rfl, ⟨⟨qn, hqn, hrn⟩, hgn⟩, hsn⟩
        have hzb : z.size ≤ 20 := by
          simp only [List.mem_cons, List.not_mem_nil, or_false] at hz
          rcases hz with rfl | rfl | rfl | rfl | rfl | rfl | rfl | rfl <;> decide
        have HRn := Lib.hid (show ∃ q, q ≤ 7 ∧ Rdr g q wn from ⟨qn, by omega, hrn⟩)
        have HWn := Lib.hid (HWl.out.trans (below_grown hgn (by omega) HWl.out.size))
        clear hz hrn hgn hsn HC
        go_wp2_with fail
        go_meet
        exact ⟨z, rfl, by omega, HRn, HWn⟩
      · have b1 : ((k : Int) == 0) = false := by rw [beq_eq_false_iff_ne]; omega
        clear hk0
        go_wp2_with fail
        go_meet
        exact ⟨t, rfl, by omega, ⟨q + 1, by omega, HRp.out⟩, HWp⟩
    case rest =>
      obtain ⟨t2, ht2, ht, HRc, HWc⟩ := hcut
      obtain ⟨q, hq, hr⟩ := HRc.out
      subst ht2
      obtain ⟨t, rfl⟩ : ∃ t, t = t2 := ⟨_, rfl⟩
      have HR := Lib.hid hr
      have HW3 := HWc
      clear HRp HWp hgw hr HRc HWc
      go_wp2_with fail
      go_ret
      exact ⟨t, by omega, rfl, HW3.out⟩
end Go.Proofs.YtbjnjdhkillbiaaDoor
