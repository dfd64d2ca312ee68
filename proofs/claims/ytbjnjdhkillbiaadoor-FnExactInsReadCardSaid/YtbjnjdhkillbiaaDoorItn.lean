/- Instructions read: the words of a text, by the model. -/
import Derived.Test.YtbjnjdhkillbiaaDoorItm
namespace Go.Proofs.YtbjnjdhkillbiaaDoor
open Go.RowKit

set_option maxRecDepth 100000 in
set_option maxHeartbeats 4000000 in
theorem l3Words_any (s : ByteArray) (w : World) (hs : s.size ≤ 40) : Calls Tryd.prog 57 #[.string s] w fun e w' => ∃ A cap, e = .returned (.slice A (wsB s).length cap) ∧ Cod.str.Sl (Fresh w w') w' (.slice A (wsB s).length cap) (wsB s) ∧ Below w.heap.size w w' := by
  have HO : Hid (OwnS w.heap.size (w.alloc (.cells #[.string ⟨#[]⟩] 9)) (.slice (some ⟨w.heap.size, 0, none⟩) 1 1) ([] ++ [⟨#[]⟩])) := ⟨rfl, .inr ⟨w.heap.size, 1, #[.string ⟨#[]⟩], rfl, Nat.le_refl _, Blk.new w 9 #[.string ⟨#[]⟩], by simp, by simp [maxLen], by simp, rfl⟩⟩
  have HW0 := Lib.hid ((Below.refl w.heap.size w).alloc (Nat.le_refl _) (.cells #[.string ⟨#[]⟩] 9))
  go_enter Tryd.func57, Tryd.ntmps57
  go_wp2_with fail
  go_loopw [4, 3] (fun i v wr => ∃ (j n : Nat) (acc : List ByteArray) (cur : ByteArray), j ≤ s.size ∧ i = .int .i64 j ∧ n = acc.length ∧ n ≤ j ∧ Hid (cur.size ≤ j ∧ (∀ x ∈ acc, x.size ≤ 40)) ∧ Hid (WordsAt s acc cur j) ∧ Hid (OwnS w.heap.size wr v (acc ++ [cur])) ∧ Hid (Below w.heap.size w wr)) (fun i _ _ => s.size - (intOf i).toNat)
  case atStart => exact ⟨0, 0, [], ⟨#[]⟩, by omega, rfl, rfl, Nat.le_refl _, ⟨Nat.le_refl _, fun _ h => by simp at h⟩, rfl, HO, HW0⟩
  case round =>
    obtain ⟨j, n, acc, cur, hj, rfl, hn, hnj, hcz, HA, HOr, HBe⟩ := hrel
    have Hn := Lib.hid hn
    by_cases hlt : j < s.size
    · have i0 : (0 : Int) ≤ j := by omega
      have i1 : (j : Int) < s.size := by omega
      obtain ⟨c, hc⟩ : ∃ c : Nat, (s[j]).toNat = c := ⟨_, rfl⟩
      by_cases hd : c = 32
      · have HA2 := Lib.hid (HA.out.blank hlt (by rw [hc]; exact hd))
        have hb : ((c : Int) == 32) = true := by rw [beq_iff_eq]; omega
        obtain ⟨g, cap, w2, happ, hO2, hb2, hk2, hg2⟩ := HOr.out.push HBe.out.size (by simp; omega) ⟨#[]⟩
        rw [show (acc ++ [cur]).length + 1 = acc.length + 1 + 1 by simp] at hO2 happ
        have HO2 := Lib.hid hO2
        have HB2 := Lib.hid (HBe.out.trans hb2)
        have Hn2 := Lib.hid (show n + 1 = (acc ++ [cur]).length by simp [hn])
        have Hz := Lib.hid (show (⟨#[]⟩ : ByteArray).size ≤ j + 1 ∧ ∀ x ∈ acc ++ [cur], x.size ≤ 40 from ⟨Nat.zero_le _, fun x hx => by
          rcases List.mem_append.1 hx with hx | hx
          · exact hcz.out.2 x hx
          · obtain rfl := List.mem_singleton.1 hx
            have := hcz.out.1; omega⟩)
        clear hd hn hO2 hb2 hk2 hg2
        go_wp2_with (at_builtin; refine wpList_append_run rfl _ _ _ rfl rfl rfl happ ?_)
        go_roundw
        case rel => exact ⟨j + 1, n + 1, acc ++ [cur], ⟨#[]⟩, by omega, by go_num, Hn2.out, by omega, Hz, HA2, HO2, HB2⟩
        case measure => simp [intOf]; omega
      · have HA2 := Lib.hid (HA.out.byte hlt (by rw [hc]; exact hd))
        have hb : ((c : Int) == 32) = false := by rw [beq_eq_false_iff_ne]; omega
        obtain ⟨g, cap, hv, hcap, hcm, hg, x0, f0, hset⟩ := HOr.out.set_
        have Hset := Lib.hid (hset (cur ++ s.extract j (j + 1)))
        have hone := size_one hlt
        have hcz1 := hcz.out.1
        rw [← hn] at hv hcap x0 f0 Hset
        subst hv
        unfold maxLen at hcm
        have k0 : (0 : Int) ≤ n := by omega
        have k1 : (n : Int) < (n + 1 : Nat) := by omega
        have k2 : (n : Int) + 1 ≤ 100 := by omega
        have hz : (cur ++ s.extract j (j + 1)).size ≤ j + 1 := by rw [ByteArray.size_append, hone]; omega
        have Hz := Lib.hid (show (cur ++ s.extract j (j + 1)).size ≤ j + 1 ∧ ∀ x ∈ acc, x.size ≤ 40 from ⟨hz, hcz.out.2⟩)
        have HB2 := Lib.hid (show Below w.heap.size w (wr.setCell ⟨g, n, none⟩ (.string (cur ++ s.extract j (j + 1)))).drew from (HBe.out.setCell (by simpa using hg) _).drew)
        have hgw : w.heap.size ≤ g := hg
        clear hd hn hset
        go_wp2_with fail
        go_region
        go_wp2_with fail
        go_roundw
        case rel => exact ⟨j + 1, n, acc, cur ++ s.extract j (j + 1), by omega, by go_num, Hn.out, by omega, Hz, HA2, Hset.out, HB2⟩
        case measure => simp [intOf]; omega
    · have HE := HA.out.end_ (by omega)
      have hsz : ∀ x ∈ wsB s, x.size ≤ maxLen := fun x hx => by
        rw [← HE] at hx
        unfold maxLen
        rcases List.mem_append.1 hx with hx | hx
        · have := hcz.out.2 x hx; omega
        · obtain rfl := List.mem_singleton.1 hx
          have := hcz.out.1; omega
      have hOw := OwnS.own (by rw [← HE]; exact HOr.out : OwnS w.heap.size wr u3 (wsB s)) HBe.out.size hsz
      obtain ⟨A, cap, hv, _, _⟩ := hOw.len_
      rw [hv] at hOw
      subst hv
      have HQ := Lib.hid hOw.sl
      clear HE hsz hOw hn
      go_wp2_with fail
      go_ret
      exact ⟨A, cap, rfl, HQ.out, HBe.out⟩
end Go.Proofs.YtbjnjdhkillbiaaDoor
