/- The program's values: what is one, whole. -/
import Derived.Test.YtelhjdccfomafaaVimb
namespace Go.Proofs.Ytelhjdccfomafaa
open Go.RowKit

set_option maxRecDepth 100000 in
set_option maxHeartbeats 4000000 in
theorem valueOk_of {ks : Ks} {c e : Cod Val} {f g : Val → Bool} (hc : IsVal c e) (IH : HasEl c → ImOkC ks e g ∧ f = okOf ks g) : ImOkC ks c f := by
  intro F gb A B n m cA cB v w ht h hF
  have HT := Lib.hid ht
  have HV := Lib.hid h
  have IHH := Lib.hid (fun hp : 0 < v.parts.length => IH ⟨F, w, _, v.parts, h.parts, hp⟩)
  obtain ⟨A', cA', hA, hA1, hA2, _⟩ := h.parts
  obtain ⟨B', cB', hB, hB1, hB2, _⟩ := h.path
  simp only [Value.slice.injEq] at hA hB
  obtain ⟨rfl, rfl, rfl⟩ := hA
  obtain ⟨rfl, rfl, rfl⟩ := hB
  have hgl := ht.lt
  unfold maxLen at hA2 hB2
  clear h IH ht
  by_cases hp0 : v.path.length = 0
  · have bp : decide (0 < v.path.length) = false := decide_eq_false (by omega)
    cases c1 : (v.ty.toList == [110])
    · cases c2 : (v.ty.toList == [98])
      · cases c3 : (v.ty.toList == [111])
        · have HN : Hid (topB v.ty = -1) := by show _ = _; unfold topB; rw [c1, c2, c3]; rfl
          have hT1 : Table F ks gb (w.alloc (.cells #[.string v.ty, .int .i64 v.n, .slice A v.parts.length cA, .slice B v.path.length cB] 32)) := HT.out.keep (fun b hb => Below.heap_alloc _ _ _ (hF b hb)) (Below.heap_alloc _ _ _ hgl)
          rcases hT1.find Try.underlying50 Try.underlying9 _ (zero_rec _) v.ty with ⟨g1, g2⟩ | ⟨m, k, Af, cf, hk, hh, hS, hI, g2⟩
          · have HR := Lib.hid (okOf_no (f := f) c1 c2 c3 g1)
            clear hT1 g1 hp0
            go_enter Try.func28, Try.ntmps28
            go_wp2_with (go_at_call 47; refine (numberTop_any v.ty _).mono ?_; rintro e w' ⟨rfl, rfl⟩; rw [HN.out])
            go_ret
            exact ⟨ret_bool HR.out.symm, ((Below.refl _ _).alloc (Nat.le_refl _) _).alloc (by simp) _⟩
          · by_cases hn0 : v.n = 0
            · by_cases hl0 : v.parts.length = (recAt ks m k).fields.length
              · exact (valueOk_loop hc (fun hp => IHH.out hp) F gb A B cA cB w HT.out HV.out hF c1 c2 c3 m k hk hh hn0 hp0 hl0).mono fun e w' hq => ⟨hq.1.trans (ret_bool (by rw [okOf_rec c1 c2 c3 hk hh hp0, decide_eq_true hn0, decide_eq_true hl0]; rfl)), hq.2⟩
              · have bn : (v.n != 0) = false := bne_eq_false_iff_eq.2 hn0
                have bl : (v.parts.length != (recAt ks m k).fields.length) = true := bne_iff_ne.2 hl0
                have bl2 : ((v.parts.length : Int) != ((recAt ks m k).fields.length : Int)) = true := bne_iff_ne.2 (by omega)
                have HR : Hid (okOf ks f v = false) := by show _ = _; rw [okOf_rec c1 c2 c3 hk hh hp0, decide_eq_false hl0]; simp
                obtain ⟨As, cs, hs1, hs2, hs3, _⟩ := hS
                simp only [Value.slice.injEq] at hs1
                obtain ⟨rfl, _, rfl⟩ := hs1
                unfold maxLen at hs3
                clear hT1 hp0 hn0 hl0 hk hh hI
                go_enter Try.func28, Try.ntmps28
                go_wp2_with (go_at_call 47; refine (numberTop_any v.ty _).mono ?_; rintro e w' ⟨rfl, rfl⟩; rw [HN.out])
                go_ret
                exact ⟨ret_bool HR.out.symm, ((Below.refl _ _).alloc (Nat.le_refl _) _).alloc (by simp) _⟩
            · have bn : (v.n != 0) = true := bne_iff_ne.2 hn0
              have HR : Hid (okOf ks f v = false) := by show _ = _; rw [okOf_rec c1 c2 c3 hk hh hp0, decide_eq_false hn0]; simp
              clear hT1 hp0 hn0 hk hh hI hS
              go_enter Try.func28, Try.ntmps28
              go_wp2_with (go_at_call 47; refine (numberTop_any v.ty _).mono ?_; rintro e w' ⟨rfl, rfl⟩; rw [HN.out])
              go_ret
              exact ⟨ret_bool HR.out.symm, ((Below.refl _ _).alloc (Nat.le_refl _) _).alloc (by simp) _⟩
        · have HN : Hid (topB v.ty = 3) := by show _ = _; unfold topB; rw [c1, c2, c3]; rfl
          have HR : Hid (okOf ks f v = (plainV v && inB v.n 0 3)) := by show _ = _; unfold okOf; rw [c1, c2, c3]; rfl
          have HI : Hid (inB v.n 0 3 = (decide (0 ≤ v.n) && decide (v.n ≤ 3))) := rfl
          have HP : Hid (plainV v = decide (v.parts.length = 0)) := by show _ = _; unfold plainV; rw [decide_eq_true hp0, Bool.and_true]
          clear hp0
          go_enter Try.func28, Try.ntmps28
          go_wp2_with (go_at_call 47; refine (numberTop_any v.ty _).mono ?_; rintro e w' ⟨rfl, rfl⟩; rw [HN.out])
          all_goals
            go_ret
            refine ⟨ret_bool ?_, (Below.refl _ _).alloc (Nat.le_refl _) _⟩
            rw [HR.out, HI.out, HP.out, Bool.eq_iff_iff]
            clear HR HI HP HN HV HT IHH
            simp [*]
            try omega
      · have HN : Hid (topB v.ty = 1) := by show _ = _; unfold topB; rw [c1, c2]; rfl
        have HR : Hid (okOf ks f v = (plainV v && inB v.n 0 1)) := by show _ = _; unfold okOf; rw [c1, c2]; rfl
        have HI : Hid (inB v.n 0 1 = (decide (0 ≤ v.n) && decide (v.n ≤ 1))) := rfl
        have HP : Hid (plainV v = decide (v.parts.length = 0)) := by show _ = _; unfold plainV; rw [decide_eq_true hp0, Bool.and_true]
        clear hp0
        go_enter Try.func28, Try.ntmps28
        go_wp2_with (go_at_call 47; refine (numberTop_any v.ty _).mono ?_; rintro e w' ⟨rfl, rfl⟩; rw [HN.out])
        all_goals
          go_ret
          refine ⟨ret_bool ?_, (Below.refl _ _).alloc (Nat.le_refl _) _⟩
          rw [HR.out, HI.out, HP.out, Bool.eq_iff_iff]
          clear HR HI HP HN HV HT IHH
          simp [*]
          try omega
    · have HN : Hid (topB v.ty = 1000000) := by show _ = _; unfold topB; rw [c1]; rfl
      have HR : Hid (okOf ks f v = (plainV v && inB v.n 0 1000000)) := by show _ = _; unfold okOf; rw [c1]; rfl
      have HI : Hid (inB v.n 0 1000000 = (decide (0 ≤ v.n) && decide (v.n ≤ 1000000))) := rfl
      have HP : Hid (plainV v = decide (v.parts.length = 0)) := by show _ = _; unfold plainV; rw [decide_eq_true hp0, Bool.and_true]
      clear hp0
      go_enter Try.func28, Try.ntmps28
      go_wp2_with (go_at_call 47; refine (numberTop_any v.ty _).mono ?_; rintro e w' ⟨rfl, rfl⟩; rw [HN.out])
      all_goals
        go_ret
        refine ⟨ret_bool ?_, (Below.refl _ _).alloc (Nat.le_refl _) _⟩
        rw [HR.out, HI.out, HP.out, Bool.eq_iff_iff]
        clear HR HI HP HN HV HT IHH
        simp [*]
        try omega
  · have bp : decide (0 < v.path.length) = true := decide_eq_true (by omega)
    have HR := Lib.hid (okOf_path (ks := ks) (f := f) hp0)
    clear hp0
    go_enter Try.func28, Try.ntmps28
    go_wp2
    go_ret
    exact ⟨ret_bool HR.out.symm, (Below.refl _ _).alloc (Nat.le_refl _) _⟩

theorem valueOk_any (ks : Ks) : ∀ d, ImOkC ks (Cod.val d) (okV ks d)
  | 0 => valueOk_of (e := Cod.no) (g := fun _ => false) (IsVal.zero _) fun h => absurd h no_el
  | d + 1 => valueOk_of (IsVal.of _) fun _ => ⟨valueOk_any ks d, rfl⟩

set_option maxHeartbeats 400000 in
theorem implValueOk_any {ks : Ks} {d : Nat} (F : Nat → Prop) (kv : Value) (A B : Option Addr) (n m cA cB : Nat) (v : Val) (w : World) (hks : Cod.recs.Sl F w kv ks) (h : VRd (Cod.val d) F w (.slice A n cA) (.slice B m cB) v) (hF : ∀ b, F b → b < w.heap.size) :
    Calls Try.prog 16 #[kv, .agg #[.string v.ty, .int .i64 v.n, .slice A n cA, .slice B m cB]] w fun e w' => e = .returned (.bool (valOk ks d v)) ∧ Below w.heap.size w w' := by
  have HS := Lib.hid hks
  have HV := Lib.hid h
  obtain ⟨Ak, ck, rfl, _⟩ := hks
  clear h
  have hk1 : ∀ b, F b → (w.alloc (.cells #[.string v.ty, .int .i64 v.n, .slice A n cA, .slice B m cB] 32)).heap[b]? = w.heap[b]? := fun b hb => Below.heap_alloc _ _ _ (hF b hb)
  have HV1 := Lib.hid (HV.out.keep hk1)
  have HS1 := Lib.hid (HS.out.keep hk1)
  have HF1 := Lib.hid (show ∀ b, F b → b < (w.alloc (.cells #[.string v.ty, .int .i64 v.n, .slice A n cA, .slice B m cB] 32)).heap.size from fun b hb => by have := hF b hb; simp; omega)
  have HB := Lib.hid (Blk.new w 32 #[.string v.ty, .int .i64 v.n, .slice A n cA, .slice B m cB])
  have HP : Hid (valOk ks d v = (kindsOk ks && okOf ks (okV ks d) v)) := rfl
  clear hk1
  go_enter Try.func16, Try.ntmps16
  go_wp2_with fail
  refine (tableOf_any F _ ks _ HS1.out HF1.out).mono ?_
  rintro e w1 ⟨hb1, hh⟩
  have hcs := (HB.out.below hb1 (by simp)).c2
  obtain ⟨x0, x1, x2, x3⟩ := hcs
  have HV2 := Lib.hid (HV1.out.keep (below_keeps hb1 HF1.out))
  have HF2 := Lib.hid (show ∀ b, F b → b < w1.heap.size from fun b hb => Nat.lt_of_lt_of_le (HF1.out b hb) hb1.size)
  have HE := Lib.hid (((Below.refl w.heap.size w).alloc (Nat.le_refl _) (.cells #[.string v.ty, .int .i64 v.n, .slice A n cA, .slice B m cB] 32)).trans (hb1.mono (by simp)))
  rcases hh with ⟨hk, rfl⟩ | ⟨hk, b, l, rfl, hm, ht, hw⟩
  · have HK := Lib.hid hk
    clear hk hb1
    go_wp2
    go_ret
    exact ⟨ret_bool (by rw [HP.out, HK.out]; rfl), HE.out⟩
  · have HK := Lib.hid hk
    have HT := Lib.hid (show Table F ks b w1 from ⟨l, hm.imp fun _ _ hr => hr.keep (below_keeps hb1 HF1.out), ht⟩)
    clear hk hb1 hm ht
    go_wp2_with (go_at_call 28; refine (valueOk_any ks d F b A B n m cA cB v w1 HT.out HV2.out HF2.out).mono ?_; rintro e w2 ⟨rfl, hb2⟩)
    go_ret
    exact ⟨ret_bool (by rw [HP.out, HK.out]; rfl), HE.out.trans (hb2.mono HE.out.size)⟩
end Go.Proofs.Ytelhjdccfomafaa
