/- The program's values: what is one. The program's values: the parts of a record. The program's values: what is one, whole. -/
import Derived.Test.YthkdkefkgmmoiaaImc
import Derived.Test.YthkdkefkgmmoiaaVsp
namespace Go.Proofs.Ythkdkefkgmmoiaa
open Go.RowKit

/-- Block b is the whole table of good kinds, their fields read through F. -/
def Table (F : Nat → Prop) (ks : Ks) (b : Nat) (w : World) : Prop := ∃ l, MapIs (RecF F w) w b l ∧ Tab ks ks.length 0 l
theorem RecF.keep {F : Nat → Prop} {w w' : World} {v : Value} {r : Rec} (hk : ∀ b, F b → w'.heap[b]? = w.heap[b]?) (h : RecF F w v r) : RecF F w' v r := by
  obtain ⟨A, c, h1, h2, h3⟩ := h
  exact ⟨A, c, h1, h2.keep hk, h3⟩
theorem Table.keep {F : Nat → Prop} {ks : Ks} {b : Nat} {w w' : World} (h : Table F ks b w) (hk : ∀ b, F b → w'.heap[b]? = w.heap[b]?) (hb : w'.heap[b]? = w.heap[b]?) : Table F ks b w' := by
  obtain ⟨l, h1, h2⟩ := h
  exact ⟨l, (h1.keep hb).imp fun _ _ h => h.keep hk, h2⟩
theorem Table.lt {F : Nat → Prop} {ks : Ks} {b : Nat} {w : World} (h : Table F ks b w) : b < w.heap.size := by
  obtain ⟨l, h1, _⟩ := h
  exact h1.lt
theorem Table.drew {F : Nat → Prop} {ks : Ks} {b : Nat} {w : World} (h : Table F ks b w) : Table F ks b w.drew := h.keep (fun _ _ => rfl) rfl
/-- What the table has under a text. -/
theorem Table.find {F : Nat → Prop} {ks : Ks} {b : Nat} {w : World} (h : Table F ks b w) {P : Program} {t k e : TypeId} (ht : P.underlying t = some (.map k e)) (hk : P.underlying k = some .string) (z : Value) (hz : (zeroValue e).run P w = .ok z w) (s : ByteArray) :
    ((∀ m k, kindOf s = some (m, k) → hasB ks m k = false) ∧ (Instr.lookup t (.map (some b)) (.string s) true).run P w = .ok (.tuple #[z, .bool false]) w) ∨
    (∃ m k A c, kindOf s = some (m, k) ∧ hasB ks m k = true ∧ Cod.str.Sl F w (.slice A (recAt ks m k).fields.length c) (recAt ks m k).fields ∧ I64 (recAt ks m k).able ∧
      (Instr.lookup t (.map (some b)) (.string s) true).run P w = .ok (.tuple #[.agg #[.int .i64 (recAt ks m k).able, .slice A (recAt ks m k).fields.length c], .bool true]) w) := by
  obtain ⟨l, h1, h2⟩ := h
  have htl := h2 s
  unfold tabLook at htl
  rcases h1.lookup ht hk z hz s true with ⟨g1, g2⟩ | ⟨r, x, g1, ⟨A, c, rfl, hS, hI⟩, g2⟩
  · left
    simp only [if_true] at g2
    refine ⟨fun m k hm => ?_, g2⟩
    rw [g1, hm] at htl
    simp only at htl
    cases hh : hasB ks m k with
    | false => rfl
    | true =>
      obtain ⟨hlt, _⟩ := has_at hh
      rw [if_pos ⟨hh, .inl hlt⟩] at htl
      cases htl
  · right
    simp only [if_true] at g2
    rw [g1] at htl
    cases hi : kindOf s with
    | none => rw [hi] at htl; cases htl
    | some mk =>
      obtain ⟨m, k⟩ := mk
      rw [hi] at htl
      simp only at htl
      split at htl
      · rename_i hc
        obtain rfl : r = recAt ks m k := by simpa using htl
        exact ⟨m, k, A, c, rfl, hc.1, hS, hI, g2⟩
      · cases htl

/-- The greatest number of a type that is told by it. -/
def topB (t : ByteArray) : Int := if (t.toList == [110]) = true then 1000000 else if (t.toList == [98]) = true then 1 else if (t.toList == [111]) = true then 3 else -1

set_option maxHeartbeats 400000 in
theorem numberTop_any (t : ByteArray) (w : World) :
    Calls Try.prog 115 #[.string t] w fun e w' => e = .returned (.int .i64 (topB t)) ∧ w = w' := by
  go_enter Try.func115, Try.ntmps115
  go_wp2
  all_goals
    go_ret
    exact ⟨ret_int (by simp [topB, *]), rfl⟩

theorem okOf_path {ks : Ks} {f : Val → Bool} {v : Val} (h : v.path.length ≠ 0) : okOf ks f v = false := by
  unfold okOf plainV
  rw [decide_eq_false h]
  simp only [Bool.and_false, Bool.false_and]
  split
  · rfl
  · split
    · rfl
    · split
      · rfl
      · split <;> rfl
theorem okOf_no {ks : Ks} {f : Val → Bool} {v : Val} (c1 : (v.ty.toList == [110]) = false) (c2 : (v.ty.toList == [98]) = false) (c3 : (v.ty.toList == [111]) = false) (h : ∀ m k, kindOf v.ty = some (m, k) → hasB ks m k = false) : okOf ks f v = false := by
  unfold okOf
  rw [c1, c2, c3]
  simp only [Bool.false_eq_true, if_false]
  split
  · rfl
  · rename_i m k hk
    rw [h m k hk]
    rfl
theorem okOf_rec {ks : Ks} {f : Val → Bool} {v : Val} (c1 : (v.ty.toList == [110]) = false) (c2 : (v.ty.toList == [98]) = false) (c3 : (v.ty.toList == [111]) = false) {m k : Nat} (hk : kindOf v.ty = some (m, k)) (hh : hasB ks m k = true) (hp : v.path.length = 0) :
    okOf ks f v = ((decide (v.n = 0) && decide (v.parts.length = (recAt ks m k).fields.length)) && (v.parts.zip (recAt ks m k).fields).all (partB f)) := by
  unfold okOf
  rw [c1, c2, c3]
  simp only [Bool.false_eq_true, if_false]
  rw [hk]
  simp only
  rw [hh, decide_eq_true hp, Bool.true_and, Bool.and_true]
  rfl

def ImOkC (ks : Ks) (c : Cod Val) (f : Val → Bool) : Prop := ∀ (F : Nat → Prop) (g : Nat) (A B : Option Addr) (n m cA cB : Nat) (v : Val) (w : World), Table F ks g w → VRd c F w (.slice A n cA) (.slice B m cB) v → (∀ b, F b → b < w.heap.size) →
    Calls Try.prog 98 #[.map (some g), .agg #[.string v.ty, .int .i64 v.n, .slice A n cA, .slice B m cB]] w fun e w' => e = .returned (.bool (okOf ks f v)) ∧ Below w.heap.size w w'

end Go.Proofs.Ythkdkefkgmmoiaa

namespace Go.Proofs.Ythkdkefkgmmoiaa
open Go.RowKit

theorem Blk.of2 (w : World) (t u : TypeId) (cs ds : Array Value) : Blk ((w.alloc (.cells cs t)).alloc (.cells ds u)) w.heap.size t cs ∧ Blk ((w.alloc (.cells cs t)).alloc (.cells ds u)) (w.heap.size + 1) u ds := by
  refine ⟨(Blk.new w t cs).alloc _, ?_⟩
  have h := Blk.new (w.alloc (.cells cs t)) u ds
  simpa using h

set_option maxRecDepth 100000 in
set_option maxHeartbeats 4000000 in
theorem valueOk_loop {ks : Ks} {c e : Cod Val} {f g : Val → Bool} (hc : IsVal c e) {v : Val} (IH : 0 < v.parts.length → ImOkC ks e g ∧ f = okOf ks g)
    (F : Nat → Prop) (gb : Nat) (A B : Option Addr) (cA cB : Nat) (w : World) (ht : Table F ks gb w) (h : VRd c F w (.slice A v.parts.length cA) (.slice B v.path.length cB) v) (hF : ∀ b, F b → b < w.heap.size)
    (c1 : (v.ty.toList == [110]) = false) (c2 : (v.ty.toList == [98]) = false) (c3 : (v.ty.toList == [111]) = false) (m k : Nat) (hk : kindOf v.ty = some (m, k)) (hh : hasB ks m k = true) (hn0 : v.n = 0) (hp0 : v.path.length = 0) (hl0 : v.parts.length = (recAt ks m k).fields.length) :
    Calls Try.prog 98 #[.map (some gb), .agg #[.string v.ty, .int .i64 v.n, .slice A v.parts.length cA, .slice B v.path.length cB]] w fun e w' => e = .returned (.bool ((v.parts.zip (recAt ks m k).fields).all (partB f))) ∧ Below w.heap.size w w' := by
  have HT := Lib.hid ht
  have HV := Lib.hid h
  have IHH := Lib.hid IH
  obtain ⟨A', cA', hA, hA1, hA2, _⟩ := h.parts
  obtain ⟨B', cB', hB, hB1, hB2, _⟩ := h.path
  simp only [Value.slice.injEq] at hA hB
  obtain ⟨rfl, _, rfl⟩ := hA
  obtain ⟨rfl, _, rfl⟩ := hB
  have hgl := ht.lt
  unfold maxLen at hA2 hB2
  clear h IH ht
  have bp : decide (0 < v.path.length) = false := decide_eq_false (by omega)
  have HN : Hid (topB v.ty = -1) := by show _ = _; unfold topB; rw [c1, c2, c3]; rfl
  have hT1 : Table F ks gb (w.alloc (.cells #[.string v.ty, .int .i64 v.n, .slice A v.parts.length cA, .slice B v.path.length cB] 95)) := HT.out.keep (fun b hb => Below.heap_alloc _ _ _ (hF b hb)) (Below.heap_alloc _ _ _ hgl)
  rcases hT1.find Try.underlying101 Try.underlying9 _ (zero_rec _) v.ty with ⟨g1, g2⟩ | ⟨m', k', Af, cf, hk', hh', hS, hI, g2⟩
  · rw [g1 m k hk] at hh; cases hh
  · rw [hk] at hk'
    simp only [Option.some.injEq, Prod.mk.injEq] at hk'
    obtain ⟨rfl, rfl⟩ := hk'
    generalize (recAt ks m k) = r at *
    have bn : (v.n != 0) = false := bne_eq_false_iff_eq.2 hn0
    have bl : (v.parts.length != r.fields.length) = false := bne_eq_false_iff_eq.2 hl0
    have bl2 : ((v.parts.length : Int) != (r.fields.length : Int)) = false := bne_eq_false_iff_eq.2 (by omega)
    have Hl := Lib.hid hl0
    have Hzl := Lib.hid (show (v.parts.zip r.fields).length = v.parts.length by rw [List.length_zip]; omega)
    have HU := Lib.hid hS
    obtain ⟨As, cs, hs1, hs2, hs3, _⟩ := hS
    simp only [Value.slice.injEq] at hs1
    obtain ⟨rfl, _, rfl⟩ := hs1
    unfold maxLen at hs3
    obtain ⟨hB0, hB1'⟩ := Blk.of2 w 95 65 #[.string v.ty, .int .i64 v.n, .slice A v.parts.length cA, .slice B v.path.length cB] #[.int .i64 r.able, .slice Af r.fields.length cf]
    have HB0 := Lib.hid hB0
    have HB1 := Lib.hid hB1'
    have HQ : Hid (((v.parts.zip r.fields).drop 0).all (partB f) = (v.parts.zip r.fields).all (partB f)) := rfl
    have HI := Lib.hid hI
    clear hT1 hp0 hn0 hl0 hk hh hI hh' hB0 hB1'
    go_enter Try.func98, Try.ntmps98
    go_wp2_with (go_at_call 115; refine (numberTop_any v.ty _).mono ?_; rintro e w' ⟨rfl, rfl⟩; rw [HN.out])
    go_loopw [60] (fun i wr => ∃ j : Nat, j ≤ v.parts.length ∧ i = .int .i64 j ∧ Hid (((v.parts.zip r.fields).drop j).all (partB f) = (v.parts.zip r.fields).all (partB f)) ∧ Hid (Below (w.heap.size + 2) ((w.alloc (.cells #[.string v.ty, .int .i64 v.n, .slice A v.parts.length cA, .slice B v.path.length cB] 95)).alloc (.cells #[.int .i64 r.able, .slice Af r.fields.length cf] 65)) wr)) (fun i _ => v.parts.length - (intOf i).toNat)
    case atStart => exact ⟨0, Nat.zero_le _, rfl, HQ, Below.refl _ _⟩
    case round =>
      obtain ⟨j, hj, rfl, HH1, HBe⟩ := hrel
      have hb := Lib.hid (((Below.refl w.heap.size w).alloc (Nat.le_refl _) (.cells #[.string v.ty, .int .i64 v.n, .slice A v.parts.length cA, .slice B v.path.length cB] 95)).alloc (by simp) (.cells #[.int .i64 r.able, .slice Af r.fields.length cf] 65) |>.trans (HBe.out.mono (by simp)))
      have hws := hb.out.size
      have hw2 : w.heap.size + 2 ≤ wr.heap.size := by simpa using HBe.out.size
      have hw1 : w.heap.size + 1 < wr.heap.size := by omega
      by_cases hlt : j < v.parts.length
      · have hlf : j < r.fields.length := by have := Hl.out; omega
        obtain ⟨bp2, of2, cp2, A2, cA2, B2, cB2, hv, hFp, _, _, hp0, hp1, hp2, hp3, hV⟩ := (HV.out.parts.keep (below_keeps hb.out hF)).val_at hc hlt
        obtain ⟨rfl, rfl⟩ : A = some ⟨bp2, of2, none⟩ ∧ cA = cp2 := by simpa using hv
        obtain ⟨bf, of, c5, hv5, hFf, _, _, hcf0, hsf⟩ := (HU.out.keep (w' := wr) fun b hb' => (hb.out.block b (hF b hb')).trans (Below.heap_alloc _ _ _ (hF b hb')).symm).str_at hlf
        obtain ⟨rfl, rfl⟩ : Af = some ⟨bf, of, none⟩ ∧ cf = c5 := by simpa using hv5
        have hfb : bf < wr.heap.size := Nat.lt_of_lt_of_le (hF bf hFf) hws
        have hr1 := (HB1.out.below HBe.out (by simp)).cell1
        have HVp := Lib.hid hV
        have IH1 := Lib.hid (IHH.out (by omega)).1
        have Hf1 := Lib.hid (show f v.parts[j] = okOf ks g v.parts[j] by rw [(IHH.out (by omega)).2])
        have HTr := Lib.hid (HT.out.keep (below_keeps hb.out hF) (hb.out.block _ hgl))
        have HFr := Lib.hid (show ∀ b, F b → b < wr.heap.size from fun b h => Nat.lt_of_lt_of_le (hF b h) hws)
        have Hz := Lib.hid (show (v.parts.zip r.fields)[j]'(by rw [Hzl.out]; exact hlt) = (v.parts[j], r.fields[j]) from List.getElem_zip)
        clear hv hv5 hV hFp hFf
        have i0 : (0 : Int) ≤ j := by omega
        have i1 : (j : Int) < v.parts.length := by omega
        have i2 : (j : Int) < r.fields.length := by omega
        cases hty : (v.parts[j].ty.toList == r.fields[j].toList) with
        | false =>
          have ht2 : (v.parts[j].ty.toList != r.fields[j].toList) = true := by rw [bne, hty]; rfl
          have HTy := Lib.hid hty
          go_wp2
          go_quiet (fail)
          go_wp2
          go_ret
          exact ⟨ret_bool (all_stop (by rw [Hzl.out]; exact hlt) HH1.out (by rw [Hz.out]; unfold partB; rw [HTy.out]; rfl)), below_drewN (hb.out.alloc hws _) _⟩
        | true =>
          have ht2 : (v.parts[j].ty.toList != r.fields[j].toList) = false := by rw [bne, hty]; rfl
          have HTy := Lib.hid hty
          have HBp := Blk.new wr 95 #[.string v.parts[j].ty, .int .i64 v.parts[j].n, .slice A2 v.parts[j].parts.length cA2, .slice B2 v.parts[j].path.length cB2]
          have Hba := Lib.hid ((Below.refl wr.heap.size wr).alloc (Nat.le_refl _) (.cells #[.string v.parts[j].ty, .int .i64 v.parts[j].n, .slice A2 v.parts[j].parts.length cA2, .slice B2 v.parts[j].path.length cB2] 95))
          have Hsa := Lib.hid (show (wr.alloc (.cells #[.string v.parts[j].ty, .int .i64 v.parts[j].n, .slice A2 v.parts[j].parts.length cA2, .slice B2 v.parts[j].path.length cB2] 95)).heap.size = wr.heap.size + 1 by simp)
          go_wp2_with (fail)
          obtain ⟨y0, y1, y2, y3⟩ := HBp.c2
          have z1 := (Hba.out.cell (p := ⟨w.heap.size + 1, 1, none⟩) hw1).trans hr1
          have z2 := (Hba.out.cell (p := ⟨bf, of + j, none⟩) hfb).trans hcf0
          clear HBp hr1 hcf0 hp0 hp1 hp2 hp3
          generalize wr.alloc (.cells #[.string v.parts[j].ty, .int .i64 v.parts[j].n, .slice A2 v.parts[j].parts.length cA2, .slice B2 v.parts[j].path.length cB2] 95) = wx at *
          have HT1 := Lib.hid (HTr.out.keep (w' := wx.drew) (fun b hb' => Hba.out.block _ (HFr.out b hb')) (Hba.out.block _ HTr.out.lt))
          have HV1 := Lib.hid (HVp.out.keep (w' := wx.drew) (fun b hb' => Hba.out.block _ (HFr.out b hb')))
          have HF1 := Lib.hid (show ∀ b, F b → b < wx.drew.heap.size from fun b h => Nat.lt_of_lt_of_le (HFr.out b h) Hba.out.size)
          go_still_tail 11, (by kernel_rfl)
          change wpList _ _ _ _ _ wx.drew
          go_wp2_with fail
          refine (IH1.out F gb _ _ _ _ _ _ v.parts[j] _ HT1.out HV1.out HF1.out).mono ?_
          rintro e' w2 ⟨rfl, hb2⟩
          have hbx : wr.heap.size ≤ wx.heap.size := Hba.out.size
          have HBn := Lib.hid (((HBe.out.trans (Hba.out.mono hw2)).drew).trans (hb2.mono (Nat.le_trans hw2 hbx)))
          have HBl := Lib.hid ((hb.out.trans (Hba.out.mono hws)).drew.trans (hb2.mono (Nat.le_trans hws hbx)))
          cases hq : okOf ks g v.parts[j] with
          | false =>
            go_wp2_with fail
            go_ret
            exact ⟨ret_bool (all_stop (by rw [Hzl.out]; exact hlt) HH1.out (by rw [Hz.out]; unfold partB; rw [HTy.out, Hf1.out, hq]; rfl)), HBl.out⟩
          | true =>
            have HQ2 := Lib.hid hq
            clear hq
            go_wp2_with fail
            go_roundw
            case rel => exact ⟨j + 1, by omega, by go_num, all_step (by rw [Hzl.out]; exact hlt) HH1.out (by rw [Hz.out]; unfold partB; rw [HTy.out, Hf1.out, HQ2.out]; rfl), HBn.out⟩
            case measure => simp [intOf]; omega
      · go_wp2
        go_ret
        exact ⟨ret_bool (all_end (by rw [Hzl.out]; omega) HH1.out), hb.out⟩
end Go.Proofs.Ythkdkefkgmmoiaa

namespace Go.Proofs.Ythkdkefkgmmoiaa
open Go.RowKit

set_option maxRecDepth 100000 in
set_option maxHeartbeats 4000000 in
theorem valueOk_of {ks : Ks} {c e : Cod Val} {f g : Val → Bool} (hc : IsVal c e) (IH : HasEl c → ImOkC ks e g ∧ f = okOf ks g) : ImOkC ks c f := by
  intro F gb A B n m cA cB v w ht h hF
  have HT := Lib.hid ht
  have HV := Lib.hid h
  have IHH := Lib.hid (fun hp : 0 < v.parts.length => IH ⟨F, w, _, v.parts, h.parts, hp⟩)
  obtain ⟨A', cA', hA, hA1, hA2, _⟩ := h.parts
  obtain ⟨B', cB', hB, hB1, hB2, _⟩ := h.path
  simp only [Value.slice.injEq] at hA hB
  obtain ⟨rfl, rfl, rfl⟩ := hA
  obtain ⟨rfl, rfl, rfl⟩ := hB
  have hgl := ht.lt
  unfold maxLen at hA2 hB2
  clear h IH ht
  by_cases hp0 : v.path.length = 0
  · have bp : decide (0 < v.path.length) = false := decide_eq_false (by omega)
    cases c1 : (v.ty.toList == [110])
    · cases c2 : (v.ty.toList == [98])
      · cases c3 : (v.ty.toList == [111])
        · have HN : Hid (topB v.ty = -1) := by show _ = _; unfold topB; rw [c1, c2, c3]; rfl
          have hT1 : Table F ks gb (w.alloc (.cells #[.string v.ty, .int .i64 v.n, .slice A v.parts.length cA, .slice B v.path.length cB] 95)) := HT.out.keep (fun b hb => Below.heap_alloc _ _ _ (hF b hb)) (Below.heap_alloc _ _ _ hgl)
          rcases hT1.find Try.underlying101 Try.underlying9 _ (zero_rec _) v.ty with ⟨g1, g2⟩ | ⟨m, k, Af, cf, hk, hh, hS, hI, g2⟩
          · have HR := Lib.hid (okOf_no (f := f) c1 c2 c3 g1)
            clear hT1 g1 hp0
            go_enter Try.func98, Try.ntmps98
            go_wp2_with (go_at_call 115; refine (numberTop_any v.ty _).mono ?_; rintro e w' ⟨rfl, rfl⟩; rw [HN.out])
            go_ret
            exact ⟨ret_bool HR.out.symm, ((Below.refl _ _).alloc (Nat.le_refl _) _).alloc (by simp) _⟩
          · by_cases hn0 : v.n = 0
            · by_cases hl0 : v.parts.length = (recAt ks m k).fields.length
              · exact (valueOk_loop hc (fun hp => IHH.out hp) F gb A B cA cB w HT.out HV.out hF c1 c2 c3 m k hk hh hn0 hp0 hl0).mono fun e w' hq => ⟨hq.1.trans (ret_bool (by rw [okOf_rec c1 c2 c3 hk hh hp0, decide_eq_true hn0, decide_eq_true hl0]; rfl)), hq.2⟩
              · have bn : (v.n != 0) = false := bne_eq_false_iff_eq.2 hn0
                have bl : (v.parts.length != (recAt ks m k).fields.length) = true := bne_iff_ne.2 hl0
                have bl2 : ((v.parts.length : Int) != ((recAt ks m k).fields.length : Int)) = true := bne_iff_ne.2 (by omega)
                have HR : Hid (okOf ks f v = false) := by show _ = _; rw [okOf_rec c1 c2 c3 hk hh hp0, decide_eq_false hl0]; simp
                obtain ⟨As, cs, hs1, hs2, hs3, _⟩ := hS
                simp only [Value.slice.injEq] at hs1
                obtain ⟨rfl, _, rfl⟩ := hs1
                unfold maxLen at hs3
                clear hT1 hp0 hn0 hl0 hk hh hI
                go_enter Try.func98, Try.ntmps98
                go_wp2_with (go_at_call 115; refine (numberTop_any v.ty _).mono ?_; rintro e w' ⟨rfl, rfl⟩; rw [HN.out])
                go_ret
                exact ⟨ret_bool HR.out.symm, ((Below.refl _ _).alloc (Nat.le_refl _) _).alloc (by simp) _⟩
            · have bn : (v.n != 0) = true := bne_iff_ne.2 hn0
              have HR : Hid (okOf ks f v = false) := by show _ = _; rw [okOf_rec c1 c2 c3 hk hh hp0, decide_eq_false hn0]; simp
              clear hT1 hp0 hn0 hk hh hI hS
              go_enter Try.func98, Try.ntmps98
              go_wp2_with (go_at_call 115; refine (numberTop_any v.ty _).mono ?_; rintro e w' ⟨rfl, rfl⟩; rw [HN.out])
              go_ret
              exact ⟨ret_bool HR.out.symm, ((Below.refl _ _).alloc (Nat.le_refl _) _).alloc (by simp) _⟩
        · have HN : Hid (topB v.ty = 3) := by show _ = _; unfold topB; rw [c1, c2, c3]; rfl
          have HR : Hid (okOf ks f v = (plainV v && inB v.n 0 3)) := by show _ = _; unfold okOf; rw [c1, c2, c3]; rfl
          have HI : Hid (inB v.n 0 3 = (decide (0 ≤ v.n) && decide (v.n ≤ 3))) := rfl
          have HP : Hid (plainV v = decide (v.parts.length = 0)) := by show _ = _; unfold plainV; rw [decide_eq_true hp0, Bool.and_true]
          clear hp0
          go_enter Try.func98, Try.ntmps98
          go_wp2_with (go_at_call 115; refine (numberTop_any v.ty _).mono ?_; rintro e w' ⟨rfl, rfl⟩; rw [HN.out])
          all_goals
            go_ret
            refine ⟨ret_bool ?_, (Below.refl _ _).alloc (Nat.le_refl _) _⟩
            rw [HR.out, HI.out, HP.out, Bool.eq_iff_iff]
            clear HR HI HP HN HV HT IHH
            simp [*]
            try omega
      · have HN : Hid (topB v.ty = 1) := by show _ = _; unfold topB; rw [c1, c2]; rfl
        have HR : Hid (okOf ks f v = (plainV v && inB v.n 0 1)) := by show _ = _; unfold okOf; rw [c1, c2]; rfl
        have HI : Hid (inB v.n 0 1 = (decide (0 ≤ v.n) && decide (v.n ≤ 1))) := rfl
        have HP : Hid (plainV v = decide (v.parts.length = 0)) := by show _ = _; unfold plainV; rw [decide_eq_true hp0, Bool.and_true]
        clear hp0
        go_enter Try.func98, Try.ntmps98
        go_wp2_with (go_at_call 115; refine (numberTop_any v.ty _).mono ?_; rintro e w' ⟨rfl, rfl⟩; rw [HN.out])
        all_goals
          go_ret
          refine ⟨ret_bool ?_, (Below.refl _ _).alloc (Nat.le_refl _) _⟩
          rw [HR.out, HI.out, HP.out, Bool.eq_iff_iff]
          clear HR HI HP HN HV HT IHH
          simp [*]
          try omega
    · have HN : Hid (topB v.ty = 1000000) := by show _ = _; unfold topB; rw [c1]; rfl
      have HR : Hid (okOf ks f v = (plainV v && inB v.n 0 1000000)) := by show _ = _; unfold okOf; rw [c1]; rfl
      have HI : Hid (inB v.n 0 1000000 = (decide (0 ≤ v.n) && decide (v.n ≤ 1000000))) := rfl
      have HP : Hid (plainV v = decide (v.parts.length = 0)) := by show _ = _; unfold plainV; rw [decide_eq_true hp0, Bool.and_true]
      clear hp0
      go_enter Try.func98, Try.ntmps98
      go_wp2_with (go_at_call 115; refine (numberTop_any v.ty _).mono ?_; rintro e w' ⟨rfl, rfl⟩; rw [HN.out])
      all_goals
        go_ret
        refine ⟨ret_bool ?_, (Below.refl _ _).alloc (Nat.le_refl _) _⟩
        rw [HR.out, HI.out, HP.out, Bool.eq_iff_iff]
        clear HR HI HP HN HV HT IHH
        simp [*]
        try omega
  · have bp : decide (0 < v.path.length) = true := decide_eq_true (by omega)
    have HR := Lib.hid (okOf_path (ks := ks) (f := f) hp0)
    clear hp0
    go_enter Try.func98, Try.ntmps98
    go_wp2
    go_ret
    exact ⟨ret_bool HR.out.symm, (Below.refl _ _).alloc (Nat.le_refl _) _⟩

theorem valueOk_any (ks : Ks) : ∀ d, ImOkC ks (Cod.val d) (okV ks d)
  | 0 => valueOk_of (e := Cod.no) (g := fun _ => false) (IsVal.zero _) fun h => absurd h no_el
  | d + 1 => valueOk_of (IsVal.of _) fun _ => ⟨valueOk_any ks d, rfl⟩

end Go.Proofs.Ythkdkefkgmmoiaa
