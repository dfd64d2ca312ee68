/- The program's types: which kinds hold a kind. -/
import Derived.Test.YtjmdhjnfekpklaaIme
namespace Go.Proofs.Ytjmdhjnfekpklaa
open Go.RowKit

/-- Texts that are marked. -/
def IsTrue (v : Value) (_ : Unit) : Prop := v = .bool true
abbrev Marks := List (ByteArray × Unit)
def marked (l : Marks) (s : ByteArray) : Bool := (look l s).isSome

theorem zero_bool (w : World) : (zeroValue 4).run Try.prog w = .ok (.bool false) w := by kernel_rfl

theorem marked_run {l : Marks} {w : World} {b : Nat} (h : MapIs IsTrue w b l) (s : ByteArray) : (Instr.lookup 87 (.map (some b)) (.string s) false).run Try.prog w = .ok (.bool (marked l s)) w := by
  rcases h.lookup Try.underlying87 Try.underlying9 _ (zero_bool w) s false with ⟨g1, g2⟩ | ⟨x, v, g1, rfl, g2⟩
  · unfold marked; rw [g1]; exact g2
  · unfold marked; rw [g1]; exact g2

set_option maxHeartbeats 400000 in
theorem holders1_any (l : Marks) (b g : Nat) (s : ByteArray) (w : World) (hl : MapIs IsTrue w b l) (hc : w.cell? ⟨g, 0, none⟩ = some (.map (some b))) :
    Calls Try.prog 103 #[.string s, .pointer (some ⟨g, 0, none⟩)] w fun e w' => e = .returned (.bool (marked l s)) ∧ w = w' := by
  have hm := marked_run hl s
  clear hl
  go_enter Try.func103, Try.ntmps103
  go_wp2
  go_ret
  exact ⟨rfl, rfl⟩

def idx {α : Type} (p : α → Bool) : List α → Nat → Int
  | [], _ => -1
  | x :: r, k => if p x then (k : Int) else idx p r (k + 1)
theorem idx_any {α : Type} (p : α → Bool) : ∀ (xs : List α) (k : Nat), decide (0 ≤ idx p xs k) = xs.any p
  | [], _ => rfl
  | x :: r, k => by
    unfold idx
    rw [List.any_cons]
    cases hp : p x with
    | true => simp
    | false => simpa using idx_any p r (k + 1)

set_option maxHeartbeats 400000 in
theorem indexFunc_any (F : Nat → Prop) (l : Marks) (b g : Nat) (v : Value) (xs : List ByteArray) (w : World) (hl : MapIs IsTrue w b l) (hc : w.cell? ⟨g, 0, none⟩ = some (.map (some b))) (h : Cod.str.Sl F w v xs) :
    Calls Try.prog 119 #[v, .func (.func 103) #[] #[.pointer (some ⟨g, 0, none⟩)]] w fun e w' => e = .returned (.int .i64 (idx (marked l) xs 0)) ∧ w = w' := by
  have HL := Lib.hid hl
  have HS := Lib.hid h
  clear hl
  obtain ⟨A, cap, rfl, hlc, hcm, _⟩ := h
  unfold maxLen at hcm
  have HQ : Hid (idx (marked l) (xs.drop 0) 0 = idx (marked l) xs 0) := rfl
  go_enter Try.func119, Try.ntmps119
  go_wp2
  go_loop [8] (fun i => ∃ k : Nat, k ≤ xs.length ∧ i = .int .i64 k ∧ Hid (idx (marked l) (xs.drop k) k = idx (marked l) xs 0)) (fun i => xs.length - (intOf i).toNat)
  case atStart => exact ⟨0, Nat.zero_le _, rfl, HQ⟩
  case round =>
    obtain ⟨k, hk, rfl, HH⟩ := hrel
    by_cases hlt : k < xs.length
    · obtain ⟨bf, of, c1, hv, _, _, _, hcf0, hsf⟩ := HS.out.str_at hlt
      obtain ⟨rfl, rfl⟩ : A = some ⟨bf, of, none⟩ ∧ cap = c1 := by simpa using hv
      clear hv
      cases hm : marked l xs[k]
      · go_wp2_with (go_at_call 103; refine (holders1_any l b g xs[k] _ HL.out hc).mono ?_; rintro e w' ⟨rfl, rfl⟩)
        go_round
        case rel =>
          refine ⟨k + 1, by omega, by go_num, ?_⟩
          have hh := HH.out
          rw [drop_cons hlt, idx, hm] at hh
          exact hh
        case measure => simp [intOf]; omega
      · go_wp2_with (go_at_call 103; refine (holders1_any l b g xs[k] _ HL.out hc).mono ?_; rintro e w' ⟨rfl, rfl⟩)
        go_ret
        have hh := HH.out
        rw [drop_cons hlt, idx, hm] at hh
        exact ⟨ret_int hh, rfl⟩
    · go_wp2
      go_ret
      have hh := HH.out
      rw [show k = xs.length by omega, List.drop_length, idx] at hh
      exact ⟨ret_int hh, rfl⟩

set_option maxHeartbeats 400000 in
theorem containsFunc_any (F : Nat → Prop) (l : Marks) (b g : Nat) (v : Value) (xs : List ByteArray) (w : World) (hl : MapIs IsTrue w b l) (hc : w.cell? ⟨g, 0, none⟩ = some (.map (some b))) (h : Cod.str.Sl F w v xs) :
    Calls Try.prog 102 #[v, .func (.func 103) #[] #[.pointer (some ⟨g, 0, none⟩)]] w fun e w' => e = .returned (.bool (xs.any (marked l))) ∧ w = w' := by
  have HQ := Lib.hid (idx_any (marked l) xs 0)
  go_enter Try.func102, Try.ntmps102
  go_wp2_with (go_at_call 119; refine (indexFunc_any F l b g v xs _ hl hc h).mono ?_; rintro e w' ⟨rfl, rfl⟩)
  go_ret
  exact ⟨ret_bool HQ.out, rfl⟩

theorem holdsF_more {ks : Ks} {inn : ByteArray} (hok : kindsOk ks = true) : ∀ (n : Nat) (t : ByteArray), Known ks t → rank t < n → holdsF ks inn (n + 1) t = holdsF ks inn n t
  | 0, t, _, h => by omega
  | n + 1, t, hkn, h => by
    rw [holdsF, holdsF]
    cases hk : kindOf t with
    | none => rfl
    | some mk =>
      obtain ⟨m, k⟩ := mk
      have hh := hkn m k hk
      simp only
      congr 1
      rw [Bool.eq_iff_iff, List.any_eq_true, List.any_eq_true]
      have e : ∀ f ∈ (recAt ks m k).fields, holdsF ks inn (n + 1) f = holdsF ks inn n f := fun f hf => by
        have hfb := ok_field hok hh hf
        have hr := rank_field (kindOf_le hk).2 hfb
        refine holdsF_more hok n f (field_known hfb).1 ?_
        unfold rank at h
        rw [hk] at h
        simp only at h
        omega
      constructor
      · rintro ⟨f, hf, h⟩; exact ⟨f, hf, by rw [← e f hf]; exact h⟩
      · rintro ⟨f, hf, h⟩; exact ⟨f, hf, by rw [e f hf]; exact h⟩

def markTab (ks : Ks) (inn : ByteArray) (m k : Nat) (s : ByteArray) : Bool :=
  decide (s = inn) || (match kindOf s with | some (a, b) => decide (hasB ks a b = true ∧ (a < m ∨ a = m ∧ b < k)) && holdsF ks inn 40 s | none => false)
def MTab (ks : Ks) (inn : ByteArray) (m k : Nat) (l : Marks) : Prop := ∀ s, marked l s = markTab ks inn m k s

theorem MTab.start (ks : Ks) (inn : ByteArray) : MTab ks inn 0 0 (putA [] inn ()) := by
  intro s
  unfold marked markTab
  rw [look_putA]
  by_cases h : s = inn
  · rw [if_pos h, decide_eq_true h]; rfl
  · rw [if_neg h, decide_eq_false h, Bool.false_or]
    split
    · rw [decide_eq_false (by omega)]; rfl
    · rfl
theorem MTab.over {ks : Ks} {inn : ByteArray} {m k : Nat} {l : Marks} (h : MTab ks inn m k l) (hk : (ks.getD m []).length ≤ k) : MTab ks inn (m + 1) 0 l := by
  intro s
  rw [h s]
  unfold markTab
  congr 1
  split
  · rename_i a b hab
    congr 1
    rw [decide_eq_decide]
    constructor
    · rintro ⟨g1, g2⟩; exact ⟨g1, by omega⟩
    · rintro ⟨g1, g2⟩
      refine ⟨g1, ?_⟩
      obtain ⟨ha, hb, _⟩ := has_at g1
      by_cases he : a = m
      · subst he
        have e : ks.getD a [] = ks[a] := by simp [List.getD, ha]
        rw [e] at hk
        omega
      · omega
  · rfl
theorem MTab.fields {ks : Ks} {inn : ByteArray} {m k : Nat} {l : Marks} (h : MTab ks inn m k l) (hok : kindsOk ks = true) (hh : hasB ks m k = true) (hm : m ≤ 2) (hk : k ≤ 2) : (recAt ks m k).fields.any (marked l) = (recAt ks m k).fields.any (holdsF ks inn 39) := by
  rw [Bool.eq_iff_iff, List.any_eq_true, List.any_eq_true]
  have e : ∀ f ∈ (recAt ks m k).fields, marked l f = holdsF ks inn 39 f := fun f hf => by
    have hfb := ok_field hok hh hf
    have hkn := (field_known hfb).1
    have hr := rank_field (ks := ks) (m := m) (k := k) (f := f) (by omega) hfb
    rw [h f]
    unfold markTab
    cases hkf : kindOf f with
    | none => simp only [holdsF, hkf]
    | some ab =>
      obtain ⟨a, b⟩ := ab
      have hc : hasB ks a b = true ∧ (a < m ∨ a = m ∧ b < k) := by
        unfold fieldB at hfb
        rw [hkf] at hfb
        simpa using hfb
      simp only
      rw [decide_eq_true hc, Bool.true_and, holdsF_more hok 39 f hkn (by omega)]
      by_cases he : f = inn
      · rw [decide_eq_true he, Bool.true_or, holdsF, decide_eq_true he, Bool.true_or]
      · rw [decide_eq_false he, Bool.false_or]
  constructor
  · rintro ⟨f, hf, h⟩; exact ⟨f, hf, by rw [← e f hf]; exact h⟩
  · rintro ⟨f, hf, h⟩; exact ⟨f, hf, by rw [e f hf]; exact h⟩
theorem MTab.step {ks : Ks} {inn : ByteArray} {m k : Nat} {l l' : Marks} (h : MTab ks inn m k l) (hok : kindsOk ks = true) (hh : hasB ks m k = true) (hm : m ≤ 2) (hk : k ≤ 2)
    (hl : l' = if (recAt ks m k).fields.any (marked l) then putA l (nameB m k) () else l) : MTab ks inn m (k + 1) l' := by
  have hf := h.fields hok hh hm hk
  intro s
  by_cases hs : s = nameB m k
  · subst hs
    have hkd := kindOf_name (m := m) (k := k) (by omega) (by omega)
    have hR : markTab ks inn m (k + 1) (nameB m k) = (decide (nameB m k = inn) || (recAt ks m k).fields.any (holdsF ks inn 39)) := by
      unfold markTab
      rw [hkd]
      show (decide (nameB m k = inn) || (decide (hasB ks m k = true ∧ (m < m ∨ m = m ∧ k < k + 1)) && holdsF ks inn 40 (nameB m k))) = _
      rw [decide_eq_true (show hasB ks m k = true ∧ (m < m ∨ m = m ∧ k < k + 1) from ⟨hh, .inr ⟨rfl, Nat.lt_succ_self k⟩⟩), Bool.true_and, holdsF, hkd]
      simp only
      cases decide (nameB m k = inn) <;> rfl
    have hO : marked l (nameB m k) = decide (nameB m k = inn) := by
      rw [h]
      unfold markTab
      rw [hkd]
      show (decide (nameB m k = inn) || (decide (hasB ks m k = true ∧ (m < m ∨ m = m ∧ k < k)) && holdsF ks inn 40 (nameB m k))) = _
      rw [decide_eq_false (p := hasB ks m k = true ∧ (m < m ∨ m = m ∧ k < k)) (by omega), Bool.false_and, Bool.or_false]
    rw [hR, hl, ← hf]
    cases ha : (recAt ks m k).fields.any (marked l) with
    | true => simp only [if_true, Bool.or_true]; unfold marked; rw [look_putA, if_pos rfl]; rfl
    | false => simp only [Bool.false_eq_true, if_false, Bool.or_false]; exact hO
  · have hM : marked l' s = marked l s := by
      rw [hl]
      split
      · unfold marked; rw [look_putA, if_neg hs]
      · rfl
    rw [hM, h s]
    unfold markTab
    congr 1
    split
    · rename_i a b hab
      congr 1
      rw [decide_eq_decide]
      have hn : ¬ (a = m ∧ b = k) := fun ⟨h1, h2⟩ => hs (by rw [name_of_kind hab, h1, h2])
      constructor <;> rintro ⟨g1, g2⟩ <;> exact ⟨g1, by omega⟩
    · rfl

theorem ok_lens {ks : Ks} (h : kindsOk ks = true) {m : Nat} (hm : m < ks.length) : ks[m].length ≤ 3 := by
  unfold kindsOk kindsBad at h
  have h := of_decide_eq_true h
  split at h
  · simp at h
  · have := (badOut_neg _ _ h m (Nat.zero_le _) (by omega)).1
    simpa [List.getD, hm] using this

theorem holds_mark {ks : Ks} {t inn : ByteArray} (hok : kindsOk ks = true) {c d : Nat} (hi : kindOf inn = some (c, d)) (hh : hasB ks c d = true) : typeHolds ks t inn = markTab ks inn ks.length 0 t := by
  have hb : baseB inn = false := by
    cases hb : baseB inn with
    | false => rfl
    | true => rw [kindOf_base hb] at hi; cases hi
  have hoi : typeOkB ks inn = true := by
    have hr := refB_kind hi
    have ho : ofT inn = inn := by unfold ofT; rw [hr]; rfl
    unfold typeOkB plainB
    rw [hok, ho, hi]; simp [hh]
  have hn3 := ok_len hok
  unfold typeHolds markTab
  rw [hoi, hi, Option.isSome_some, Bool.and_true, Bool.and_true]
  cases hk : kindOf t with
  | none =>
    have he : decide (t = inn) = false := decide_eq_false fun e => by rw [e, hi] at hk; cases hk
    rw [holdsF, hk, he]
    simp
  | some ab =>
    obtain ⟨a, b⟩ := ab
    have hr := refB_kind hk
    have ho : ofT t = t := by unfold ofT; rw [hr]; rfl
    have hbt : baseB t = false := by
      cases hb : baseB t with
      | false => rfl
      | true => rw [kindOf_base hb] at hk; cases hk
    have hto : typeOkB ks t = hasB ks a b := by
      unfold typeOkB plainB
      rw [hok, ho, hk, hbt]; simp
    rw [hto, hr]
    simp only [Bool.not_false, Bool.and_true]
    by_cases he : t = inn
    · rw [he] at hk
      rw [hi] at hk
      simp only [Option.some.injEq, Prod.mk.injEq] at hk
      obtain ⟨rfl, rfl⟩ := hk
      rw [hh, decide_eq_true he, Bool.true_or, holdsF, decide_eq_true he]; rfl
    · rw [decide_eq_false he, Bool.false_or]
      cases hab : hasB ks a b with
      | false => simp
      | true =>
        obtain ⟨hlt, _⟩ := has_at hab
        have hc : decide (true = true ∧ (a < ks.length ∨ a = ks.length ∧ b < 0)) = true := decide_eq_true ⟨rfl, .inl hlt⟩
        rw [hc]

/-- What holdersOf hands back. -/
def HoldersOf (ks : Ks) (inn : ByteArray) (W : World) (e : Ending) (w' : World) : Prop :=
  Below W.heap.size W w' ∧ ∃ b l, e = .returned (.map (some b)) ∧ MapIs IsTrue w' b l ∧ MTab ks inn ks.length 0 l

set_option maxRecDepth 100000 in
set_option maxHeartbeats 1000000 in
theorem holdersOf_any (F : Nat → Prop) (v : Value) (ks : Ks) (inn : ByteArray) (w : World) (h : Cod.recs.Sl F w v ks) (hF : ∀ b, F b → b < w.heap.size) (hok : kindsOk ks = true) :
    Calls Try.prog 64 #[v, .string inn] w (HoldersOf ks inn w) := by
  have HS := Lib.hid h
  have HOk := Lib.hid hok
  have hn3 := ok_len hok
  clear hok
  obtain ⟨A, cap, rfl, hlc, hcm, _⟩ := h
  unfold maxLen at hcm
  have hmm := @run_makeMap Try.prog
  obtain ⟨w1, hmu, hM1, hg1, hs1⟩ := (MapIs.new (R := IsTrue) w).update Try.underlying87 Try.underlying9 inn (.bool true) () rfl
  have hs2 : w1.heap.size = w.heap.size + 1 := by simpa using hs1
  have hb1 : Below w.heap.size w w1 := ((Below.refl _ _).alloc (Nat.le_refl _) _).trans ⟨hg1.os, hg1.tape, hg1.output, hg1.size, fun i hi => hg1.block i (by simp; omega) (by simp; omega)⟩
  have hs3 : w.heap.size < w1.heap.size := by omega
  have HM1 := Lib.hid hM1
  have Hs2 := Lib.hid hs2
  clear hM1 hg1 hs1 hs2
  go_enter Try.func64, Try.ntmps64
  go_wp2
  go_loopw [15] (fun i wr => ∃ (m : Nat) (l : Marks), m ≤ ks.length ∧ i = .int .i64 m ∧ Below w.heap.size w wr ∧ Hid (Blk wr w1.heap.size 87 #[.map (some w.heap.size)]) ∧ Hid (MapIs IsTrue wr w.heap.size l) ∧ Hid (MTab ks inn m 0 l)) (fun i _ => ks.length - (intOf i).toNat)
  case atStart => exact ⟨0, _, Nat.zero_le _, rfl, hb1.alloc (by omega) _, Blk.new _ _ _, HM1.out.keep (Below.heap_alloc _ _ _ hs3), MTab.start ks inn⟩
  case round =>
    obtain ⟨m, l, hm, rfl, hb, HB, HM, HT⟩ := hrel
    have hbl := HB.out.lt
    by_cases hlt : m < ks.length
    · have HSr := Lib.hid (HS.out.keep (below_keeps hb hF))
      obtain ⟨b, off, c1, u, hv, hFb, _, _, hc0, hu⟩ := HSr.out.sl_at hlt
      obtain ⟨rfl, rfl⟩ : A = some ⟨b, off, none⟩ ∧ cap = c1 := by simpa using hv
      have HU := Lib.hid hu
      obtain ⟨Au, cu, rfl, hlu, hcu, _⟩ := hu
      unfold maxLen at hcu
      have hsz := hb.size
      have hbw := hF b hFb
      have Hgd := Lib.hid (show ks.getD m [] = ks[m] by simp [List.getD, hlt])
      have hl3 := ok_lens HOk.out hlt
      clear hv
      obtain ⟨wo, rfl⟩ : ∃ wo : World, wo = wr := ⟨_, rfl⟩
      go_wp2
      go_loopw [22] (fun i wi => ∃ (k : Nat) (l : Marks), k ≤ ks[m].length ∧ i = .int .i64 k ∧ Below w.heap.size wo wi ∧ Hid (Blk wi w1.heap.size 87 #[.map (some w.heap.size)]) ∧ Hid (MapIs IsTrue wi w.heap.size l) ∧ Hid (MTab ks inn m k l)) (fun i _ => ks[m].length - (intOf i).toNat)
      case atStart => exact ⟨0, l, Nat.zero_le _, rfl, Below.refl _ _, HB, HM, HT⟩
      case round =>
        obtain ⟨k, l, hk, rfl, hbi, HBi, HMi, HTi⟩ := hrel
        have hws := hbi.size
        have hml := HMi.out.lt
        have hgl := HBi.out.lt
        by_cases hk' : k < ks[m].length
        · have hhas : hasB ks m k = true := by unfold hasB; rw [List.getElem?_eq_getElem hlt]; exact decide_eq_true hk'
          have Hrec := Lib.hid (show recAt ks m k = ks[m][k] by obtain ⟨_, _, h⟩ := has_at hhas; exact h)
          have HUi := Lib.hid (HU.out.keep (below_keeps hbi hF))
          obtain ⟨b', off', c2, u', hv', hFb', _, _, hc1, hc2, _, hu'⟩ := HUi.out.rec_at hk'
          obtain ⟨rfl, rfl⟩ : Au = some ⟨b', off', none⟩ ∧ cu = c2 := by simpa using hv'
          have HU' := Lib.hid hu'
          obtain ⟨Af, cf, rfl, _⟩ := hu'
          have hbw' := hF b' hFb'
          have Hhas := Lib.hid hhas
          clear hv' hhas
          have HBn := Lib.hid (Blk.alloc HBi.out (.cells #[.int .i64 (ks[m][k]).able, .slice Af (ks[m][k]).fields.length cf] 80))
          have Hcg := Lib.hid (show (wr.alloc (.cells #[.int .i64 (ks[m][k]).able, .slice Af (ks[m][k]).fields.length cf] 80)).cell? ⟨w1.heap.size, 0, none⟩ = some (.map (some w.heap.size)) from HBn.out.cell 0)
          cases ha : (ks[m][k]).fields.any (marked l)
          · go_wp2_with (go_at_call 102; refine (containsFunc_any F l w.heap.size w1.heap.size _ (ks[m][k]).fields (wr.alloc (.cells #[.int .i64 (ks[m][k]).able, .slice Af (ks[m][k]).fields.length cf] 80)) (HMi.out.keep (Below.heap_alloc _ _ _ hml)) Hcg.out (HU'.out.keep fun b hb' => Below.heap_alloc _ _ _ (by have := hF b hb'; omega))).mono ?_; rintro e w2 ⟨rfl, rfl⟩; rw [ha])
            go_roundw
            case rel =>
              exact ⟨k + 1, l, by omega, by go_num, hbi.alloc (by omega) _, HBn, HMi.out.keep (Below.heap_alloc _ _ _ hml), HTi.out.step HOk.out Hhas.out (by omega) (by omega) (by rw [Hrec.out, ha]; rfl)⟩
            case measure => simp [intOf]; omega
          · have hg2 : ((wr.alloc (.cells #[.int .i64 (ks[m][k]).able, .slice Af (ks[m][k]).fields.length cf] 80)).drew).cell? ⟨w1.heap.size, 0, none⟩ = some (.map (some w.heap.size)) := Hcg.out
            go_wp2_with (go_at_call 102; refine (containsFunc_any F l w.heap.size w1.heap.size _ (ks[m][k]).fields (wr.alloc (.cells #[.int .i64 (ks[m][k]).able, .slice Af (ks[m][k]).fields.length cf] 80)) (HMi.out.keep (Below.heap_alloc _ _ _ hml)) Hcg.out (HU'.out.keep fun b hb' => Below.heap_alloc _ _ _ (by have := hF b hb'; omega))).mono ?_; rintro e w2 ⟨rfl, rfl⟩; rw [ha])
            have HC := Lib.hid hg2
            clear hg2
            have hcg := HC.out
            go_region_with ((go_at_call 98; refine (kindName_any m k _ (by omega) (by omega)).mono ?_; rintro e w3 ⟨rfl, hb3⟩; go_must (have hcg3 : w3.cell? ⟨w1.heap.size, 0, none⟩ = some (.map (some w.heap.size)) := (hb3.cell (p := ⟨w1.heap.size, 0, none⟩) (by simp; omega)).trans HC.out; obtain ⟨w4, hmu4, hM4, hg4, hs4⟩ := (HMi.out.keep (w' := w3) ((hb3.block w.heap.size (by simp; omega)).trans (Below.heap_alloc wr _ _ hml))).update Try.underlying87 Try.underlying9 (nameB m k) (.bool true) () rfl; have HM4 := Lib.hid hM4; have Hg4 := Lib.hid hg4; have Hs4 := Lib.hid hs4; clear hM4 hg4 hs4)))
            all_goals
              go_wp2
              go_roundw
              case rel =>
                have hb4 : Below w.heap.size w3 w4 := ⟨Hg4.out.os, Hg4.out.tape, Hg4.out.output, Hg4.out.size, fun i hi => Hg4.out.block i (by have := hb3.size; simp at this; omega) (by simp; omega)⟩
                have hbn : Below w.heap.size wo w3 := (hbi.alloc (by omega) _).drew.trans (hb3.mono (by simp; omega))
                refine ⟨k + 1, _, by omega, by go_num, hbn.trans hb4, ?_, HM4, HTi.out.step HOk.out Hhas.out (by omega) (by omega) (by rw [Hrec.out, ha]; rfl)⟩
                have q1 : Blk w3 w1.heap.size 87 #[.map (some w.heap.size)] := Blk.below (w := (wr.alloc (.cells #[.int .i64 (ks[m][k]).able, .slice Af (ks[m][k]).fields.length cf] 80)).drew) HBn.out hb3 (by simp; omega)
                exact (Hg4.out.block _ q1.lt (by simp; omega)).trans q1
              case measure => simp [intOf]; omega
        · go_wp2
          go_roundw
          case rel => exact ⟨m + 1, l, by omega, by go_num, hb.trans hbi, HBi, HMi, HTi.out.over (by rw [Hgd.out]; omega)⟩
          case measure => simp [intOf]; omega
    · have hc0 : wr.cell? ⟨w1.heap.size, 0, none⟩ = some (.map (some w.heap.size)) := HB.out.cell 0
      obtain rfl : m = ks.length := by omega
      go_wp2
      go_ret
      exact ⟨hb, _, l, rfl, HM.out, HT.out⟩

set_option maxHeartbeats 1000000 in
theorem implTypeHolds_any (F : Nat → Prop) (v : Value) (ks : Ks) (t inn : ByteArray) (w : World) (h : Cod.recs.Sl F w v ks) (hF : ∀ b, F b → b < w.heap.size) :
    Calls Try.prog 29 #[v, .string t, .string inn] w fun e w' => e = .returned (.bool (typeHolds ks t inn)) ∧ Below w.heap.size w w' := by
  have HS := Lib.hid h
  obtain ⟨A, cap, rfl, _⟩ := h
  go_enter Try.func29, Try.ntmps29
  go_wp2_with fail
  refine (tableOf_any F _ ks _ HS.out hF).mono ?_
  rintro e w1 ⟨hb, ⟨hk, rfl⟩ | ⟨hk, b, l, rfl, hm, ht, hw⟩⟩
  · have HP : Hid (typeHolds ks t inn = false) := by show _ = _; unfold typeHolds typeOkB; rw [hk]; rfl
    clear hk
    go_wp2
    go_ret
    exact ⟨ret_bool HP.out.symm, hb⟩
  · have htl := ht inn
    unfold tabLook at htl
    rcases hm.recV.lookup Try.underlying72 Try.underlying9 _ (zero_rec w1) inn true with ⟨g1, g2⟩ | ⟨r, x, g1, ⟨A2, n2, c2, rfl⟩, g2⟩
    · have HP : Hid (typeHolds ks t inn = false) := by
        show _ = _
        unfold typeHolds
        rw [g1] at htl
        cases hi : kindOf inn with
        | none => simp
        | some cd =>
          obtain ⟨c, d⟩ := cd
          rw [hi] at htl
          simp only at htl
          have hn : hasB ks c d = false := by
            cases hh : hasB ks c d with
            | false => rfl
            | true =>
              obtain ⟨hlt, _⟩ := has_at hh
              rw [if_pos ⟨hh, .inl hlt⟩] at htl
              cases htl
          have hr := refB_kind hi
          have ho : ofT inn = inn := by unfold ofT; rw [hr]; rfl
          have hbi : baseB inn = false := by
            cases hb : baseB inn with
            | false => rfl
            | true => rw [kindOf_base hb] at hi; cases hi
          have : typeOkB ks inn = false := by unfold typeOkB plainB; rw [ho, hi, hbi]; simp [hn]
          rw [this]; simp
      simp only [if_true] at g2
      clear hm ht htl hk g1
      go_wp2
      go_ret
      exact ⟨ret_bool HP.out.symm, hb.alloc hb.size _⟩
    · have hcd : ∃ c d, kindOf inn = some (c, d) ∧ hasB ks c d = true := by
        rw [g1] at htl
        cases hi : kindOf inn with
        | none => rw [hi] at htl; cases htl
        | some cd =>
          obtain ⟨c, d⟩ := cd
          rw [hi] at htl
          simp only at htl
          split at htl
          · rename_i hc; exact ⟨c, d, rfl, hc.1⟩
          · cases htl
      obtain ⟨c, d, hi, hh⟩ := hcd
      have HP := Lib.hid (holds_mark (t := t) hk hi hh)
      have HK := Lib.hid hk
      simp only [if_true] at g2
      clear hm ht htl hk g1 hi hh
      have hsz := hb.size
      go_wp2_with fail
      refine (holdersOf_any F _ ks inn (w1.alloc (.cells #[.int .i64 r.able, .slice A2 n2 c2] 80)) (HS.out.keep fun i hi => (Below.heap_alloc _ _ _ (by have := hF i hi; omega)).trans (hb.block i (hF i hi))) (fun i hi => by have := hF i hi; simp; omega) HK.out).mono ?_
      rintro e w3 ⟨hb3, b3, l3, rfl, hm3, ht3⟩
      have hlk := marked_run hm3 t
      have HT := Lib.hid (ht3 t)
      have HB := Lib.hid ((hb.alloc hsz _).trans (hb3.mono (by simp; omega)))
      clear hm3 ht3
      go_wp2
      go_ret
      exact ⟨ret_bool (by rw [HP.out, HT.out]), HB.out⟩
end Go.Proofs.Ytjmdhjnfekpklaa
