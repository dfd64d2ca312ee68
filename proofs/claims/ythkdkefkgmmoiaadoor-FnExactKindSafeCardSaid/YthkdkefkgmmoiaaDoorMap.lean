/- Maps whose keys are strings, told as lists of pairs in the order in which they came. The program's types: the small functions. The program's types: tables of kinds. -/
import Derived.Test.YthkdkefkgmmoiaaDoorKit
import Derived.Maps.Own
import Derived.Test.YthkdkefkgmmoiaaDoorSpb
namespace Go.Proofs.YthkdkefkgmmoiaaDoor
open Go.RowKit

variable {α : Type}

/-- What a list of pairs has under a key. -/
def look (l : List (ByteArray × α)) (s : ByteArray) : Option α := (l.find? fun x => decide (s = x.1)).map (·.2)
/-- A list of pairs with a key put. -/
def putA : List (ByteArray × α) → ByteArray → α → List (ByteArray × α)
  | [], s, x => [(s, x)]
  | y :: l, s, x => if s = y.1 then (s, x) :: l else y :: putA l s x

/-- Entries that read as a list of pairs. -/
def MRel (R : Value → α → Prop) : List MapEntry → List (ByteArray × α) → Prop
  | [], [] => True
  | e :: es, x :: l => e.key = .string x.1 ∧ R e.val x.2 ∧ MRel R es l
  | _, _ => False

theorem MRel.imp {R S : Value → α → Prop} (h : ∀ v x, R v x → S v x) : ∀ {es : List MapEntry} {l : List (ByteArray × α)}, MRel R es l → MRel S es l
  | [], [], _ => trivial
  | _ :: _, _ :: _, ⟨h1, h2, h3⟩ => ⟨h1, h _ _ h2, MRel.imp h h3⟩
theorem MRel.find {R : Value → α → Prop} (s : ByteArray) : ∀ {es : List MapEntry} {l : List (ByteArray × α)} (_ : MRel R es l) (i : Nat),
    (look l s = none ∧ Instr.findNow .string (.string s) es i = some none ∧ ∀ x, putA l s x = l ++ [(s, x)]) ∨
    (∃ x j e, look l s = some x ∧ Instr.findNow .string (.string s) es i = some (some (i + j, e.val)) ∧ es[j]? = some e ∧ e.key = .string s ∧ R e.val x ∧
      ∀ (v : Value) y, R v y → MRel R (es.modify j fun e => { e with key := .string s, val := v }) (putA l s y))
  | [], [], _, i => .inl ⟨rfl, rfl, fun _ => rfl⟩
  | e :: es, x :: l, ⟨h1, h2, h3⟩, i => by
    by_cases hk : s = x.1
    · have hb : (s == x.1) = true := (MapKept.bytes_beq _ _).2 hk
      refine .inr ⟨x.2, 0, e, ?_, ?_, rfl, h1.trans (by rw [hk]), h2, fun v y hv => ?_⟩
      · unfold look
        rw [List.find?_cons, decide_eq_true hk]; rfl
      · simp [Instr.findNow, Instr.sameNow, h1, hb]
      · simp only [putA, if_pos hk]
        exact ⟨rfl, hv, h3⟩
    · have hb : (s == x.1) = false := by
        cases hc : (s == x.1) with
        | false => rfl
        | true => exact absurd ((MapKept.bytes_beq _ _).1 hc) hk
      rcases MRel.find s h3 (i + 1) with ⟨g1, g2, g3⟩ | ⟨y, j, e', g1, g2, g3, g4, g5, g6⟩
      · refine .inl ⟨?_, ?_, fun z => ?_⟩
        · unfold look at g1 ⊢
          rw [List.find?_cons, decide_eq_false hk]; exact g1
        · simp only [Instr.findNow, Instr.sameNow, h1, hb]; exact g2
        · simp only [putA, if_neg hk]; rw [g3]; rfl
      · refine .inr ⟨y, j + 1, e', ?_, ?_, g3, g4, g5, fun v z hv => ?_⟩
        · unfold look at g1 ⊢
          rw [List.find?_cons, decide_eq_false hk]; exact g1
        · simp only [Instr.findNow, Instr.sameNow, h1, hb]; rw [g2]; congr 3; omega
        · simp only [putA, if_neg hk]
          exact ⟨h1, h2, g6 v z hv⟩
theorem MRel.push {R : Value → α → Prop} {s : ByteArray} {v : Value} {y : α} {c : Nat} (hv : R v y) : ∀ {es : List MapEntry} {l : List (ByteArray × α)}, MRel R es l → MRel R (es ++ [⟨.string s, v, c⟩]) (l ++ [(s, y)])
  | [], [], _ => ⟨rfl, hv, trivial⟩
  | _ :: _, _ :: _, ⟨h1, h2, h3⟩ => ⟨h1, h2, MRel.push hv h3⟩

/-- Block b is a map that reads as l. -/
def MapIs (R : Value → α → Prop) (w : World) (b : Nat) (l : List (ByteArray × α)) : Prop :=
  ∃ es clock, w.heap[b]? = some (.map es clock) ∧ MRel R es.toList l

section
variable {R : Value → α → Prop} {w w' : World} {b : Nat} {l : List (ByteArray × α)} {P : Program} {t k e : TypeId}

theorem MapIs.lt (h : MapIs R w b l) : b < w.heap.size := by
  obtain ⟨es, c, hb, _⟩ := h
  exact (Array.getElem?_eq_some_iff.1 hb).1
theorem MapIs.keep (h : MapIs R w b l) (hk : w'.heap[b]? = w.heap[b]?) : MapIs R w' b l := by
  obtain ⟨es, c, hb, hr⟩ := h
  exact ⟨es, c, hk.trans hb, hr⟩
theorem MapIs.imp {S : Value → α → Prop} (h : MapIs R w b l) (hs : ∀ v x, R v x → S v x) : MapIs S w b l := by
  obtain ⟨es, c, hb, hr⟩ := h
  exact ⟨es, c, hb, hr.imp hs⟩
theorem MapIs.new (w : World) : MapIs R (w.alloc (.map #[] 0)) w.heap.size [] := ⟨#[], 0, heap_alloc_new w _, trivial⟩

/-- v, ok := m[s] -/
theorem MapIs.lookup (h : MapIs R w b l) (ht : P.underlying t = some (.map k e)) (hk : P.underlying k = some .string) (z : Value) (hz : (zeroValue e).run P w = .ok z w) (s : ByteArray) (c : Bool) :
    (look l s = none ∧ (Instr.lookup t (.map (some b)) (.string s) c).run P w = .ok (if c then .tuple #[z, .bool false] else z) w) ∨
    (∃ x v, look l s = some x ∧ R v x ∧ (Instr.lookup t (.map (some b)) (.string s) c).run P w = .ok (if c then .tuple #[v, .bool true] else v) w) := by
  obtain ⟨es, cl, hb, hr⟩ := h
  have hck : ∀ x n, (Instr.checkKey x (n + 1) k (.string s)).run P w = .ok () w := fun x n => MapKept.run_checkKey (k := .string s) hk (show MapKept.IsKey .string (.string s) from trivial) x n
  rcases hr.find s 0 with ⟨g1, g2, _⟩ | ⟨x, j, e', g1, g2, g3, g4, g5, _⟩
  · refine .inl ⟨g1, ?_⟩
    simp [Instr.lookup, run_underlying ht, MapKept.run_getObj_map hb, hck, MapKept.run_findKey hk g2, hz, Result.andThen]
  · refine .inr ⟨x, e'.val, g1, g5, ?_⟩
    simp [Instr.lookup, run_underlying ht, MapKept.run_getObj_map hb, hck, MapKept.run_findKey hk g2, Result.andThen]

theorem setBlock_grown {w : World} {b : Nat} {o o' : Obj} (hb : w.heap[b]? = some o) : w.grownBy { w with heap := w.heap.setIfInBounds b o' } (some b) :=
  ⟨rfl, rfl, rfl, by simp, fun i _ hi => (MapKept.heap_set hb).2 i (fun e => hi (by rw [e]))⟩

/-- m[s] = v -/
theorem MapIs.update (h : MapIs R w b l) (ht : P.underlying t = some (.map k e)) (hk : P.underlying k = some .string) (s : ByteArray) (v : Value) (x : α) (hv : R v x) :
    ∃ w', (Instr.mapUpdate t (.map (some b)) (.string s) v).run P w = .ok () w' ∧ MapIs R w' b (putA l s x) ∧ w.grownBy w' (some b) ∧ w'.heap.size = w.heap.size := by
  obtain ⟨es, cl, hb, hr⟩ := h
  have hck : ∀ x n, (Instr.checkKey x (n + 1) k (.string s)).run P w = .ok () w := fun x n => MapKept.run_checkKey (k := .string s) hk (show MapKept.IsKey .string (.string s) from trivial) x n
  rcases hr.find s 0 with ⟨g1, g2, g3⟩ | ⟨y, j, e', g1, g2, g3, g4, g5, g6⟩
  · refine ⟨{ w with heap := w.heap.setIfInBounds b (.map (es.push ⟨.string s, v, cl⟩) (cl + 1)) }, ?_, ⟨_, _, (MapKept.heap_set hb).1, ?_⟩, setBlock_grown hb, by simp⟩
    · simp [Instr.mapUpdate, run_underlying ht, MapKept.run_getObj_map hb, hck, MapKept.run_findKey hk g2, Result.andThen, MapKept.run_setObj_map _ hb]
    · rw [g3, Array.toList_push]
      exact hr.push hv
  · refine ⟨{ w with heap := w.heap.setIfInBounds b (.map (es.modify j fun e => { e with key := .string s, val := v }) cl) }, ?_, ⟨_, _, (MapKept.heap_set hb).1, ?_⟩, setBlock_grown hb, by simp⟩
    · have hsb : Instr.sameBits 10000 (.string s) (.string s) = true := by simp [Instr.sameBits, (MapKept.bytes_beq s s).2 rfl]
      have hg : es[j]? = some e' := by simpa using g3
      simp [Instr.mapUpdate, run_underlying ht, MapKept.run_getObj_map hb, hck, MapKept.run_findKey hk g2, Result.andThen, hg, g4, Instr.keyThatStays, hsb, MapKept.run_setObj_map _ hb]
    · rw [Array.toList_modify]
      exact g6 v x hv
end
end Go.Proofs.YthkdkefkgmmoiaaDoor

namespace Go.Proofs.YthkdkefkgmmoiaaDoor
open Go.RowKit

/-- The name of a kind. -/
def nameB (m k : Nat) : ByteArray := strOfNums [83, 48 + (m : Int), 48 + (k : Int)]

set_option maxRecDepth 100000 in
set_option maxHeartbeats 400000 in
theorem kindName_any (m k : Nat) (w : World) (hm : m ≤ 9) (hk : k ≤ 9) :
    Calls Tryd.prog 48 #[.int .i64 m, .int .i64 k] w fun e w' => e = .returned (.string (nameB m k)) ∧ Below w.heap.size w w' := by
  have hcv := run_convert_bytes_arg (P := Tryd.prog) (w.alloc (.cells #[.int .u8 83, .int .u8 (48 + (m : Int)), .int .u8 (48 + (k : Int))] 5)) 106 5 Tryd.underlying106 Tryd.underlying5 w.heap.size 0 3 3 [83, 48 + (m : Int), 48 + (k : Int)] rfl
    (fun i hi => by
      rw [Nat.zero_add]
      have hB := Blk.new w 5 #[.int .u8 83, .int .u8 (48 + (m : Int)), .int .u8 (48 + (k : Int))]
      rw [hB.cell]
      match i, hi with
      | 0, _ => rfl
      | 1, _ => rfl
      | 2, _ => rfl) 9 Tryd.underlying9
  go_enter Tryd.func48, Tryd.ntmps48
  go_wp2
  go_ret
  exact ⟨rfl, (Below.refl _ _).alloc (Nat.le_refl _) _⟩

def needOf (able : Int) : Int := if (bits .and .i64 able 12 != 0) = true then bits .or .i64 (bits .and .i64 able 3) 4 else bits .and .i64 able 3

set_option maxHeartbeats 400000 in
theorem fieldNeed_any (able : Int) (w : World) :
    Calls Tryd.prog 61 #[.int .i64 able] w fun e w' => e = .returned (.int .i64 (needOf able)) ∧ w = w' := by
  cases hb : (bits .and .i64 able 12 != 0)
  · have HN : Hid (needOf able = bits .and .i64 able 3) := by show _ = _; unfold needOf; rw [hb]; rfl
    go_enter Tryd.func61, Tryd.ntmps61
    go_wp2
    go_ret
    exact ⟨ret_int HN.out.symm, rfl⟩
  · have HN : Hid (needOf able = bits .or .i64 (bits .and .i64 able 3) 4) := by show _ = _; unfold needOf; rw [hb]; rfl
    go_enter Tryd.func61, Tryd.ntmps61
    go_wp2
    go_ret
    exact ⟨ret_int HN.out.symm, rfl⟩

def signB (t : ByteArray) : ByteArray := if refB t then t.extract 0 1 else ByteArray.empty

theorem ret_ss {a b a' b' : ByteArray} (ha : a = a') (hb : b = b') : Ending.returned (.tuple #[.string a, .string b]) = .returned (.tuple #[.string a', .string b']) := by rw [ha, hb]
theorem empty_of_size {t : ByteArray} (h : t.size = 0) : t = ByteArray.empty := by
  apply ext_toList
  have : t.toList.length = 0 := by rw [length_toList, h]
  rw [List.eq_nil_of_length_eq_zero this, toList_data]; rfl

set_option maxHeartbeats 400000 in
theorem splitSign_any (t : ByteArray) (w : World) (hs : t.size ≤ maxLen) :
    Calls Tryd.prog 75 #[.string t] w fun e w' => e = .returned (.tuple #[.string (signB t), .string (ofT t)]) ∧ ∃ n, w' = w.drewN n := by
  unfold maxLen at hs
  by_cases h0 : 0 < t.size
  · have he : t.toList.isEmpty = false := by
      rw [List.isEmpty_eq_false_iff]
      intro h
      have := length_toList t
      rw [h] at this
      simp at this
      omega
    cases h1 : ((t[0].toNat : Int) == 38)
    · cases h2 : ((t[0].toNat : Int) == 33)
      · have HR : Hid (signB t = ByteArray.empty ∧ ofT t = t) := by
          have hr : refB t = false := by unfold refB; rw [dif_pos h0, h1, h2]; rfl
          show _ ∧ _; unfold signB ofT; rw [hr]; exact ⟨rfl, rfl⟩
        go_enter Tryd.func75, Tryd.ntmps75
        go_wp2
        go_ret2
        exact ⟨ret_ss HR.out.1.symm HR.out.2.symm, 0, rfl⟩
      · have HR : Hid (signB t = t.extract 0 1 ∧ ofT t = t.extract 1 t.size) := by
          have hr : refB t = true := by unfold refB; rw [dif_pos h0, h1, h2]; rfl
          show _ ∧ _; unfold signB ofT; rw [hr]; exact ⟨rfl, rfl⟩
        go_enter Tryd.func75, Tryd.ntmps75
        go_wp2
        go_quiet (fail)
        go_wp2
        go_ret2
        exact ⟨ret_ss HR.out.1.symm HR.out.2.symm, _, rfl⟩
    · have HR : Hid (signB t = t.extract 0 1 ∧ ofT t = t.extract 1 t.size) := by
        have hr : refB t = true := by unfold refB; rw [dif_pos h0, h1]; rfl
        show _ ∧ _; unfold signB ofT; rw [hr]; exact ⟨rfl, rfl⟩
      go_enter Tryd.func75, Tryd.ntmps75
      go_wp2
      go_quiet (fail)
      go_wp2
      go_ret2
      exact ⟨ret_ss HR.out.1.symm HR.out.2.symm, _, rfl⟩
  · obtain rfl : t = ByteArray.empty := empty_of_size (by omega)
    go_enter Tryd.func75, Tryd.ntmps75
    go_wp2
    go_ret2
    exact ⟨rfl, 0, rfl⟩

/-- A record as an element of a map: of it the abilities alone are told. -/
def RecV (v : Value) (r : Rec) : Prop := ∃ A n c, v = .agg #[.int .i64 r.able, .slice A n c]
def firstIs (t : ByteArray) (c : Int) : Bool := if h : 0 < t.size then (t[0].toNat : Int) == c else false
def plainL (l : List (ByteArray × Rec)) (t : ByteArray) : Int :=
  if baseB t then 7 else if firstIs t 83 then (match look l t with | some r => r.able | none => -1) else -1

theorem zero_rec (w : World) : (zeroValue 51).run Tryd.prog w = .ok (.agg #[.int .i64 0, .slice none 0 0]) w := by kernel_rfl

theorem base_size {t : ByteArray} (h : baseB t = true) : t.size = 1 := by
  rw [← length_toList]
  rcases base_cases h with h | h | h <;> rw [h] <;> rfl
theorem base_of {t : ByteArray} (h1 : t.size = 1) {c : UInt8} (hc : t[0]'(by omega) = c) (h : c = 110 ∨ c = 98 ∨ c = 111) : baseB t = true := by
  have hl : t.toList = [c] := by
    have hg := get_toList t 0 (by omega)
    have hn : t.toList.length = 1 := by rw [length_toList, h1]
    match hm : t.toList, hn with
    | [a], _ =>
      rw [hm] at hg
      simp at hg
      rw [hg, hc]
  unfold baseB
  rw [hl]
  rcases h with rfl | rfl | rfl <;> rfl
theorem base_first {t : ByteArray} (h : baseB t = true) : firstIs t 110 = true ∨ firstIs t 98 = true ∨ firstIs t 111 = true := by
  have h1 := base_size h
  have h0 : 0 < t.size := by omega
  have hg := get_toList t 0 h0
  unfold firstIs
  rw [dif_pos h0, dif_pos h0, dif_pos h0]
  rcases base_cases h with h | h | h <;> rw [h] at hg <;> simp at hg <;> rw [← hg] <;> simp
theorem byte_of {c : UInt8} {n : Nat} (h : ((c.toNat : Int) == (n : Int)) = true) : c.toNat = n := by
  have := beq_iff_eq.1 h
  omega
theorem plainL_7 {l : List (ByteArray × Rec)} {t : ByteArray} (h : baseB t = true) : plainL l t = 7 := by unfold plainL; rw [h]; rfl
theorem plainL_no {l : List (ByteArray × Rec)} {t : ByteArray} (h : baseB t = false) (h2 : firstIs t 83 = false) : plainL l t = -1 := by unfold plainL; rw [h, h2]; rfl
theorem base_not {t : ByteArray} (h : t.size ≠ 1) : baseB t = false := by
  cases hb : baseB t with
  | false => rfl
  | true => exact absurd (base_size hb) h
theorem isEmpty_pos {t : ByteArray} (h0 : 0 < t.size) : t.toList.isEmpty = false := by
  rw [List.isEmpty_eq_false_iff]
  intro h
  have := length_toList t
  rw [h] at this
  simp at this
  omega

set_option maxHeartbeats 1000000 in
theorem plainAble_any (l : List (ByteArray × Rec)) (b : Nat) (t : ByteArray) (w : World) (hl : MapIs RecV w b l) (hs : t.size ≤ maxLen) :
    Calls Tryd.prog 62 #[.map (some b), .string t] w fun e w' => e = .returned (.int .i64 (plainL l t)) ∧ Below w.heap.size w w' := by
  unfold maxLen at hs
  by_cases h0 : 0 < t.size
  · have he := isEmpty_pos h0
    have hfi : ∀ c, firstIs t c = ((t[0].toNat : Int) == c) := fun c => by unfold firstIs; rw [dif_pos h0]
    have Hfi := Lib.hid hfi
    clear hfi
    cases c1 : ((t[0].toNat : Int) == 110)
    · cases c2 : ((t[0].toNat : Int) == 98)
      · cases c3 : ((t[0].toNat : Int) == 111)
        · have hb : baseB t = false := by
            cases hb : baseB t with
            | false => rfl
            | true => rcases base_first hb with h | h | h <;> rw [Hfi.out] at h <;> simp [h] at c1 c2 c3
          cases c4 : ((t[0].toNat : Int) == 83)
          · have HP : Hid (plainL l t = -1) := by show _ = _; unfold plainL; rw [hb, Hfi.out, c4]; rfl
            clear hl hb
            go_enter Tryd.func62, Tryd.ntmps62
            go_wp2
            go_ret
            exact ⟨ret_int HP.out.symm, Below.refl _ _⟩
          · rcases hl.lookup Tryd.underlying46 Tryd.underlying9 _ (zero_rec w) t true with ⟨g1, g2⟩ | ⟨r, v, g1, ⟨A, n, c, rfl⟩, g2⟩
            · have HP : Hid (plainL l t = -1) := by show _ = _; unfold plainL; rw [hb, Hfi.out, c4, g1]; rfl
              clear hl hb g1
              simp only [if_true] at g2
              go_enter Tryd.func62, Tryd.ntmps62
              go_wp2
              go_ret
              exact ⟨ret_int HP.out.symm, (Below.refl _ _).alloc (Nat.le_refl _) _⟩
            · have HP : Hid (plainL l t = r.able) := by show _ = _; unfold plainL; rw [hb, Hfi.out, c4, g1]; rfl
              clear hl hb g1
              simp only [if_true] at g2
              go_enter Tryd.func62, Tryd.ntmps62
              go_wp2
              go_ret
              exact ⟨ret_int HP.out.symm, (Below.refl _ _).alloc (Nat.le_refl _) _⟩
        · by_cases h1 : t.size = 1
          · have HP : Hid (plainL l t = 7) := plainL_7 (base_of (c := 111) h1 (UInt8.toNat_inj.1 (byte_of (n := 111) c3)) (by simp))
            have b1 : ((t.size : Int) == 1) = true := by rw [beq_iff_eq]; omega
            clear hl h1
            go_enter Tryd.func62, Tryd.ntmps62
            go_wp2
            go_ret
            exact ⟨ret_int HP.out.symm, Below.refl _ _⟩
          · have HP : Hid (plainL l t = -1) := plainL_no (base_not h1) (by rw [Hfi.out, ← Bool.not_eq_true]; intro h; have e1 := byte_of (n := 83) h; have e2 := byte_of (n := 111) c3; omega)
            have b1 : ((t.size : Int) == 1) = false := by rw [beq_eq_false_iff_ne]; omega
            clear hl h1
            go_enter Tryd.func62, Tryd.ntmps62
            go_wp2
            go_ret
            exact ⟨ret_int HP.out.symm, Below.refl _ _⟩
      · by_cases h1 : t.size = 1
        · have HP : Hid (plainL l t = 7) := plainL_7 (base_of (c := 98) h1 (UInt8.toNat_inj.1 (byte_of (n := 98) c2)) (by simp))
          have b1 : ((t.size : Int) == 1) = true := by rw [beq_iff_eq]; omega
          clear hl h1
          go_enter Tryd.func62, Tryd.ntmps62
          go_wp2
          go_ret
          exact ⟨ret_int HP.out.symm, Below.refl _ _⟩
        · have HP : Hid (plainL l t = -1) := plainL_no (base_not h1) (by rw [Hfi.out, ← Bool.not_eq_true]; intro h; have e1 := byte_of (n := 83) h; have e2 := byte_of (n := 98) c2; omega)
          have b1 : ((t.size : Int) == 1) = false := by rw [beq_eq_false_iff_ne]; omega
          clear hl h1
          go_enter Tryd.func62, Tryd.ntmps62
          go_wp2
          go_ret
          exact ⟨ret_int HP.out.symm, Below.refl _ _⟩
    · by_cases h1 : t.size = 1
      · have HP : Hid (plainL l t = 7) := plainL_7 (base_of (c := 110) h1 (UInt8.toNat_inj.1 (byte_of (n := 110) c1)) (by simp))
        have b1 : ((t.size : Int) == 1) = true := by rw [beq_iff_eq]; omega
        clear hl h1
        go_enter Tryd.func62, Tryd.ntmps62
        go_wp2
        go_ret
        exact ⟨ret_int HP.out.symm, Below.refl _ _⟩
      · have HP : Hid (plainL l t = -1) := plainL_no (base_not h1) (by rw [Hfi.out, ← Bool.not_eq_true]; intro h; have e1 := byte_of (n := 83) h; have e2 := byte_of (n := 110) c1; omega)
        have b1 : ((t.size : Int) == 1) = false := by rw [beq_eq_false_iff_ne]; omega
        clear hl h1
        go_enter Tryd.func62, Tryd.ntmps62
        go_wp2
        go_ret
        exact ⟨ret_int HP.out.symm, Below.refl _ _⟩
  · obtain rfl : t = ByteArray.empty := empty_of_size (by omega)
    have HP : Hid (plainL l ByteArray.empty = -1) := plainL_no (base_not (by decide)) (by unfold firstIs; rw [dif_neg h0])
    clear hl
    go_enter Tryd.func62, Tryd.ntmps62
    go_wp2
    go_ret
    exact ⟨ret_int HP.out.symm, Below.refl _ _⟩
end Go.Proofs.YthkdkefkgmmoiaaDoor

namespace Go.Proofs.YthkdkefkgmmoiaaDoor
open Go.RowKit

def ableL (l : List (ByteArray × Rec)) (t : ByteArray) : Int :=
  if plainL l (ofT t) = -1 then -1 else if refB t then (if amp t then 3 else 2) else plainL l (ofT t)
def fitB (able a : Int) : Bool := !(a == -1) && !(bits .and .i64 a (needOf able) != needOf able)
def recL (l : List (ByteArray × Rec)) (r : Rec) : Bool :=
  (decide (0 ≤ r.able) && decide (r.able ≤ 15)) && decide (r.fields.length ≤ 3) && r.fields.all fun f => fitB r.able (plainL l f)

theorem extract_one {t : ByteArray} (h0 : 0 < t.size) : (t.extract 0 1).toList = [t[0]] := by
  rw [toList_data, ByteArray.data_extract]
  have hd : 0 < t.data.toList.length := by simpa using h0
  have : t.data.toList = t.data.toList[0] :: t.data.toList.drop 1 := by
    have := List.drop_eq_getElem_cons hd
    simpa using this
  rw [Array.toList_extract, List.extract_eq_take_drop, this]
  rfl

set_option maxHeartbeats 400000 in
theorem able_any (l : List (ByteArray × Rec)) (b : Nat) (t : ByteArray) (w : World) (hl : MapIs RecV w b l) (hs : t.size ≤ maxLen) :
    Calls Tryd.prog 64 #[.map (some b), .string t] w fun e w' => e = .returned (.int .i64 (ableL l t)) ∧ Below w.heap.size w w' := by
  have HL := Lib.hid hl
  clear hl
  have Hs2 := Lib.hid (Nat.le_trans (size_ofT t) hs)
  have hsg : (signB t).toList = if refB t then (if amp t then [38] else [33]) else [] := by
    unfold signB
    cases hr : refB t with
    | false => simp only [Bool.false_eq_true, if_false]; rw [toList_data]; rfl
    | true =>
      simp only [if_true]
      unfold refB at hr
      split at hr
      · rename_i h0
        rw [extract_one h0]
        unfold amp
        rw [dif_pos h0]
        cases ha : ((t[0].toNat : Int) == 38) with
        | true => simp only [if_true]; rw [show t[0] = (38 : UInt8) from UInt8.toNat_inj.1 (byte_of (n := 38) ha)]
        | false =>
          rw [ha, Bool.false_or] at hr
          simp only [Bool.false_eq_true, if_false]; rw [show t[0] = (33 : UInt8) from UInt8.toNat_inj.1 (byte_of (n := 33) hr)]
      · cases hr
  by_cases hm : plainL l (ofT t) = -1
  · have HP : Hid (ableL l t = -1) := by show _ = _; unfold ableL; rw [if_pos hm]
    have b1 : (plainL l (ofT t) == -1) = true := beq_iff_eq.2 hm
    clear hsg hm
    go_enter Tryd.func64, Tryd.ntmps64
    go_wp2_with (first
      | (go_at_call 75; refine (splitSign_any t _ hs).mono ?_; rintro e w1 ⟨rfl, n, rfl⟩)
      | (go_at_call 62; refine (plainAble_any l b (ofT t) (w.drewN n) (HL.out.keep rfl) Hs2.out).mono ?_; rintro e w2 ⟨rfl, hb2⟩))
    go_ret
    exact ⟨ret_int HP.out.symm, (below_drewN (Below.refl _ _) n).trans hb2⟩
  · have b1 : (plainL l (ofT t) == -1) = false := beq_eq_false_iff_ne.2 hm
    cases hr : refB t
    · have HP : Hid (ableL l t = plainL l (ofT t)) := by show _ = _; unfold ableL; rw [if_neg hm, hr]; rfl
      have b2 : ((signB t).toList == [38]) = false := by rw [hsg, hr]; rfl
      have b3 : ((signB t).toList == [33]) = false := by rw [hsg, hr]; rfl
      clear hsg hm hr
      go_enter Tryd.func64, Tryd.ntmps64
      go_wp2_with (first
        | (go_at_call 75; refine (splitSign_any t _ hs).mono ?_; rintro e w1 ⟨rfl, n, rfl⟩)
        | (go_at_call 62; refine (plainAble_any l b (ofT t) (w.drewN n) (HL.out.keep rfl) Hs2.out).mono ?_; rintro e w2 ⟨rfl, hb2⟩))
      go_ret
      exact ⟨ret_int HP.out.symm, (below_drewN (Below.refl _ _) n).trans hb2⟩
    · cases ha : amp t
      · have HP : Hid (ableL l t = 2) := by show _ = _; unfold ableL; rw [if_neg hm, hr, ha]; rfl
        have b2 : ((signB t).toList == [38]) = false := by rw [hsg, hr, ha]; rfl
        have b3 : ((signB t).toList == [33]) = true := by rw [hsg, hr, ha]; rfl
        clear hsg hm hr ha
        go_enter Tryd.func64, Tryd.ntmps64
        go_wp2_with (first
          | (go_at_call 75; refine (splitSign_any t _ hs).mono ?_; rintro e w1 ⟨rfl, n, rfl⟩)
          | (go_at_call 62; refine (plainAble_any l b (ofT t) (w.drewN n) (HL.out.keep rfl) Hs2.out).mono ?_; rintro e w2 ⟨rfl, hb2⟩))
        go_ret
        exact ⟨ret_int HP.out.symm, (below_drewN (Below.refl _ _) n).trans hb2⟩
      · have HP : Hid (ableL l t = 3) := by show _ = _; unfold ableL; rw [if_neg hm, hr, ha]; rfl
        have b2 : ((signB t).toList == [38]) = true := by rw [hsg, hr, ha]; rfl
        clear hsg hm hr ha
        go_enter Tryd.func64, Tryd.ntmps64
        go_wp2_with (first
          | (go_at_call 75; refine (splitSign_any t _ hs).mono ?_; rintro e w1 ⟨rfl, n, rfl⟩)
          | (go_at_call 62; refine (plainAble_any l b (ofT t) (w.drewN n) (HL.out.keep rfl) Hs2.out).mono ?_; rintro e w2 ⟨rfl, hb2⟩))
        go_ret
        exact ⟨ret_int HP.out.symm, (below_drewN (Below.refl _ _) n).trans hb2⟩

set_option maxHeartbeats 1000000 in
theorem recordOk_any (F : Nat → Prop) (l : List (ByteArray × Rec)) (b : Nat) (v : Value) (r : Rec) (w : World) (hl : MapIs RecV w b l) (h : Cod.str.Sl F w v r.fields) (hF : ∀ b, F b → b < w.heap.size) :
    Calls Tryd.prog 47 #[.map (some b), .agg #[.int .i64 r.able, v]] w fun e w' => e = .returned (.bool (recL l r)) ∧ Below w.heap.size w w' := by
  have HL := Lib.hid hl
  have hbl := hl.lt
  clear hl
  have HS := Lib.hid h
  obtain ⟨A, cap, rfl, hlc, hcm, _⟩ := h
  unfold maxLen at hcm
  have HR : Hid (recL l r = ((decide (0 ≤ r.able) && decide (r.able ≤ 15)) && decide (r.fields.length ≤ 3) && r.fields.all fun f => fitB r.able (plainL l f))) := rfl
  by_cases hr1 : 0 ≤ r.able ∧ r.able ≤ 15
  · obtain ⟨hr0, hr1⟩ := hr1
    have d1 : decide (0 ≤ r.able) = true := decide_eq_true hr0
    have d2 : decide (r.able ≤ 15) = true := decide_eq_true hr1
    by_cases hr2 : r.fields.length ≤ 3
    · have HQ : Hid ((r.fields.drop 0).all (fun f => fitB r.able (plainL l f)) = recL l r) := by
        show _ = _; rw [HR.out, d1, d2, decide_eq_true hr2]; simp
      go_enter Tryd.func47, Tryd.ntmps47
      go_wp2_with (go_at_call 61; refine (fieldNeed_any _ _).mono ?_; rintro e w' ⟨rfl, rfl⟩)
      have hbw : b < (w.alloc (.cells #[.int .i64 r.able, .slice A r.fields.length cap] 51)).heap.size := by simp; omega
      go_loopw [29] (fun i wr => ∃ j : Nat, j ≤ r.fields.length ∧ i = .int .i64 j ∧ Hid ((r.fields.drop j).all (fun f => fitB r.able (plainL l f)) = recL l r) ∧ Below w.heap.size w wr) (fun i _ => r.fields.length - (intOf i).toNat)
      case atStart => exact ⟨0, Nat.zero_le _, rfl, HQ, (Below.refl _ _).alloc (Nat.le_refl _) _⟩
      case round =>
        obtain ⟨j, hj, rfl, HH, hb⟩ := hrel
        by_cases hlt : j < r.fields.length
        · have HSr := Lib.hid (HS.out.keep (below_keeps hb hF))
          obtain ⟨bf, of, c1, hv, hFf, _, _, hcf0, hsf⟩ := HSr.out.str_at hlt
          obtain ⟨rfl, rfl⟩ : A = some ⟨bf, of, none⟩ ∧ cap = c1 := by simpa using hv
          clear hv
          have HLr := Lib.hid (HL.out.keep (hb.block b hbl))
          cases hfit : fitB r.able (plainL l r.fields[j])
          · cases c1 : (plainL l r.fields[j] == -1)
            · have c2 : (bits .and .i64 (plainL l r.fields[j]) (needOf r.able) != needOf r.able) = true := by
                unfold fitB at hfit; rw [c1] at hfit; simpa using hfit
              have Hfit := Lib.hid hfit
              clear hfit
              go_wp2_with (go_at_call 62; refine (plainAble_any l b r.fields[j] _ HLr.out hsf).mono ?_; rintro e w2 ⟨rfl, hb2⟩)
              go_ret
              exact ⟨ret_bool (all_stop hlt HH.out Hfit.out), hb.trans (hb2.mono hb.size)⟩
            · have Hfit := Lib.hid hfit
              clear hfit
              go_wp2_with (go_at_call 62; refine (plainAble_any l b r.fields[j] _ HLr.out hsf).mono ?_; rintro e w2 ⟨rfl, hb2⟩)
              go_ret
              exact ⟨ret_bool (all_stop hlt HH.out Hfit.out), hb.trans (hb2.mono hb.size)⟩
          · have c12 : (plainL l r.fields[j] == -1) = false ∧ (bits .and .i64 (plainL l r.fields[j]) (needOf r.able) != needOf r.able) = false := by
              unfold fitB at hfit; simpa using hfit
            obtain ⟨c1, c2⟩ := c12
            have Hfit := Lib.hid hfit
            clear hfit
            go_wp2_with (go_at_call 62; refine (plainAble_any l b r.fields[j] _ HLr.out hsf).mono ?_; rintro e w2 ⟨rfl, hb2⟩)
            go_roundw
            case rel => exact ⟨j + 1, by omega, by go_num, all_step hlt HH.out Hfit.out, hb.trans (hb2.mono hb.size)⟩
            case measure => simp [intOf]; omega
        · go_wp2
          go_ret
          exact ⟨ret_bool (all_end (by omega) HH.out), hb⟩
    · go_enter Tryd.func47, Tryd.ntmps47
      go_wp2
      go_ret
      exact ⟨ret_bool (by rw [HR.out]; simp [hr2]), (Below.refl _ _).alloc (Nat.le_refl _) _⟩
  · have d1 : (decide (0 ≤ r.able) && decide (r.able ≤ 15)) = false := by rw [Bool.eq_false_iff]; simpa using hr1
    go_enter Tryd.func47, Tryd.ntmps47
    go_wp2
    all_goals
      go_ret
      exact ⟨ret_bool (by rw [HR.out, d1]; rfl), (Below.refl _ _).alloc (Nat.le_refl _) _⟩
end Go.Proofs.YthkdkefkgmmoiaaDoor
