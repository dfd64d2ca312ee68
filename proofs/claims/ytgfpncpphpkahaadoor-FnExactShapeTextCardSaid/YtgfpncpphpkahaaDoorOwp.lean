/- Rows of a call's own that are being filled; copies of kinds that are the call's own. -/
import Derived.Test.YtgfpncpphpkahaaDoorOw
import Derived.Test.YtgfpncpphpkahaaDoorTo
namespace Go.Proofs.YtgfpncpphpkahaaDoor
open Go.RowKit

/-- The first k elements of a row that is being filled, each in blocks that have come since the one before. -/
def OPart {α : Type} (c : OCod α) (b : Nat) (w : World) (cs : Array Value) (k : Nat) (xs : List α) : Prop :=
  ∃ s : Nat → Nat, (∀ i j, i ≤ j → j ≤ k → s i ≤ s j) ∧ b < s 0 ∧ s k ≤ w.heap.size ∧
    ∀ i x, i < k → xs[i]? = some x → ∃ ds, (∀ j u, ds[j]? = some u → cs[i * c.cod.size + j]? = some u) ∧ c.rd (s i) (s (i + 1)) w ds x
section
variable {α : Type} {c : OCod α} {t : TypeId} {b k : Nat} {w w' : World} {cs cs' : Array Value} {xs : List α}
theorem OPart.zero (h : b < w.heap.size) : OPart c b w cs 0 xs := ⟨fun _ => b + 1, fun _ _ _ _ => Nat.le_refl _, Nat.lt_succ_self b, h, fun _ _ h => absurd h (by omega)⟩
theorem OPart.next (h : OPart c b w cs k xs) (hk : k < xs.length) (hw : ∀ i, b < i → i < w.heap.size → w'.heap[i]? = w.heap[i]?) (hs : w.heap.size ≤ w'.heap.size) {news : List Value}
    (hold : ∀ i, i < k * c.cod.size → cs'[i]? = cs[i]?) (hnew : ∀ (j : Nat) (u : Value), news[j]? = some u → cs'[k * c.cod.size + j]? = some u) (hrd : c.rd w.heap.size w'.heap.size w' news xs[k]) : OPart c b w' cs' (k + 1) xs := by
  obtain ⟨s, hm, h0, hk', hx⟩ := h
  have hsk : ∀ i, i ≤ k → s i ≤ w.heap.size := fun i hi => Nat.le_trans (hm i k hi (Nat.le_refl _)) hk'
  refine ⟨fun i => if i ≤ k then s i else w'.heap.size, fun i j hij hj => ?_, by simpa using h0, by show (if k + 1 ≤ k then s (k + 1) else w'.heap.size) ≤ _; rw [if_neg (show ¬ k + 1 ≤ k by omega)]; exact Nat.le_refl _, fun i x hi hxi => ?_⟩
  · by_cases hik : i ≤ k
    · by_cases hjk : j ≤ k
      · simp only [if_pos hik, if_pos hjk]; exact hm i j hij hjk
      · simp only [if_pos hik, if_neg hjk]; have := hsk i hik; omega
    · simp only [if_neg hik, if_neg (show ¬ j ≤ k by omega)]; exact Nat.le_refl _
  · by_cases he : i = k
    · subst he
      rw [List.getElem?_eq_getElem hk] at hxi
      cases hxi
      simp only [if_pos (Nat.le_refl i), if_neg (show ¬ i + 1 ≤ i by omega)]
      exact ⟨news, hnew, c.mono (hsk i (Nat.le_refl _)) (Nat.le_refl _) hrd⟩
    · obtain ⟨ds, h1, h2⟩ := hx i x (by omega) hxi
      simp only [if_pos (show i ≤ k by omega), if_pos (show i + 1 ≤ k by omega)]
      have hl := c.cod.len (c.get h2)
      refine ⟨ds, fun j u hu => ?_, c.keep (fun b' g1 g2 => hw b' (by have := hm 0 i (by omega) (by omega); omega) (by have := hsk (i + 1) (by omega); omega)) h2⟩
      have hj : j < ds.length := (List.getElem?_eq_some_iff.1 hu).1
      have := Nat.mul_le_mul_right c.cod.size (show i + 1 ≤ k by omega)
      rw [Nat.add_mul, Nat.one_mul] at this
      rw [hold _ (by omega)]
      exact h1 j u hu
theorem OPart.own {lo cap : Nat} (h : OPart c b w cs xs.length xs) (hB : Blk w b t cs) (hlo : lo ≤ b) (hl : xs.length ≤ cap) (hm : cap ≤ maxLen) : Own c t lo w.heap.size w (.slice (some ⟨b, 0, none⟩) xs.length cap) xs := by
  refine ⟨_, cap, rfl, hl, hm, fun _ => ?_⟩
  obtain ⟨s, hmo, h0, hk', hx⟩ := h
  refine ⟨b, cs, s, fun i => s (i + 1), rfl, hlo, hB.lt, hB, fun i hi => ⟨?_, hmo i (i + 1) (by omega) (by omega), Nat.le_trans (hmo (i + 1) _ hi (Nat.le_refl _)) hk'⟩, fun i j hij hj => hmo (i + 1) j hij (by omega), fun i hi hh => ?_, fun i x hxi => hx i x (List.getElem?_eq_some_iff.1 hxi).1 hxi⟩
  · have := hmo 0 i (Nat.zero_le _) (by omega); omega
  · have := hmo 0 i (Nat.zero_le _) (by omega); omega
end

/-- Made by the call, its blocks apart. -/
def MadeO {α : Type} (c : OCod α) (t : TypeId) (W w : World) (v : Value) (xs : List α) : Prop := Own c t W.heap.size w.heap.size w v xs ∧ Below W.heap.size W w

set_option maxHeartbeats 400000 in
theorem toStringS_own (F : Nat → Prop) (v : Value) (xs : List ByteArray) (w : World) (h : Cod.str.Sl F w v xs) (hF : ∀ b, F b → b < w.heap.size) (hn : xs.length ≤ 2000000) :
    Calls Tryd.prog 104 #[v] w fun e w' => ∃ A' c', e = .returned (.slice A' xs.length c') ∧ MadeO OCod.str 9 w w' (.slice A' xs.length c') xs := by
  have HS := Lib.hid h
  obtain ⟨A, cap, rfl, hlc, hcm, _⟩ := h
  unfold maxLen at hcm
  have hmk := make_len (P := Tryd.prog) 53 9 _ 1 16 Tryd.underlying53 info_str (by omega) xs.length hn
  go_enter Tryd.func104, Tryd.ntmps104
  go_wp2
  go_loopw [4] (fun i wr => ∃ (k : Nat) (cs : Array Value), k ≤ xs.length ∧ i = .int .i64 k ∧ Blk wr w.heap.size 9 cs ∧ cs.size = xs.length ∧ OPart OCod.str w.heap.size wr cs k xs ∧ Below w.heap.size w wr) (fun i _ => xs.length - (intOf i).toNat)
  case atStart => exact ⟨0, _, Nat.zero_le _, rfl, Blk.new _ _ _, by simp [madeCells], OPart.zero (by simp), (Below.refl _ _).alloc (Nat.le_refl _) _⟩
  case round =>
    obtain ⟨k, cs, hk, rfl, HB, hsz, HP, hb⟩ := hrel
    have HBl := HB.lt
    by_cases hlt : k < xs.length
    · have HSr := Lib.hid (HS.out.keep (below_keeps hb hF))
      obtain ⟨b, off, cap', hv, hFb, _, _, hc0, hs0⟩ := HSr.out.str_at hlt
      obtain ⟨rfl, rfl⟩ : A = some ⟨b, off, none⟩ ∧ cap = cap' := by simpa using hv
      obtain ⟨d0, hd0⟩ := HB.holds hsz hlt
      have hf0 := HB.frozen k
      have HB' := Lib.hid HB
      have HP' := Lib.hid HP
      have Hsz := Lib.hid hsz
      clear hv HB HP hsz hmk
      go_wp2
      go_roundw
      case rel =>
        refine ⟨k + 1, _, by omega, by go_num, HB'.out.set_ k _, by rw [Array.size_setIfInBounds, Hsz.out], ?_, hb.setCell (by simp) _⟩
        refine HP'.out.next (news := [.string xs[k]]) hlt (fun i h1 _ => Below.heap_setCell _ _ _ _ (by simp; omega)) (by simp [World.setCell]) (fun i hi => by rw [Array.getElem?_setIfInBounds, if_neg (by simp [OCod.str, Cod.str] at hi; omega)]) (fun j u hu => ?_) ⟨rfl, hs0⟩
        match j, hu with
        | 0, hu => simp at hu; subst hu; simp [OCod.str, Cod.str, Hsz.out, hlt]
        | j + 1, hu => simp at hu
      case measure => simp [intOf]; omega
    · obtain rfl : k = xs.length := by omega
      have HM : MadeO OCod.str 9 w wr (.slice (some ⟨w.heap.size, 0, none⟩) xs.length xs.length) xs := ⟨HP.own HB (Nat.le_refl _) (Nat.le_refl _) (by unfold maxLen; omega), hb⟩
      clear hmk HB HP
      go_wp2
      go_ret
      exact ⟨_, _, rfl, HM⟩

set_option maxHeartbeats 400000 in
theorem toRecord_own (F : Nat → Prop) (v : Value) (r : Rec) (w : World) (h : Cod.str.Sl F w v r.fields) (hF : ∀ b, F b → b < w.heap.size) (hn : r.fields.length ≤ 2000000) :
    Calls Tryd.prog 88 #[.agg #[.int .i64 r.able, v]] w fun e w' => ∃ A' c', e = .returned (.agg #[.int .i64 r.able, .slice A' r.fields.length c']) ∧ MadeO OCod.str 9 w w' (.slice A' r.fields.length c') r.fields := by
  have HS := Lib.hid h
  obtain ⟨A, cap, rfl, hlc, hcm, _⟩ := h
  unfold maxLen at hcm
  go_enter Tryd.func88, Tryd.ntmps88
  go_wp2_with fail
  refine (toStringS_own F _ r.fields _ (HS.out.keep fun b hb => ?_) (fun b hb => ?_) hn).mono ?_
  · have := hF b hb
    rw [Below.heap_alloc _ _ _ (by simp; omega), Below.heap_alloc _ _ _ (by simp; omega), Below.heap_alloc _ _ _ (by omega)]
  · have := hF b hb
    simp; omega
  rintro e w1 ⟨A', c', rfl, hM⟩
  obtain ⟨hB1, hB2⟩ := Blk.of3 w (Obj.cells #[Value.int IntKind.i64 r.able, Value.slice A r.fields.length cap] 134) 113 113 #[Value.int IntKind.i64 0, Value.slice none 0 0] #[Value.int IntKind.i64 r.able, Value.slice none 0 0]
  have hC1 := hB1.below hM.2 (by simp)
  have hC2 := hB2.below hM.2 (by simp)
  have c10 := hC1.cell0
  have c11 := hC1.cell1
  have f10 := hC1.frozen 0
  have f11 := hC1.frozen 1
  have c20 := hC2.cell0
  have c21 := hC2.cell1
  have f20 := hC2.frozen 0
  have f21 := hC2.frozen 1
  have hsz : w.heap.size + 3 ≤ w1.heap.size := by simpa using hM.2.size
  have hM' := Lib.hid hM
  clear hB1 hB2 hC1 hC2 hM
  go_wp2
  refine bodyPost_ret (v := .agg #[.int .i64 r.able, .slice A' r.fields.length c']) (by simp [results, Tryd.results88, go_sem, c10, c11]) rfl ⟨A', c', rfl, ?_, ?_⟩
  · have h1 := hM'.out.1
    have e3 : (((w.alloc (Obj.cells #[Value.int IntKind.i64 r.able, Value.slice A r.fields.length cap] 134)).alloc (.cells #[Value.int IntKind.i64 0, Value.slice none 0 0] 113)).alloc (.cells #[Value.int IntKind.i64 r.able, Value.slice none 0 0] 113)).heap.size = w.heap.size + 3 := by simp
    rw [e3] at h1
    refine (h1.keep fun b g1 g2 => ?_).mono (by omega) (by simp)
    rw [Below.heap_setCell _ _ _ _ (by simp; omega), Below.heap_setCell _ _ _ _ (by simp; omega), Below.heap_setCell _ _ _ _ (by simp; omega)]
  · refine Below.setCell (Below.setCell (Below.setCell ?_ (by simp; omega) _) (by simp) _) (by simp) _
    exact (((Below.refl _ _).alloc (Nat.le_refl _) _).alloc (by simp) _).alloc (by simp; omega) _ |>.trans (hM'.out.2.mono (by simp; omega))

set_option maxHeartbeats 400000 in
theorem toRecordS_own (F : Nat → Prop) (v : Value) (xs : List Rec) (w : World) (h : Cod.rec_.Sl F w v xs) (hF : ∀ b, F b → b < w.heap.size) (hn : xs.length ≤ 2000000) (hm : ∀ r ∈ xs, r.fields.length ≤ 2000000) :
    Calls Tryd.prog 54 #[v] w fun e w' => ∃ A' c', e = .returned (.slice A' xs.length c') ∧ MadeO (OCod.rec_ 9) 113 w w' (.slice A' xs.length c') xs := by
  have HS := Lib.hid h
  have Hm := Lib.hid hm
  clear hm
  obtain ⟨A, cap, rfl, hlc, hcm, _⟩ := h
  unfold maxLen at hcm
  have hmk := make_len (P := Tryd.prog) 57 113 _ 2 32 Tryd.underlying57 info_rec (by omega) xs.length hn
  go_enter Tryd.func54, Tryd.ntmps54
  go_wp2
  go_loopw [4] (fun i wr => ∃ (k : Nat) (cs : Array Value), k ≤ xs.length ∧ i = .int .i64 k ∧ Blk wr w.heap.size 113 cs ∧ cs.size = xs.length * 2 ∧ OPart (OCod.rec_ 9) w.heap.size wr cs k xs ∧ Below w.heap.size w wr) (fun i _ => xs.length - (intOf i).toNat)
  case atStart => exact ⟨0, _, Nat.zero_le _, rfl, Blk.new _ _ _, by simp [madeCells], OPart.zero (by simp), (Below.refl _ _).alloc (Nat.le_refl _) _⟩
  case round =>
    obtain ⟨k, cs, hk, rfl, HB, hsz, HP, hb⟩ := hrel
    have HBl := HB.lt
    by_cases hlt : k < xs.length
    · have HSr := Lib.hid (HS.out.keep (below_keeps hb hF))
      obtain ⟨b, off, cap', u, hv, hFb, _, _, hc0, hc1, hi0, hu⟩ := HSr.out.rec_at hlt
      obtain ⟨rfl, rfl⟩ : A = some ⟨b, off, none⟩ ∧ cap = cap' := by simpa using hv
      have HB' := Lib.hid HB
      have HP' := Lib.hid HP
      have Hsz := Lib.hid hsz
      have Hu := Lib.hid hu
      have Hi := Lib.hid hi0
      have hm1 := Hm.out xs[k] (List.getElem_mem hlt)
      have hws := hb.size
      clear hv HB HP hsz hmk hu hi0
      go_wp2_with fail
      refine (toRecord_own F u xs[k] wr Hu.out (fun b hb' => Nat.lt_of_lt_of_le (hF b hb') hws) hm1).mono ?_
      rintro e w1 ⟨A', c', rfl, hM⟩
      have hbl := hM.2
      have HB1 := HB'.out.below hbl HBl
      obtain ⟨d0, hd0⟩ := HB1.holds Hsz.out (i := k * 2) (by omega)
      obtain ⟨d1, hd1⟩ := HB1.holds Hsz.out (i := k * 2 + 1) (by omega)
      have hf0 := HB1.frozen (k * 2)
      have hf1 := HB1.frozen (k * 2 + 1)
      have HBB := Lib.hid HB1
      have hw1 := hbl.size
      have HM := Lib.hid hM
      clear HB1 hM hbl
      go_wp2
      go_roundw
      case rel =>
        have hk1 : ∀ b, w.heap.size < b → ((w1.setCell ⟨w.heap.size, k * 2, none⟩ (.int .i64 (xs[k]).able)).setCell ⟨w.heap.size, k * 2 + 1, none⟩ (.slice A' (xs[k]).fields.length c')).heap[b]? = w1.heap[b]? := fun b hb' => by
          rw [Below.heap_setCell _ _ _ _ (by simp; omega), Below.heap_setCell _ _ _ _ (by simp; omega)]
        refine ⟨k + 1, _, by omega, by go_num, (HBB.out.set_ _ _).set_ _ _, by rw [Array.size_setIfInBounds, Array.size_setIfInBounds, Hsz.out], ?_, ?_⟩
        · refine HP'.out.next (news := [.int .i64 (xs[k]).able, .slice A' (xs[k]).fields.length c']) hlt (fun i h1 h2 => (hk1 i h1).trans (HM.out.2.block i h2)) (by simpa using hw1)
            (fun i hi => by rw [Array.getElem?_setIfInBounds, if_neg (by simp [OCod.rec_, Cod.rec_] at hi; omega), Array.getElem?_setIfInBounds, if_neg (by simp [OCod.rec_, Cod.rec_] at hi; omega)]) (fun j u hu => ?_)
            ⟨_, rfl, Hi.out, (HM.out.1.keep fun b g1 g2 => hk1 b (by omega)).mono (Nat.le_refl _) (by simp)⟩
          match j, hu with
          | 0, hu => simp at hu; subst hu; simp [OCod.rec_, Cod.rec_, Array.getElem?_setIfInBounds, Hsz.out]; omega
          | 1, hu => simp at hu; subst hu; simp [OCod.rec_, Cod.rec_, Array.getElem?_setIfInBounds, Hsz.out]; omega
          | j + 2, hu => simp at hu
        · exact ((hb.trans (HM.out.2.mono hws)).setCell (by simp) _).setCell (by simp) _
      case measure => simp [intOf]; omega
    · obtain rfl : k = xs.length := by omega
      have HM : MadeO (OCod.rec_ 9) 113 w wr (.slice (some ⟨w.heap.size, 0, none⟩) xs.length xs.length) xs := ⟨HP.own HB (Nat.le_refl _) (Nat.le_refl _) (by unfold maxLen; omega), hb⟩
      clear hmk HB HP
      go_wp2
      go_ret
      exact ⟨_, _, rfl, HM⟩

end Go.Proofs.YtgfpncpphpkahaaDoor
