/- The functions that copy arguments, at strings and records: what they hand back is new, and reads as what came in. -/
import Derived.Test.YthkdkefkgmmoiaaDoorRows
import Derived.Test.YthkdkefkgmmoiaaDoorKit
namespace Go.Proofs.YthkdkefkgmmoiaaDoor
open Go.RowKit

theorem info_str : (Tryd.prog.info? 9).map (fun i => (i.zero, i.size, i.bytes)) = some (some (.string ByteArray.empty), 1, 16) := by kernel_rfl
theorem info_rec : (Tryd.prog.info? 51).map (fun i => (i.zero, i.size, i.bytes)) = some (some (.agg #[.int .i64 0, .slice none 0 0]), 2, 32) := by kernel_rfl
theorem info_strs : (Tryd.prog.info? 49).map (fun i => (i.zero, i.size, i.bytes)) = some (some (.slice none 0 0), 1, 24) := by kernel_rfl
theorem info_recs : (Tryd.prog.info? 40).map (fun i => (i.zero, i.size, i.bytes)) = some (some (.slice none 0 0), 1, 24) := by kernel_rfl

set_option maxHeartbeats 400000 in
theorem toStringS_any (F : Nat → Prop) (v : Value) (xs : List ByteArray) (w : World) (h : Cod.str.Sl F w v xs) (hF : ∀ b, F b → b < w.heap.size) (hn : xs.length ≤ 2000000) :
    Calls Tryd.prog 59 #[v] w fun e w' => ∃ A' c', e = .returned (.slice A' xs.length c') ∧ Made Cod.str w w' (.slice A' xs.length c') xs := by
  have HS := Lib.hid h
  obtain ⟨A, cap, rfl, hlc, hcm, _⟩ := h
  unfold maxLen at hcm
  have hmk := make_len (P := Tryd.prog) 49 9 _ 1 16 Tryd.underlying49 info_str (by omega) xs.length hn
  go_enter Tryd.func59, Tryd.ntmps59
  go_wp2
  go_loopw [4] (fun i wr => ∃ (k : Nat) (cs : Array Value), k ≤ xs.length ∧ i = .int .i64 k ∧ Blk wr w.heap.size 9 cs ∧ cs.size = xs.length ∧ Cod.str.Part NoB wr cs k xs ∧ Below w.heap.size w wr) (fun i _ => xs.length - (intOf i).toNat)
  case atStart => exact ⟨0, _, Nat.zero_le _, rfl, Blk.new _ _ _, by simp [madeCells], Cod.Part.zero, (Below.refl _ _).alloc (Nat.le_refl _) _⟩
  case round =>
    obtain ⟨k, cs, hk, rfl, HB, hsz, HP, hb⟩ := hrel
    have HBl := HB.lt
    by_cases hlt : k < xs.length
    · have HSr := Lib.hid (HS.out.keep (below_keeps hb hF))
      obtain ⟨b, off, cap', hv, hFb, _, _, hc0, hs0⟩ := HSr.out.str_at hlt
      obtain ⟨rfl, rfl⟩ : A = some ⟨b, off, none⟩ ∧ cap = cap' := by simpa using hv
      obtain ⟨d0, hd0⟩ := HB.holds hsz hlt
      have hf0 := HB.frozen k
      have HB' := Lib.hid HB
      have HP' := Lib.hid HP
      have Hsz := Lib.hid hsz
      clear hv HB HP hsz hmk
      go_wp2
      go_roundw
      case rel => exact ⟨k + 1, _, by omega, by go_num, HB'.out.set_ k _, by rw [Array.size_setIfInBounds, Hsz.out], (HP'.out.keep fun b hb' => hb'.elim).one rfl hlt Hsz.out ⟨rfl, hs0⟩, hb.setCell (by simp) _⟩
      case measure => simp [intOf]; omega
    · obtain rfl : k = xs.length := by omega
      have HM : Made Cod.str w wr (.slice (some ⟨w.heap.size, 0, none⟩) xs.length xs.length) xs := ⟨(HP.mono fun _ h => h.elim).sl HB ⟨Nat.le_refl _, HBl⟩ (Nat.le_refl _) (by unfold maxLen; omega), hb⟩
      clear hmk HB HP
      go_wp2
      go_ret
      exact ⟨_, _, rfl, HM⟩

set_option maxHeartbeats 400000 in
theorem toRecord_any (F : Nat → Prop) (v : Value) (r : Rec) (w : World) (h : Cod.str.Sl F w v r.fields) (hF : ∀ b, F b → b < w.heap.size) (hn : r.fields.length ≤ 2000000) :
    Calls Tryd.prog 45 #[.agg #[.int .i64 r.able, v]] w fun e w' => ∃ A' c', e = .returned (.agg #[.int .i64 r.able, .slice A' r.fields.length c']) ∧ Made Cod.str w w' (.slice A' r.fields.length c') r.fields := by
  have HS := Lib.hid h
  obtain ⟨A, cap, rfl, hlc, hcm, _⟩ := h
  unfold maxLen at hcm
  go_enter Tryd.func45, Tryd.ntmps45
  go_wp2_with fail
  refine (toStringS_any F _ r.fields _ (HS.out.keep fun b hb => ?_) (fun b hb => ?_) hn).mono ?_
  · have := hF b hb
    rw [Below.heap_alloc _ _ _ (by simp; omega), Below.heap_alloc _ _ _ (by simp; omega), Below.heap_alloc _ _ _ (by omega)]
  · have := hF b hb
    simp; omega
  rintro e w1 ⟨A', c', rfl, hM⟩
  obtain ⟨hB1, hB2⟩ := Blk.of3 w (Obj.cells #[Value.int IntKind.i64 r.able, Value.slice A r.fields.length cap] 78) 51 51 #[Value.int IntKind.i64 0, Value.slice none 0 0] #[Value.int IntKind.i64 r.able, Value.slice none 0 0]
  have hC1 := hB1.below hM.2 (by simp)
  have hC2 := hB2.below hM.2 (by simp)
  have c10 := hC1.cell0
  have c11 := hC1.cell1
  have f10 := hC1.frozen 0
  have f11 := hC1.frozen 1
  have c20 := hC2.cell0
  have c21 := hC2.cell1
  have f20 := hC2.frozen 0
  have f21 := hC2.frozen 1
  have hsz : w.heap.size + 3 ≤ w1.heap.size := by simpa using hM.2.size
  have hM' := Lib.hid hM
  clear hB1 hB2 hC1 hC2 hM
  go_wp2
  refine bodyPost_ret (v := .agg #[.int .i64 r.able, .slice A' r.fields.length c']) (by simp [results, Tryd.results45, go_sem, c10, c11]) rfl ⟨A', c', rfl, hM'.out.later (by simp; omega) (fun b hb _ => ?_) (by simp) ?_⟩
  · simp at hb
    rw [Below.heap_setCell _ _ _ _ (by simp; omega), Below.heap_setCell _ _ _ _ (by simp; omega), Below.heap_setCell _ _ _ _ (by simp; omega)]
  · refine Below.setCell (Below.setCell (Below.setCell ?_ (by simp; omega) _) (by simp) _) (by simp) _
    exact (((Below.refl _ _).alloc (Nat.le_refl _) _).alloc (by simp) _).alloc (by simp; omega) _ |>.trans (hM'.out.2.mono (by simp; omega))

set_option maxHeartbeats 400000 in
theorem toRecordS_any (F : Nat → Prop) (v : Value) (xs : List Rec) (w : World) (h : Cod.rec_.Sl F w v xs) (hF : ∀ b, F b → b < w.heap.size) (hn : xs.length ≤ 2000000) (hm : ∀ r ∈ xs, r.fields.length ≤ 2000000) :
    Calls Tryd.prog 29 #[v] w fun e w' => ∃ A' c', e = .returned (.slice A' xs.length c') ∧ Made Cod.rec_ w w' (.slice A' xs.length c') xs := by
  have HS := Lib.hid h
  have Hm := Lib.hid hm
  clear hm
  obtain ⟨A, cap, rfl, hlc, hcm, _⟩ := h
  unfold maxLen at hcm
  have hmk := make_len (P := Tryd.prog) 40 51 _ 2 32 Tryd.underlying40 info_rec (by omega) xs.length hn
  go_enter Tryd.func29, Tryd.ntmps29
  go_wp2
  go_loopw [4] (fun i wr => ∃ (k : Nat) (cs : Array Value), k ≤ xs.length ∧ i = .int .i64 k ∧ Blk wr w.heap.size 51 cs ∧ cs.size = xs.length * 2 ∧ Cod.rec_.Part (fun b => w.heap.size < b ∧ b < wr.heap.size) wr cs k xs ∧ Below w.heap.size w wr) (fun i _ => xs.length - (intOf i).toNat)
  case atStart => exact ⟨0, _, Nat.zero_le _, rfl, Blk.new _ _ _, by simp [madeCells], Cod.Part.zero, (Below.refl _ _).alloc (Nat.le_refl _) _⟩
  case round =>
    obtain ⟨k, cs, hk, rfl, HB, hsz, HP, hb⟩ := hrel
    have HBl := HB.lt
    by_cases hlt : k < xs.length
    · have HSr := Lib.hid (HS.out.keep (below_keeps hb hF))
      obtain ⟨b, off, cap', u, hv, hFb, _, _, hc0, hc1, hi0, hu⟩ := HSr.out.rec_at hlt
      obtain ⟨rfl, rfl⟩ : A = some ⟨b, off, none⟩ ∧ cap = cap' := by simpa using hv
      have HB' := Lib.hid HB
      have HP' := Lib.hid HP
      have Hsz := Lib.hid hsz
      have Hu := Lib.hid hu
      have Hi := Lib.hid hi0
      have hm1 := Hm.out xs[k] (List.getElem_mem hlt)
      have hws := hb.size
      clear hv HB HP hsz hmk hu hi0
      go_wp2_with fail
      refine (toRecord_any F u xs[k] wr Hu.out (fun b hb' => Nat.lt_of_lt_of_le (hF b hb') hws) hm1).mono ?_
      rintro e w1 ⟨A', c', rfl, hM⟩
      have hbl := hM.2
      have HB1 := HB'.out.below hbl HBl
      obtain ⟨d0, hd0⟩ := HB1.holds Hsz.out (i := k * 2) (by omega)
      obtain ⟨d1, hd1⟩ := HB1.holds Hsz.out (i := k * 2 + 1) (by omega)
      have hf0 := HB1.frozen (k * 2)
      have hf1 := HB1.frozen (k * 2 + 1)
      have HBB := Lib.hid HB1
      have hw1 := hbl.size
      have HM := Lib.hid hM
      clear HB1 hM hbl
      go_wp2
      go_roundw
      case rel =>
        have hk1 : ∀ b, w.heap.size < b → ((w1.setCell ⟨w.heap.size, k * 2, none⟩ (.int .i64 (xs[k]).able)).setCell ⟨w.heap.size, k * 2 + 1, none⟩ (.slice A' (xs[k]).fields.length c')).heap[b]? = w1.heap[b]? := fun b hb' => by
          rw [Below.heap_setCell _ _ _ _ (by simp; omega), Below.heap_setCell _ _ _ _ (by simp; omega)]
        refine ⟨k + 1, _, by omega, by go_num, (HBB.out.set_ _ _).set_ _ _, by rw [Array.size_setIfInBounds, Array.size_setIfInBounds, Hsz.out], ?_, ?_⟩
        · refine Cod.Part.two (c := Cod.rec_) rfl ?_ hlt Hsz.out ?_
          · refine (HP'.out.keep fun b hb' => (hk1 b hb'.1).trans (HM.out.2.block b hb'.2)).mono fun b hb' => ⟨hb'.1, ?_⟩
            have := hb'.2
            simp; omega
          · refine ⟨_, rfl, Hi.out, (HM.out.1.keep fun b hb' => hk1 b (by have := hb'.1; omega)).mono fun b hb' => ⟨by have := hb'.1; omega, ?_⟩⟩
            have := hb'.2
            simp; omega
        · exact ((hb.trans (HM.out.2.mono hws)).setCell (by simp) _).setCell (by simp) _
      case measure => simp [intOf]; omega
    · obtain rfl : k = xs.length := by omega
      have HM : Made Cod.rec_ w wr (.slice (some ⟨w.heap.size, 0, none⟩) xs.length xs.length) xs := ⟨(HP.mono fun b h => (⟨Nat.le_of_lt h.1, h.2⟩ : Fresh w wr b)).sl HB ⟨Nat.le_refl _, HBl⟩ (Nat.le_refl _) (by unfold maxLen; omega), hb⟩
      clear hmk HB HP
      go_wp2
      go_ret
      exact ⟨_, _, rfl, HM⟩

end Go.Proofs.YthkdkefkgmmoiaaDoor
