/- The functions that copy arguments, at instructions, functions and modules: what they hand back is the call's own. -/
import Derived.Test.YtgfpncpphpkahaaGz
import Derived.Test.YtgfpncpphpkahaaOwp
namespace Go.Proofs.Ytgfpncpphpkahaa
open Go.RowKit


def ToRow {α : Type} (c : OCod α) (t : TypeId) (f : FuncId) (P : α → Prop) : Prop := ∀ (F : Nat → Prop) (v : Value) (xs : List α) (w : World), c.cod.Sl F w v xs → (∀ b, F b → b < w.heap.size) → xs.length ≤ 2000000 → (∀ x ∈ xs, P x) →
    Calls Try.prog f #[v] w fun e w' => ∃ A' c', e = .returned (.slice A' xs.length c') ∧ MadeO c t w w' (.slice A' xs.length c') xs
set_option maxHeartbeats 400000 in
theorem toIntS_own (F : Nat → Prop) (v : Value) (xs : List Int) (w : World) (h : Cod.i64.Sl F w v xs) (hF : ∀ b, F b → b < w.heap.size) (hn : xs.length ≤ 2000000) :
    Calls Try.prog 28 #[v] w fun e w' => ∃ A' c', e = .returned (.slice A' xs.length c') ∧ MadeO OCod.i64 3 w w' (.slice A' xs.length c') xs := by
  have HS := Lib.hid h
  obtain ⟨A, cap, rfl, hlc, hcm, _⟩ := h
  unfold maxLen at hcm
  have hmk := make_len (P := Try.prog) 39 3 _ 1 8 Try.underlying39 info_int (by omega) xs.length hn
  go_enter Try.func28, Try.ntmps28
  go_wp2
  go_loopw [4] (fun i wr => ∃ (k : Nat) (cs : Array Value), k ≤ xs.length ∧ i = .int .i64 k ∧ Blk wr w.heap.size 3 cs ∧ cs.size = xs.length ∧ OPart OCod.i64 w.heap.size wr cs k xs ∧ Below w.heap.size w wr) (fun i _ => xs.length - (intOf i).toNat)
  case atStart => exact ⟨0, _, Nat.zero_le _, rfl, Blk.new _ _ _, by simp [madeCells], OPart.zero (by simp), (Below.refl _ _).alloc (Nat.le_refl _) _⟩
  case round =>
    obtain ⟨k, cs, hk, rfl, HB, hsz, HP, hb⟩ := hrel
    have HBl := HB.lt
    by_cases hlt : k < xs.length
    · have HSr := Lib.hid (HS.out.keep (below_keeps hb hF))
      obtain ⟨b, off, cap', hv, hFb, _, _, hc0, hs0⟩ := HSr.out.i64_at hlt
      obtain ⟨rfl, rfl⟩ : A = some ⟨b, off, none⟩ ∧ cap = cap' := by simpa using hv
      obtain ⟨d0, hd0⟩ := HB.holds hsz hlt
      have hf0 := HB.frozen k
      have HB' := Lib.hid HB
      have HP' := Lib.hid HP
      have Hsz := Lib.hid hsz
      have Hi := Lib.hid hs0
      clear hv HB HP hsz hmk hs0
      go_wp2
      go_roundw
      case rel =>
        refine ⟨k + 1, _, by omega, by go_num, HB'.out.set_ k _, by rw [Array.size_setIfInBounds, Hsz.out], ?_, hb.setCell (by simp) _⟩
        refine HP'.out.next (news := [.int .i64 xs[k]]) hlt (fun i h1 _ => Below.heap_setCell _ _ _ _ (by simp; omega)) (by simp [World.setCell]) (fun i hi => by rw [Array.getElem?_setIfInBounds, if_neg (by simp [OCod.i64, Cod.i64] at hi; omega)]) (fun j u hu => ?_) ⟨rfl, Hi.out⟩
        match j, hu with
        | 0, hu => simp at hu; subst hu; simp [OCod.i64, Cod.i64, Hsz.out, hlt]
        | j + 1, hu => simp at hu
      case measure => simp [intOf]; omega
    · obtain rfl : k = xs.length := by omega
      have HM : MadeO OCod.i64 3 w wr (.slice (some ⟨w.heap.size, 0, none⟩) xs.length xs.length) xs := ⟨HP.own HB (Nat.le_refl _) (Nat.le_refl _) (by unfold maxLen; omega), hb⟩
      clear hmk HB HP
      go_wp2
      go_ret
      exact ⟨_, _, rfl, HM⟩
theorem to_i64 : ToRow OCod.i64 3 28 (fun _ => True) := fun F v xs w h hF hn _ => toIntS_own F v xs w h hF hn

def ToInsrD (x : InsR) (w : World) (e : Ending) (w' : World) : Prop := e = .returned (.agg #[.string x.op, .int .i64 x.a, .int .i64 x.b]) ∧ InsRo w.heap.size w'.heap.size w'  x ∧ Below w.heap.size w w'

end Go.Proofs.Ytgfpncpphpkahaa
