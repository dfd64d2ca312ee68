/- The functions that copy arguments, at values: what they hand back is new, and reads as what came in. -/
import Derived.Test.YtgfpncpphpkahaaDoorTo
import Derived.Test.YtgfpncpphpkahaaDoorVsz
namespace Go.Proofs.YtgfpncpphpkahaaDoor
open Go.RowKit

theorem info_int : (Tryd.prog.info? 3).map (fun i => (i.zero, i.size, i.bytes)) = some (some (.int .i64 0), 1, 8) := by kernel_rfl
set_option maxHeartbeats 400000 in
theorem toIntS_any (F : Nat → Prop) (v : Value) (xs : List Int) (w : World) (h : Cod.i64.Sl F w v xs) (hF : ∀ b, F b → b < w.heap.size) (hn : xs.length ≤ 2000000) :
    Calls Tryd.prog 56 #[v] w fun e w' => ∃ A' c', e = .returned (.slice A' xs.length c') ∧ Made Cod.i64 w w' (.slice A' xs.length c') xs := by
  have HS := Lib.hid h
  obtain ⟨A, cap, rfl, hlc, hcm, _⟩ := h
  unfold maxLen at hcm
  have hmk := make_len (P := Tryd.prog) 47 3 _ 1 8 Tryd.underlying47 info_int (by omega) xs.length hn
  go_enter Tryd.func56, Tryd.ntmps56
  go_wp2
  go_loopw [4] (fun i wr => ∃ (k : Nat) (cs : Array Value), k ≤ xs.length ∧ i = .int .i64 k ∧ Blk wr w.heap.size 3 cs ∧ cs.size = xs.length ∧ Cod.i64.Part NoB wr cs k xs ∧ Below w.heap.size w wr) (fun i _ => xs.length - (intOf i).toNat)
  case atStart => exact ⟨0, _, Nat.zero_le _, rfl, Blk.new _ _ _, by simp [madeCells], Cod.Part.zero, (Below.refl _ _).alloc (Nat.le_refl _) _⟩
  case round =>
    obtain ⟨k, cs, hk, rfl, HB, hsz, HP, hb⟩ := hrel
    have HBl := HB.lt
    by_cases hlt : k < xs.length
    · have HSr := Lib.hid (HS.out.keep (below_keeps hb hF))
      obtain ⟨b, off, cap', hv, hFb, _, _, hc0, hi0⟩ := HSr.out.i64_at hlt
      obtain ⟨rfl, rfl⟩ : A = some ⟨b, off, none⟩ ∧ cap = cap' := by simpa using hv
      obtain ⟨d0, hd0⟩ := HB.holds hsz hlt
      have hf0 := HB.frozen k
      have HB' := Lib.hid HB
      have HP' := Lib.hid HP
      have Hsz := Lib.hid hsz
      have HI := Lib.hid hi0
      clear hv HB HP hsz hmk hi0
      go_wp2
      go_roundw
      case rel => exact ⟨k + 1, _, by omega, by go_num, HB'.out.set_ k _, by rw [Array.size_setIfInBounds, Hsz.out], (HP'.out.keep fun b hb' => hb'.elim).one rfl hlt Hsz.out ⟨rfl, HI.out⟩, hb.setCell (by simp) _⟩
      case measure => simp [intOf]; omega
    · obtain rfl : k = xs.length := by omega
      have HM : Made Cod.i64 w wr (.slice (some ⟨w.heap.size, 0, none⟩) xs.length xs.length) xs := ⟨(HP.mono fun _ h => h.elim).sl HB ⟨Nat.le_refl _, HBl⟩ (Nat.le_refl _) (by unfold maxLen; omega), hb⟩
      clear hmk HB HP
      go_wp2
      go_ret
      exact ⟨_, _, rfl, HM⟩

/-- No slice in it is long. -/
def Smol (P : Val → Prop) (v : Val) : Prop := v.parts.length ≤ 2000000 ∧ v.path.length ≤ 2000000 ∧ ∀ x ∈ v.parts, P x
def SmolD : Nat → Val → Prop
  | 0 => fun _ => True
  | d + 1 => Smol (SmolD d)

/-- The first of three new blocks. -/
theorem Blk.of3a (w : World) (o o' : Obj) (t : TypeId) (cs : Array Value) : Blk (((w.alloc (.cells cs t)).alloc o).alloc o') w.heap.size t cs := ((Blk.new w t cs).alloc o).alloc o'

end Go.Proofs.YtgfpncpphpkahaaDoor
