/- The program's copyKept: vaults of pieces, which share no memory with these. -/
import Derived.Test.YthkdkefkgmmoiaaYc
import Derived.Test.YthkdkefkgmmoiaaYf
import Derived.Test.YthkdkefkgmmoiaaYh
import Derived.Deep.RegionHeld3
namespace Go.Proofs.Ythkdkefkgmmoiaa
open Go.RowKit
attribute [local go_sem] Oper.semAt_some

theorem RGrow.row_cells {α : Type} {c : OCod α} {t : TypeId} {lo X m : Nat} {w : World} {v : Value} {xs : List α} (h : RGrow c t lo X m w v xs) {j : Nat} {o : Obj} (hj : v.ownBlock = some j) (ho : w.heap[j]? = some o) : o.isCells = true := by
  obtain ⟨us, h0, -⟩ := h
  rcases h0.2 with ⟨rfl, _⟩ | ⟨g, cap, cur, rfl, _, hh, _⟩
  · simp [Value.ownBlock] at hj
  · obtain rfl : g = j := by simpa [Value.ownBlock] using hj
    have h2 : Blk w g t cur := hh
    rw [show w.heap[g]? = _ from h2] at ho
    cases ho
    rfl
theorem RGrow.row_lo {α : Type} {c : OCod α} {t : TypeId} {lo X m : Nat} {w : World} {v : Value} {xs : List α} (h : RGrow c t lo X m w v xs) {j : Nat} (hj : v.ownBlock = some j) : lo ≤ j := by
  obtain ⟨us, h0, -⟩ := h
  rcases h0.2 with ⟨rfl, _⟩ | ⟨g, cap, cur, rfl, hl, hh, _⟩
  · simp [Value.ownBlock] at hj
  · obtain rfl : g = j := by simpa [Value.ownBlock] using hj
    exact hl

theorem info_kep5 : (Try.prog.info? 97).map (fun i => (i.zero, i.size, i.bytes)) = some (some (.agg #[.int .i64 0, .string ⟨#[]⟩, .int .i64 0, .slice none 0 0, .slice none 0 0]), 5, 80) := by kernel_rfl

/-- What lies behind one more record. -/
structure PushD (d : Nat) (w0 X : Nat) (W w4 : World) (b3 : Nat) (Y0 : Option Addr) (n0 c0 : Nat) (Y : Option Addr) (n cap : Nat) (xs : List KepR) : Prop where
  box : Blk w4 b3 57 #[.slice Y n cap]
  row : ∃ m, RGrow (OKept d) 97 w0 X m w4 (.slice Y n cap) xs
  below : Below w0 W w4
  others : KeepsOthers W w4
  size : W.heap.size ≤ w4.heap.size
  rest : ∀ b, b < W.heap.size → b ≠ b3 → (Value.slice Y0 n0 c0).ownBlock ≠ some b → w4.heap[b]? = W.heap[b]?

theorem copyKept_push {d w0 X b3 m n cy : Nat} {W w1 : World} {Y A2 : Option Addr} {c2 : Nat} {xs : List KepR} {k : KepR} (hn : n = xs.length) (h : RGrow (OKept d) 97 w0 X m W (.slice Y n cy) xs) (hB3 : Blk W b3 57 #[.slice Y n cy]) (h30 : w0 ≤ b3) (h3X : b3 < X) (hlen : n ≤ 2000000)
    (hO : Go.Proofs.Ythkdkefkgmmoiaa.Own (OCod.val 95 3 d) 95 W.heap.size w1.heap.size w1 (.slice A2 k.v.parts.length c2) k.v.parts) (hb : Below W.heap.size W w1) (hc : CellsOn W.heap.size w1) (hko : I64 k.o) (hty : k.v.ty.size ≤ maxLen) (hkn : I64 k.v.n) (hkp : k.v.path = []) :
    ∃ g cap w3, (Builtin.append_ #[57, 57] 57 #[.slice Y n cy, .slice (some ⟨w1.heap.size, 0, none⟩) 1 1]).run Try.prog (w1.alloc (.cells #[.int .i64 k.o, .string k.v.ty, .int .i64 k.v.n, .slice A2 k.v.parts.length c2, .slice none 0 0] 97)) = .ok (.slice (some ⟨g, 0, none⟩) (n + 1) cap) w3 ∧
      Blk w3 b3 57 #[.slice Y n cy] ∧ PushD d w0 X W (w3.setCell ⟨b3, 0, none⟩ (.slice (some ⟨g, 0, none⟩) (n + 1) cap)) b3 Y n cy (some ⟨g, 0, none⟩) (n + 1) cap (xs ++ [k]) ∧
      (∀ b, b < W.heap.size → (Value.slice Y n cy).ownBlock ≠ some b → w3.heap[b]? = W.heap[b]?) := by
  subst hn
  obtain ⟨w2, hw2⟩ : ∃ w2, w2 = w1.alloc (.cells #[.int .i64 k.o, .string k.v.ty, .int .i64 k.v.n, .slice A2 k.v.parts.length c2, .slice none 0 0] 97) := ⟨_, rfl⟩
  have hs2 : w2.heap.size = w1.heap.size + 1 := by rw [hw2]; simp
  have hb12 : Below w1.heap.size w1 w2 := by rw [hw2]; exact (Below.refl _ _).alloc (Nat.le_refl _) _
  have hb2 : Below W.heap.size W w2 := hb.trans (hb12.mono hb.size)
  have hs1 := hb.size
  have hX0 : w0 ≤ W.heap.size := by obtain ⟨_, _, _, h1, _⟩ := h; exact h1
  have hmW : m ≤ W.heap.size := by obtain ⟨_, _, _, _, _, h1, _⟩ := h; exact h1
  have hXm : X ≤ m := by obtain ⟨_, _, _, _, h1, _⟩ := h; exact h1
  have hrl : ∀ b, (Value.slice Y xs.length cy).ownBlock = some b → b < m := by obtain ⟨_, _, _, _, _, _, h1, _⟩ := h; exact h1
  have h2 : RGrow (OKept d) 97 w0 X m w2 (.slice Y xs.length cy) xs := h.keep hb2.size (fun b _ g2 => hb2.block b (by omega)) (fun b hb' => hb2.block b (by have := hrl b hb'; omega))
  have hcell2 : CellsOn W.heap.size w2 := by rw [hw2]; exact hc.alloc _ _
  have hOV : (OKept d).rd W.heap.size w1.heap.size w2 [.int .i64 k.o, .string k.v.ty, .int .i64 k.v.n, .slice A2 k.v.parts.length c2, .slice none 0 0] k :=
    ⟨_, _, rfl, hko, hty, hkn, w1.heap.size, hs1, Nat.le_refl _, hO.keep fun b _ g2 => hb12.block b g2, by rw [hkp]; exact own_nil5⟩
  obtain ⟨g, cap, w3, happ, hR3, hg3⟩ := h2.push (P := Try.prog) 57 57 _ 5 80 Try.underlying57 info_kep5 rfl rfl (by omega) (by omega) hlen W.heap.size w1.heap.size w1.heap.size 1 _ k (by rw [hw2]; exact Blk.new w1 _ _) (fun u hu => by simp at hu; rcases hu with rfl | rfl | rfl | rfl | rfl <;> rfl) (by omega) (by omega) (by omega) hOV (fun b o g1 _ ho => hcell2 b o g1 ho)
  have hne : (Value.slice Y xs.length cy).ownBlock ≠ some b3 := h2.row_ne (hB3.below hb2 hB3.lt) (by decide)
  have hB33 : Blk w3 b3 57 #[.slice Y xs.length cy] := (hg3.block b3 (by have := hB3.lt; omega) (fun e => hne e.symm)).trans (hB3.below hb2 hB3.lt)
  have hne3 : (Value.slice (some ⟨g, 0, none⟩) (xs.length + 1) cap).ownBlock ≠ some b3 := hR3.row_ne hB33 (by decide)
  have hs3 := hg3.size
  have hrest : ∀ b, b < W.heap.size → (Value.slice Y xs.length cy).ownBlock ≠ some b → w3.heap[b]? = W.heap[b]? := fun b h1 h2 => (hg3.block b (by omega) (fun e => h2 e.symm)).trans (hb2.block b h1)
  refine ⟨g, cap, w3, by rw [← hw2]; exact happ, hB33, ⟨?_, ⟨w3.heap.size, ?_⟩, ?_, ?_, by simp [World.setCell]; omega, fun b h1 h2 h3 => (Below.heap_setCell _ _ _ _ h2).trans (hrest b h1 h3)⟩, hrest⟩
  · exact hB33.set_ 0 _
  · refine hR3.keep (by simp [World.setCell]) (fun b g1 _ => Below.heap_setCell _ _ _ _ (by simp; omega)) (fun b hb' => Below.heap_setCell _ _ _ _ (fun e => hne3 (by rw [hb', e])))
  · exact ((hb2.mono hX0).grown hg3 (by omega) (fun j e => h2.row_lo e)).setCell h30 _
  · exact ((keeps_below hb2).trans (KeepsOthers.of_grownBy hg3 fun j o ej hj => h2.row_cells ej hj)).trans (KeepsOthers.setCell _ _ _)

/-- In a round, at the widest fence, an operation that defers nothing goes as everywhere. -/
theorem wpIn_round {l n : Nat} {P : Program} {o : Oper} {a : Act} {w : World} {K : Act → World → Prop} {Q : Exit → Act → World → Prop} (hd : ∀ c, o.op ≠ .defer c) (h : Oper.wp P o a w K Q) : Oper.wpIn (Fence.wide.inRound l) n P o a w K Q := by
  unfold Oper.wpIn
  refine ⟨fun _ _ => trivial, ?_⟩
  rw [Fence.inRound_round, Oper.semAt_some l _ o hd]
  unfold Oper.wp at h
  revert h
  cases (execOp a.eval o).run P w with
  | ok x w' =>
    cases x with
    | value v => exact fun h => h
    | skip => exact fun h => h
    | defer d => exact fun h => h
    | enter f args =>
      intro h
      exact And.intro (fun hh => by simp [Fence.wide] at hh) (CallsIn.inRound l (callsIn_wide.2 h))
    | row r args =>
      intro h
      refine And.intro (fun hh => by simp [Fence.wide] at hh) (fun c cs _ => ?_)
      obtain ⟨v, w'', h1, h2⟩ := (show Rows P r args w' _ from h) c cs
      exact ⟨v, w'', h1, stepsIn_wide.2 h2⟩
    | _ => exact fun h => h.elim
  | halt x w' =>
    cases x with
    | panic v => exact fun h => h
    | _ => exact fun h => h.elim
/-- .. and so does a region that draws. -/
theorem wpAnyIn_round {l n : Nat} {P : Program} {md : Region.Mode} {ops : Array Oper} {Q : Exit → Act → World → Prop} (hd : ∀ (i : Nat) (o : Oper), ops[i]? = some o → ∀ c, o.op ≠ .defer c) (hQ : ¬ LetsOut Q) :
    ∀ (fuel : Nat) (listed : Array Bool) (a : Act) (w : World), wpAny P md ops Q fuel listed a w → wpAnyIn (Fence.wide.inRound l) n P md ops Q fuel listed a w
  | 0, _, _, _, h => h
  | fuel + 1, listed, a, w, h => by
    refine ⟨h.1, fun i hi => ?_⟩
    have h2 := h.2 i hi
    unfold wpOp at h2
    unfold wpOpIn
    cases ho : ops[i]? with
    | none =>
      rw [ho] at h2
      exact wpAnyIn_round hd hQ fuel _ _ _ h2
    | some o =>
      rw [ho] at h2
      simp only at h2 ⊢
      split at h2
      · rename_i hw
        rw [if_pos hw]
        rcases h2 with h2 | ⟨_, h2⟩
        · exact wpIn_round (hd i o ho) (Oper.wp_mono (fun a w h => wpAnyIn_round hd hQ fuel _ a w h) h2)
        · exact absurd h2 hQ
      · rename_i hw
        rw [if_neg hw]
        exact ⟨fun _ _ => trivial, wpAnyIn_round hd hQ fuel _ _ _ h2⟩
def noDefer (ops : Array Oper) : Bool := ops.all fun o => match o.op with | .defer _ => false | _ => true
theorem noDefer_spec {ops : Array Oper} (h : noDefer ops = true) (i : Nat) (o : Oper) (ho : ops[i]? = some o) (c : Call) : o.op ≠ .defer c := fun hc => by
  unfold noDefer at h
  rw [Array.all_eq_true] at h
  obtain ⟨hlt, hi⟩ := Array.getElem?_eq_some_iff.1 ho
  have := h i hlt
  rw [hi, hc] at this
  cases this
theorem wpIn_region_round {l n id : Nat} {P : Program} {ops : Array Oper} {Q : Exit → Act → World → Prop} {a : Act} {w : World} {S : World → Prop} (hm : P.follows .mixedOrders = true) (hd : noDefer ops = true) (hQ : ¬ LetsOut Q)
    (hS : S w.drew) (h : S w.drew → wpAnyH P .any ops Q S ops.size (Array.replicate ops.size false) a w.drew) : (Code.region id ops true).wpIn (Fence.wide.inRound l) n P Q a w :=
  wpIn_region_any hm (wpAnyIn_round (noDefer_spec hd) hQ _ _ _ _ (wpAny_of_held _ _ _ _ (h hS)))

end Go.Proofs.Ythkdkefkgmmoiaa
