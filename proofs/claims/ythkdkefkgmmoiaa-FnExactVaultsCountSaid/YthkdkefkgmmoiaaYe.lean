/- The program's iterator over pieces of vaults: what a loop over it owes, and what it is given. -/
import Derived.Test.YthkdkefkgmmoiaaYb
import Derived.RangeFuncNested
import Derived.RangeFuncBound
import Derived.RangeFuncCalls
import Derived.RangeFuncLeaves
import Derived.Shelf.Abstract
import Derived.WalkKit
import Derived.OwnWalkIn
import Derived.TacticsInMore
import Derived.LoopNIn
import Derived.LoopIn
namespace Go.Proofs.Ythkdkefkgmmoiaa
open Go.RowKit
attribute [local go_sem] Oper.semAt_some

/-- A record that is handed on: what it reads as, and where its rows lie. -/
structure KEl (d : Nat) (F : Nat → Prop) (w : World) (G : KepR → Prop) where
  k : KepR
  A : Option Addr
  cA : Nat
  B : Option Addr
  cB : Nat
  ho : I64 k.o
  hv : VRd (Cod.val d) F w (.slice A k.v.parts.length cA) (.slice B k.v.path.length cB) k.v
  hg : G k
def KEl.val {d : Nat} {F : Nat → Prop} {w : World} {G : KepR → Prop} (x : KEl d F w G) : Value := .agg #[.int .i64 x.k.o, .string x.k.v.ty, .int .i64 x.k.v.n, .slice x.A x.k.v.parts.length x.cA, .slice x.B x.k.v.path.length x.cB]
/-- The pieces of vaults that lie in block b. -/
def Pieces (d : Nat) (F : Nat → Prop) (w : World) (b : Nat) (ps : List (List KepR)) : Prop :=
  ∃ vs : List Value, Blk w b 57 vs.toArray ∧ ∀ i (_ : i < ps.length), ∃ v, vs[i]? = some v ∧ (Cod.kept (Cod.val d)).Sl F w v ps[i]
/-- What a round must leave as it is. -/
def KeepsIt (F : Nat → Prop) (x p : Nat) (W W' : World) : Prop := ∀ b, F b ∨ b = x ∨ b = p → W'.heap[b]? = W.heap[b]?
theorem KeepsIt.refl (F : Nat → Prop) (x p : Nat) (W : World) : KeepsIt F x p W W := fun _ _ => rfl
theorem KeepsIt.trans {F : Nat → Prop} {x p : Nat} {A B C : World} (h : KeepsIt F x p A B) (k : KeepsIt F x p B C) : KeepsIt F x p A C := fun b hb => (k b hb).trans (h b hb)

theorem KeepsIt.lt {F : Nat → Prop} {x p : Nat} {A B : World} (h : KeepsIt F x p A B) {b : Nat} (hb : F b ∨ b = x ∨ b = p) (hl : b < A.heap.size) : b < B.heap.size := by
  have := h b hb
  rw [Array.getElem?_eq_getElem hl] at this
  exact (Array.getElem?_eq_some_iff.1 this).1
theorem KeepsIt.alloc {F : Nat → Prop} {x p : Nat} {A : World} (h : ∀ b, F b ∨ b = x ∨ b = p → b < A.heap.size) (o : Obj) : KeepsIt F x p A (A.alloc o) := fun b hb => Below.heap_alloc _ _ _ (h b hb)

theorem flat_split {α : Type} {ps : List (List α)} {i : Nat} (h : i < ps.length) : ps.flatten = (ps.take i).flatten ++ (ps[i] ++ (ps.drop (i + 1)).flatten) := by
  conv => lhs; rw [← List.take_append_drop i ps, List.drop_eq_getElem_cons h, List.flatten_append, List.flatten_cons]
theorem flat_next {α : Type} {ps : List (List α)} {i : Nat} (h : i < ps.length) : (ps.take (i + 1)).flatten = (ps.take i).flatten ++ ps[i] := by
  rw [List.take_succ_eq_append_getElem h, List.flatten_append]; simp
theorem flat_pre {α : Type} {ps : List (List α)} {i j : Nat} (h : i < ps.length) : (ps.take i).flatten ++ ps[i].take j <+: ps.flatten := by
  rw [flat_split h]
  exact ⟨ps[i].drop j ++ (ps.drop (i + 1)).flatten, by rw [List.append_assoc, ← List.append_assoc (ps[i].take j), List.take_append_drop]⟩
theorem flat_less {α : Type} {ps : List (List α)} {i j : Nat} (h : i < ps.length) (hj : j < ps[i].length) : ((ps.take i).flatten ++ ps[i].take j).length < ps.flatten.length := by
  have := congrArg List.length (flat_split h)
  simp only [List.length_append, List.length_take] at this ⊢
  omega

set_option maxRecDepth 100000 in
set_option maxHeartbeats 4000000 in
theorem keptIn1_in (n d : Nat) (hn : 1 ≤ n) (F : Nat → Prop) (G : KepR → Prop) (w : World) (bx bp cp l : Nat) (ps : List (List KepR)) (hpl : ps.length ≤ 3) (hP : Pieces d F w bp ps) (hG : ∀ x ∈ ps.flatten, G x) (J Jx : List (KEl d F w G) → World → Prop) (W : World) (hW : KeepsIt F bx bp w W) (hJ : AbidesFrom W.heap.size J) (hFW : ∀ b, F b → b < W.heap.size) (hpx : bp < W.heap.size ∧ bx < W.heap.size)
    (hx : W.cell? ⟨bx, 0, none⟩ = some (.slice (some ⟨bp, 0, none⟩) ps.length cp))
    (hY : ∀ pre (x : KEl d F w G) W1, J pre W1 → pre.length < ps.flatten.length → YieldAt Fence.wide (n - 1) Try.prog l #[x.val] W1 fun e W' =>
      (e = .returned (.bool true) ∧ J (pre ++ [x]) W' ∧ KeepsIt F bx bp W1 W') ∨ (e = .returned (.bool false) ∧ Jx (pre ++ [x]) W'))
    (h0 : J [] W) :
    CallsIn Fence.wide n Try.prog 97 #[.func (.yield l) #[] #[], .pointer (some ⟨bx, 0, none⟩)] W fun e W' => (∃ v, e = .returned v) ∧
      ((∃ ys : List (KEl d F w G), ys.map KEl.k = ps.flatten ∧ J ys W') ∨ (∃ pre : List (KEl d F w G), pre.map KEl.k <+: ps.flatten ∧ Jx pre W')) := by
  obtain ⟨vs, hB, hvs⟩ := hP
  have HB := Lib.hid hB
  have HV := Lib.hid hvs
  have HY := Lib.hid hY
  have HG := Lib.hid hG
  have HJ := Lib.hid hJ
  have H0 := Lib.hid h0
  have HW := Lib.hid hW
  have HK0 := Lib.hid (KeepsIt.refl F bx bp W)
  clear hB hvs hY hJ h0 hW hG
  refine callsIn_of_wp Try.func97 rfl trivial ?_ rfl
  simp only [Try.ntmps97, List.size_toArray, List.length_cons, List.length_nil, Nat.reduceAdd, Nat.reduceSub, Array.replicate_succ, Array.replicate_zero, List.push_toArray, List.append_toArray, List.nil_append, List.cons_append]
  gi_wp2
  gi_loopw [9] (fun si wr => ∃ (i : Nat) (pre : List (KEl d F w G)), i ≤ ps.length ∧ si = .int .i64 i ∧ Hid (pre.map KEl.k = (ps.take i).flatten) ∧ Hid (J pre wr) ∧ Hid (KeepsIt F bx bp W wr)) (fun si _ => ps.length - (intOf si).toNat)
  case atStart => exact ⟨0, [], Nat.zero_le _, rfl, Lib.hid (by simp), H0, HK0⟩
  case round =>
    obtain ⟨i, pre, hi, rfl, Hpre, HJp, HKp⟩ := hrel
    by_cases hlt : i < ps.length
    · obtain ⟨v, hv, hs⟩ := HV.out i hlt
      obtain ⟨Ap, cap, rfl, hlc, hcm, _⟩ := id hs
      have hall : ∀ b, F b ∨ b = bx ∨ b = bp → b < W.heap.size := fun b hb => by
        rcases hb with h | h | h
        · exact hFW b h
        · omega
        · omega
      have HAll := Lib.hid hall
      have HS := Lib.hid hs
      have ev : wr.cell? ⟨bp, i, none⟩ = some (.slice Ap ps[i].length cap) := by
        have hB2 : Blk wr bp 57 vs.toArray := (HKp.out bp (.inr (.inr rfl))).trans ((HW.out bp (.inr (.inr rfl))).trans HB.out)
        rw [hB2.cell]
        simpa using hv
      unfold maxLen at hcm
      have i0 : (0 : Int) ≤ i := by omega
      have i1 : (i : Int) < ps.length := by omega
      have HPr := Lib.hid (fun j => flat_pre (j := j) hlt)
      have HLs := Lib.hid (fun j => flat_less (j := j) hlt)
      have HNx := Lib.hid (flat_next hlt)
      have HGd := Lib.hid (fun (j : Nat) (hj : j < ps[i].length) => HG.out ps[i][j] (List.mem_flatten.2 ⟨_, List.getElem_mem hlt, List.getElem_mem hj⟩))
      clear hv hs hall
      generalize ps[i] = qs at *
      have HI0 : Hid (pre.map KEl.k = (ps.take i).flatten ++ qs.take 0) := Lib.hid (by rw [Hpre.out]; simp)
      gi_wp2
      gi_loopw [15] (fun sj wr => ∃ (j : Nat) (pre : List (KEl d F w G)), j ≤ qs.length ∧ sj = .int .i64 j ∧ Hid (pre.map KEl.k = (ps.take i).flatten ++ qs.take j) ∧ Hid (J pre wr) ∧ Hid (KeepsIt F bx bp W wr)) (fun sj _ => qs.length - (intOf sj).toNat)
      case atStart => exact ⟨0, pre, Nat.zero_le _, rfl, HI0, HJp, HKp⟩
      case round =>
        clear HI0 HJp HKp Hpre ev
        obtain ⟨j, pre, hj, rfl, Hpre, HJp, HKp⟩ := hrel
        by_cases hlt2 : j < qs.length
        · obtain ⟨b, off, cap', A2, cA2, B2, cB2, hv2, hFb, _, _, hc0, hc1, hc2, hc3, hc4, ho, hV⟩ := HS.out.kept_at hlt2
          obtain ⟨rfl, rfl⟩ : Ap = some ⟨b, off, none⟩ ∧ cap = cap' := by simpa using hv2
          have hkb : wr.heap[b]? = w.heap[b]? := (HKp.out b (.inl hFb)).trans (HW.out b (.inl hFb))
          rw [← World.cell?_of_block (a := ⟨b, _, none⟩) hkb] at hc0 hc1 hc2 hc3 hc4
          have hwlt : ∀ b, F b ∨ b = bx ∨ b = bp → b < wr.heap.size := fun b hb => HKp.out.lt hb (HAll.out b hb)
          have hKa := Lib.hid (HKp.out.trans (KeepsIt.alloc hwlt (.cells #[.int .i64 qs[j].o, .string qs[j].v.ty, .int .i64 qs[j].v.n, .slice A2 qs[j].v.parts.length cA2, .slice B2 qs[j].v.path.length cB2] 97)))
          have hJa : J pre (wr.alloc (.cells #[.int .i64 qs[j].o, .string qs[j].v.ty, .int .i64 qs[j].v.n, .slice A2 qs[j].v.parts.length cA2, .slice B2 qs[j].v.path.length cB2] 97)) := HJ.out pre wr _ none HJp.out (World.grownBy_alloc wr _ none) (fun r e => by cases e)
          have hll : pre.length < ps.flatten.length := by
            have h1 := HLs.out j hlt2
            have h2 := congrArg List.length Hpre.out
            rw [List.length_map] at h2
            omega
          obtain ⟨fn, tmps, assign, body, hy0, hR⟩ := HY.out pre ⟨qs[j], A2, cA2, B2, cB2, ho, hV, HGd.out j hlt2⟩ _ hJa hll
          have hy : (Instr.yield l #[.agg #[.int .i64 qs[j].o, .string qs[j].v.ty, .int .i64 qs[j].v.n, .slice A2 qs[j].v.parts.length cA2, .slice B2 qs[j].v.path.length cB2]]).run Try.prog (wr.alloc (.cells #[.int .i64 qs[j].o, .string qs[j].v.ty, .int .i64 qs[j].v.n, .slice A2 qs[j].v.parts.length cA2, .slice B2 qs[j].v.path.length cB2] 97)) = .ok (.round l fn tmps assign body) (wr.alloc (.cells #[.int .i64 qs[j].o, .string qs[j].v.ty, .int .i64 qs[j].v.n, .slice A2 qs[j].v.parts.length cA2, .slice B2 qs[j].v.path.length cB2] 97)) := hy0
          have HPre2 : Hid ((pre ++ [⟨qs[j], A2, cA2, B2, cB2, ho, hV, HGd.out j hlt2⟩] : List (KEl d F w G)).map KEl.k = (ps.take i).flatten ++ qs.take (j + 1)) := Lib.hid (by
            rw [List.map_append, Hpre.out, List.take_succ_eq_append_getElem hlt2, List.append_assoc]
            rfl)
          have j0 : (0 : Int) ≤ j := by omega
          have j1 : (j : Int) < qs.length := by omega
          have HR := Lib.hid hR
          clear hy0 hkb hv2 hR hJa hwlt
          gi_wp2
          refine HR.out.mono ?_
          rintro e W3 (⟨rfl, hJ3, hk3⟩ | ⟨rfl, hJx3⟩)
          · have HJ3 := Lib.hid hJ3
            have HK3 := Lib.hid (hKa.out.trans hk3)
            clear hJ3 hk3
            gi_wp2
            go_roundw
            case rel => exact ⟨j + 1, _, by omega, by go_num, HPre2, HJ3, HK3⟩
            case measure => simp [intOf]; omega
          · have HJx3 := Lib.hid hJx3
            clear hJx3
            gi_wp2
            refine bodyPost_ret (results_none rfl _ _ _) rfl ?_
            exact ⟨⟨_, rfl⟩, .inr ⟨_, by rw [HPre2.out]; exact HPr.out _, HJx3.out⟩⟩
        · obtain rfl : j = qs.length := by omega
          have HPre2 : Hid (pre.map KEl.k = (ps.take (i + 1)).flatten) := Lib.hid (by rw [Hpre.out, HNx.out, List.take_length])
          gi_wp2
          go_roundw
          case rel => exact ⟨i + 1, pre, by omega, by go_num, HPre2, HJp, HKp⟩
          case measure => simp [intOf]; omega
    · obtain rfl : i = ps.length := by omega
      gi_wp2
      go_end0
      exact ⟨⟨_, rfl⟩, .inl ⟨pre, by rw [Hpre.out, List.take_length], HJp.out⟩⟩

theorem keptIn_any (n : Nat) (a : Option Addr) (len cap : Nat) (w : World) :
    CallsIn Fence.wide n Try.prog 74 #[.slice a len cap] w fun e w' => e = .returned (.func (.func 97) #[] #[.pointer (some ⟨w.heap.size, 0, none⟩)]) ∧ w' = w.alloc (.cells #[.slice a len cap] 147) := by
  refine callsIn_of_wp Try.func74 rfl trivial ?_ rfl
  simp only [Try.ntmps74, List.size_toArray, List.length_cons, List.length_nil, Nat.reduceAdd, Nat.reduceSub, Array.replicate_succ, Array.replicate_zero, List.push_toArray, List.append_toArray, List.nil_append, List.cons_append]
  gi_wp2
  go_ret
  exact ⟨rfl, rfl⟩

theorem keptIn_stops (n d : Nat) (hn : 1 ≤ n) (F : Nat → Prop) (G : KepR → Prop) (w : World) (bx bp cp : Nat) (ps : List (List KepR)) (hpl : ps.length ≤ 3) (hP : Pieces d F w bp ps) (hG : ∀ x ∈ ps.flatten, G x) (hF : ∀ b, F b → b < w.heap.size) (hbp : bp < w.heap.size) (hbx : bx < w.heap.size)
    (hx : w.cell? ⟨bx, 0, none⟩ = some (.slice (some ⟨bp, 0, none⟩) ps.length cp)) :
    SeqStopsK Fence.wide n Try.prog 97 #[.pointer (some ⟨bx, 0, none⟩)] (fun x : KEl d F w G => #[x.val]) (KeepsIt F bx bp) (fun ys => ys.map KEl.k = ps.flatten) (fun pre => pre.map KEl.k <+: ps.flatten) ps.flatten.length w := fun l J Jx W hW hJ _ hY h0 => by
  have hs := hW.size
  refine keptIn1_in n d hn F G w bx bp cp l ps hpl hP hG J Jx W (fun b hb => hW.block b ?_) hJ (fun b hb => Nat.lt_of_lt_of_le (hF b hb) hs) ⟨by omega, by omega⟩ ((hW.cell (p := ⟨bx, 0, none⟩) hbx).trans hx) hY h0
  rcases hb with h | h | h
  · exact hF b h
  · omega
  · omega

/-- What a caller says of blocks of cells abides what the law does. -/
theorem blk_own {β : Type} (b : Nat) (t : TypeId) (f : β → Array Value) : Go.Own (fun s W => Blk W b t (f s)) := fun s X Y row hs hg hrow =>
  (hg.block b (Blk.lt hs) (fun e => by
    obtain ⟨o, ho, hc⟩ := hrow b e.symm
    rw [show X.heap[b]? = _ from hs] at ho
    cases ho
    cases hc)).trans hs
theorem keeps_below {W W' : World} (h : Below W.heap.size W W') : KeepsOthers W W' := ⟨h.size, fun k o hk _ => (h.block k (Array.getElem?_eq_some_iff.1 hk).1).trans hk⟩
theorem keeps_it {F : Nat → Prop} {x p : Nat} {W W' : World} (h : Below W.heap.size W W') (hF : ∀ b, F b ∨ b = x ∨ b = p → b < W.heap.size) : KeepsIt F x p W W' := fun b hb => h.block b (hF b hb)
end Go.Proofs.Ythkdkefkgmmoiaa
