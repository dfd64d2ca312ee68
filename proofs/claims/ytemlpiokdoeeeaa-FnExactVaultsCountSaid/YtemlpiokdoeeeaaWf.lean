/- The model's l9Copy: a copy of vaults. -/
import Derived.Test.YtemlpiokdoeeeaaWe
import Derived.Test.YtemlpiokdoeeeaaWd
namespace Go.Proofs.Ytemlpiokdoeeeaa
open Go.RowKit

theorem five_one {o : Int} {a : ByteArray} {n : Int} {A B : Option Addr} {l c l' c' : Nat} : ∀ u ∈ ([.int .i64 o, .string a, .int .i64 n, .slice A l c, .slice B l' c'] : List Value), u.oneCell' = true := fun u hu => by
  simp only [List.mem_cons, List.not_mem_nil, or_false] at hu
  rcases hu with rfl | rfl | rfl | rfl | rfl <;> rfl

/-- append(row, record). -/
theorem push_kept {d base cb : Nat} {w : World} {v : Value} {xs : List KepR} (h : OwnRow (Cod.kept (Cod.val d)) 35 base cb w v xs) (hn : xs.length ≤ 2000000) (hcb : cb ≤ base) (hbase : base ≤ w.heap.size) {G : Nat → Prop} {A B : Option Addr} {cA cB : Nat} (x : KepR) (ho : I64 x.o) (hV : VRd (Cod.val d) G w (.slice A x.v.parts.length cA) (.slice B x.v.path.length cB) x.v)
    (hG : ∀ b, G b → cb ≤ b ∧ b < w.heap.size ∧ v.ownBlock ≠ some b) :
    ∃ g cap w', (Builtin.append_ #[24, 24] 24 #[v, .slice (some ⟨w.heap.size, 0, none⟩) 1 1]).run Try.prog (w.alloc (.cells #[.int .i64 x.o, .string x.v.ty, .int .i64 x.v.n, .slice A x.v.parts.length cA, .slice B x.v.path.length cB] 35)) = .ok (.slice (some ⟨g, 0, none⟩) (xs.length + 1) cap) w' ∧
      OwnRow (Cod.kept (Cod.val d)) 35 base cb w' (.slice (some ⟨g, 0, none⟩) (xs.length + 1) cap) (xs ++ [x]) ∧ Below base w w' := by
  obtain ⟨g, cap, w', h1, h2, h3, h4, h5⟩ := OwnRow.push (P := Try.prog) (c := Cod.kept (Cod.val d)) 24 24 _ 80 Try.underlying24 info_kept rfl (by show 0 < 5; decide) (by omega) h hn hcb hbase 1 [.int .i64 x.o, .string x.v.ty, .int .i64 x.v.n, .slice A x.v.parts.length cA, .slice B x.v.path.length cB] x five_one ⟨_, _, rfl, ho, hV.mono hG⟩
  have hown := h.own_lt5
  exact ⟨g, cap, w', h1, h2, ⟨h3.os, h3.tape, h3.output, h3.size, fun i hi => h3.block i (by omega) fun he => by have := (hown i he.symm).1; omega⟩⟩
theorem OwnRow.noown {α : Type} {c : Cod α} {e : TypeId} {base cb : Nat} {w : World} {v : Value} {xs : List α} (h : OwnRow c e base cb w v xs) {b : Nat} (hb : w.heap.size ≤ b) : v.ownBlock ≠ some b := fun he => by have := (h.own_lt5 b he).2; omega

def CopyKD (d : Nat) (xs : List KepR) (w : World) (e : Ending) (w' : World) : Prop :=
  ∃ g cap, e = .returned (.slice (some ⟨g, 0, none⟩) xs.length cap) ∧ OwnRow (Cod.kept (Cod.val d)) 35 w.heap.size w.heap.size w' (.slice (some ⟨g, 0, none⟩) xs.length cap) xs ∧ Below w.heap.size w w'

set_option maxRecDepth 100000 in
set_option maxHeartbeats 4000000 in
theorem l9Copy_any (d : Nat) (F : Nat → Prop) (v : Value) (xs : List KepR) (w : World) (h : (Cod.kept (Cod.val d)).Sl F w v xs) (hF : ∀ b, F b → b < w.heap.size) (hn : xs.length ≤ 1000000) (hsm : ∀ x ∈ xs, SmolKep d x) :
    Calls Try.prog 72 #[v] w (CopyKD d xs w) := by
  have HV := Lib.hid h
  obtain ⟨A, cap, rfl, hlc, hcm, -⟩ := h
  unfold maxLen at hcm
  obtain ⟨w0, hw0⟩ : ∃ w0, w0 = w.alloc (.cells #[] 35) := ⟨_, rfl⟩
  have HB0 := Lib.hid (show Below w.heap.size w w0 by rw [hw0]; exact (Below.refl _ _).alloc (Nat.le_refl _) _)
  have HG0 : Hid (OwnRow (Cod.kept (Cod.val d)) 35 w.heap.size w.heap.size w0 (.slice (some ⟨w.heap.size, 0, none⟩) 0 0) (xs.take 0)) := Lib.hid (by rw [hw0]; exact OwnRow.lit w (Nat.le_refl _))
  have Hw0 := Lib.hid hw0
  have HF := Lib.hid hF
  have HSm := Lib.hid hsm
  clear hw0 hF hsm
  go_enter Try.func72, Try.ntmps72
  go_upto_region 2 with fail
  rw [← Hw0.out]
  go_wp2
  go_loopw [3, 4] (fun o i wr => ∃ (k g cp : Nat), k ≤ xs.length ∧ i = .int .i64 k ∧ o = .slice (some ⟨g, 0, none⟩) k cp ∧ Hid (OwnRow (Cod.kept (Cod.val d)) 35 w.heap.size w.heap.size wr (.slice (some ⟨g, 0, none⟩) k cp) (xs.take k)) ∧ Hid (Below w.heap.size w wr)) (fun _ i _ => xs.length - (intOf i).toNat)
  case atStart => exact ⟨0, _, _, Nat.zero_le _, rfl, rfl, HG0, HB0⟩
  case round =>
    obtain ⟨k, g, cp, hk, rfl, rfl, HG, HB⟩ := hrel
    by_cases hlt : k < xs.length
    · obtain ⟨b, off, cap', A2, cA, B2, cB, hv, hFb, _, _, hc0, hc1, hc2, hc3, hc4, h64, hV⟩ := (HV.out.keep (below_keeps HB.out HF.out)).kept_at hlt
      obtain ⟨rfl, rfl⟩ : A = some ⟨b, off, none⟩ ∧ cap = cap' := by simpa using hv
      have hbl : b < wr.heap.size := Nat.lt_of_lt_of_le (HF.out b hFb) HB.out.size
      have hsz := HB.out.size
      have hlen : (xs.take k).length = k := by simp; omega
      have hgt : xs.take k ++ [xs[k]] = xs.take (k + 1) := (List.take_succ_eq_append_getElem hlt).symm
      have HC := Lib.hid (l2Copy_any d F A2 B2 _ _ cA cB xs[k].v wr.drew hV.drew (below_goF HF.out HB.out.drew) (HSm.out _ (List.getElem_mem hlt)))
      have H64 := Lib.hid h64
      have HGt := Lib.hid hgt
      have i0 : (0 : Int) ≤ k := by omega
      have i1 : (k : Int) < xs.length := by omega
      clear hv hV h64 hgt
      generalize xs[k] = x at *
      go_wp2_with fail
      go_region_law (first
        | (refine step_append_run rfl _ _ _ rfl rfl rfl happ ?_)
        | (go_simp; go_at_call 58; (with_reducible refine HC.out.mono ?_); rintro e wa ⟨A1, cA1, B1, cB1, rfl, hMV⟩; go_must (
            have hbw : Below wr.heap.size wr wa := (below_draw wr).trans (show Below wr.heap.size wr.drew wa from hMV.2);
            have y0 := (hbw.cell (p := ⟨b, off + k * 5, none⟩) hbl).trans hc0;
            have hrow := HG.out.below (Nat.le_refl _) hbw;
            have hws := hbw.size;
            obtain ⟨g4, cap4, w4, happ, hO4, hb4⟩ := push_kept hrow (by rw [hlen]; omega) (Nat.le_refl _) (Nat.le_trans hsz hws) (G := Fresh wr.drew wa) x H64.out hMV.1 (fun b' hb' => ⟨Nat.le_trans hsz hb'.1, hb'.2, HG.out.noown hb'.1⟩);
            rw [hlen, HGt.out] at hO4;
            rw [hlen] at happ;
            have HGn := Lib.hid hO4;
            have HBn := Lib.hid ((HB.out.trans (hbw.mono hsz)).trans hb4);
            clear hO4 hb4 hrow)))
      all_goals
        go_wp2
        go_roundw
        case rel => exact ⟨k + 1, _, _, by omega, by go_num, rfl, HGn, HBn⟩
        case measure => first | (simp [intOf]; done) | (simp [intOf]; omega)
    · obtain rfl : k = xs.length := by omega
      have HGn := HG.out
      rw [List.take_length] at HGn
      have HQ := Lib.hid (show CopyKD d xs w (.returned (.slice (some ⟨g, 0, none⟩) xs.length cp)) wr from ⟨_, _, rfl, HGn, HB.out⟩)
      clear HGn
      go_wp2
      go_ret
      exact HQ.out
end Go.Proofs.Ytemlpiokdoeeeaa
