/- The model's l9Copy: a copy of vaults. The model's l9Put: a record put to vaults, in order. -/
import Derived.Test.YtmomdflfjcboiaaWe
import Derived.Test.YtmomdflfjcboiaaWc
import Derived.BigQuiet
namespace Go.Proofs.Ytmomdflfjcboiaa
open Go.RowKit

theorem five_one {o : Int} {a : ByteArray} {n : Int} {A B : Option Addr} {l c l' c' : Nat} : ∀ u ∈ ([.int .i64 o, .string a, .int .i64 n, .slice A l c, .slice B l' c'] : List Value), u.oneCell' = true := fun u hu => by
  simp only [List.mem_cons, List.not_mem_nil, or_false] at hu
  rcases hu with rfl | rfl | rfl | rfl | rfl <;> rfl

/-- append(row, record). -/
theorem push_kept {d base cb : Nat} {w : World} {v : Value} {xs : List KepR} (h : OwnRow (Cod.kept (Cod.val d)) 61 base cb w v xs) (hn : xs.length ≤ 2000000) (hcb : cb ≤ base) (hbase : base ≤ w.heap.size) {G : Nat → Prop} {A B : Option Addr} {cA cB : Nat} (x : KepR) (ho : I64 x.o) (hV : VRd (Cod.val d) G w (.slice A x.v.parts.length cA) (.slice B x.v.path.length cB) x.v)
    (hG : ∀ b, G b → cb ≤ b ∧ b < w.heap.size ∧ v.ownBlock ≠ some b) :
    ∃ g cap w', (Builtin.append_ #[51, 51] 51 #[v, .slice (some ⟨w.heap.size, 0, none⟩) 1 1]).run Try.prog (w.alloc (.cells #[.int .i64 x.o, .string x.v.ty, .int .i64 x.v.n, .slice A x.v.parts.length cA, .slice B x.v.path.length cB] 61)) = .ok (.slice (some ⟨g, 0, none⟩) (xs.length + 1) cap) w' ∧
      OwnRow (Cod.kept (Cod.val d)) 61 base cb w' (.slice (some ⟨g, 0, none⟩) (xs.length + 1) cap) (xs ++ [x]) ∧ Below base w w' := by
  obtain ⟨g, cap, w', h1, h2, h3, h4, h5⟩ := OwnRow.push (P := Try.prog) (c := Cod.kept (Cod.val d)) 51 51 _ 80 Try.underlying51 info_kept rfl (by show 0 < 5; decide) (by omega) h hn hcb hbase 1 [.int .i64 x.o, .string x.v.ty, .int .i64 x.v.n, .slice A x.v.parts.length cA, .slice B x.v.path.length cB] x five_one ⟨_, _, rfl, ho, hV.mono hG⟩
  have hown := h.own_lt5
  exact ⟨g, cap, w', h1, h2, ⟨h3.os, h3.tape, h3.output, h3.size, fun i hi => h3.block i (by omega) fun he => by have := (hown i he.symm).1; omega⟩⟩
theorem OwnRow.noown {α : Type} {c : Cod α} {e : TypeId} {base cb : Nat} {w : World} {v : Value} {xs : List α} (h : OwnRow c e base cb w v xs) {b : Nat} (hb : w.heap.size ≤ b) : v.ownBlock ≠ some b := fun he => by have := (h.own_lt5 b he).2; omega

def CopyKD (d : Nat) (xs : List KepR) (w : World) (e : Ending) (w' : World) : Prop :=
  ∃ g cap, e = .returned (.slice (some ⟨g, 0, none⟩) xs.length cap) ∧ OwnRow (Cod.kept (Cod.val d)) 61 w.heap.size w.heap.size w' (.slice (some ⟨g, 0, none⟩) xs.length cap) xs ∧ Below w.heap.size w w'

end Go.Proofs.Ytmomdflfjcboiaa

namespace Go.Proofs.Ytmomdflfjcboiaa
open Go.RowKit

def gtK (x : KepR) (o : Int) (t : ByteArray) : Bool := decide (o < x.o) || ((x.o == o) && !(Go.Op.bytesLess x.v.ty.toList t.toList || x.v.ty.toList == t.toList))
def putK (o : Int) (v : Val) : List KepR → List KepR
  | [] => [⟨o, v⟩]
  | x :: r => if gtK x o v.ty = true then ⟨o, v⟩ :: x :: r else x :: putK o v r
theorem putK_length (o : Int) (v : Val) : ∀ xs : List KepR, (putK o v xs).length = xs.length + 1
  | [] => rfl
  | x :: r => by
    unfold putK
    split
    · rfl
    · rw [List.length_cons, putK_length o v r, List.length_cons]
def PutKD (d M : Nat) (ys : List KepR) (w : World) (e : Ending) (w' : World) : Prop :=
  ∃ g cap, e = .returned (.slice (some ⟨g, 0, none⟩) ys.length cap) ∧ OwnRow (Cod.kept (Cod.val d)) 61 w.heap.size M w' (.slice (some ⟨g, 0, none⟩) ys.length cap) ys ∧ Below w.heap.size w w'

set_option maxRecDepth 100000 in
set_option maxHeartbeats 4000000 in
theorem l9Put_any (d M : Nat) (F : Nat → Prop) (vl : Value) (xs : List KepR) (o : Int) (A B : Option Addr) (n m cA cB : Nat) (v : Val) (w : World) (h : OwnRow (Cod.kept (Cod.val d)) 61 M M w vl xs) (hM : M ≤ w.heap.size) (hn : xs.length ≤ 1000000) (ho : I64 o)
    (hv : VRd (Cod.val d) F w (.slice A n cA) (.slice B m cB) v) (hF : ∀ b, F b → b < w.heap.size) (hsm : Smol (SmolD d) v) :
    Calls Try.prog 63 #[vl, .int .i64 o, .agg #[.string v.ty, .int .i64 v.n, .slice A n cA, .slice B m cB]] w (PutKD d M (putK o v xs) w) := by
  have HL := Lib.hid (h.sl (Nat.le_refl _))
  obtain ⟨Al, cl, rfl⟩ := h.form5
  obtain ⟨_, _, hfl, hll, hlm, -⟩ := id HL.out
  simp only [Value.slice.injEq, true_and] at hfl
  obtain ⟨rfl, rfl⟩ := hfl
  unfold maxLen at hlm
  obtain ⟨w0, hw0⟩ : ∃ w0, w0 = w.alloc (.cells #[.string v.ty, .int .i64 v.n, .slice A n cA, .slice B m cB] 57) := ⟨_, rfl⟩
  obtain ⟨w1, hw1⟩ : ∃ w1, w1 = w0.alloc (.cells #[] 61) := ⟨_, rfl⟩
  have hb0 : Below w.heap.size w w0 := by rw [hw0]; exact (Below.refl _ _).alloc (Nat.le_refl _) _
  have hs0 : w0.heap.size = w.heap.size + 1 := by rw [hw0]; simp
  have hB0 : Blk w0 w.heap.size 57 #[.string v.ty, .int .i64 v.n, .slice A n cA, .slice B m cB] := by rw [hw0]; exact Blk.new _ _ _
  have HG0 : Hid (OwnRow (Cod.kept (Cod.val d)) 61 w0.heap.size M w1 (.slice (some ⟨w.heap.size + 1, 0, none⟩) 0 0) []) := Lib.hid (by rw [← hs0, hw1]; exact OwnRow.lit w0 (Nat.le_refl _))
  have HB1 := Lib.hid (show Below w0.heap.size w0 w1 by rw [hw1]; exact (Below.refl _ _).alloc (Nat.le_refl _) _)
  have HE := Lib.hid hb0
  have HO := Lib.hid ho
  have HBx := Lib.hid hB0
  have HM0 := Lib.hid (show M ≤ w0.heap.size by omega)
  have hlx : w.heap.size < w0.heap.size := by omega
  have Hw1 := Lib.hid (show w1 = (w.alloc (.cells #[.string v.ty, .int .i64 v.n, .slice A n cA, .slice B m cB] 57)).alloc (.cells #[] 61) by rw [hw1, hw0])
  have HV := Lib.hid (hv.keep (w' := w0) fun b hb => hb0.block b (hF b hb))
  have HF := Lib.hid (show ∀ b, F b → b < w0.heap.size from fun b hb => by have := hF b hb; omega)
  have HLs := Lib.hid (HL.out.keep (w' := w0) fun b hb => hb0.block b hb.2)
  have HCp := Lib.hid (fun (W : World) (hb : Below w0.heap.size w0 W) => l2Copy_any d F A B n m cA cB v W (HV.out.keep (below_keeps hb HF.out)) (below_goF HF.out hb) hsm)
  have HSt : Hid (([] : List KepR) ++ (if false = true then xs.drop 0 else putK o v (xs.drop 0)) = putK o v xs) := Lib.hid (by rw [List.drop_zero]; rfl)
  clear h hw0 hw1 hb0 hs0 hB0 hF hsm hv HL
  go_enter Try.func63, Try.ntmps63
  go_upto_region 2 with fail
  rw [← Hw1.out]
  go_wp2
  go_loopw [7, 8, 9] (fun so sd si wr => ∃ (k g cp : Nat) (ys : List KepR) (dB : Bool), k ≤ xs.length ∧ si = .int .i64 k ∧ sd = .bool dB ∧ so = .slice (some ⟨g, 0, none⟩) ys.length cp ∧ ys.length ≤ k + dB.toNat ∧ Hid (OwnRow (Cod.kept (Cod.val d)) 61 w0.heap.size M wr (.slice (some ⟨g, 0, none⟩) ys.length cp) ys) ∧ Hid (ys ++ (if dB = true then xs.drop k else putK o v (xs.drop k)) = putK o v xs) ∧ Hid (Below w0.heap.size w0 wr)) (fun _ _ si _ => xs.length - (intOf si).toNat)
  case atStart => exact ⟨0, _, _, [], false, Nat.zero_le _, rfl, rfl, rfl, Nat.zero_le _, HG0, HSt, HB1⟩
  case round =>
    clear HG0 HSt HB1
    obtain ⟨k, g, cp, ys, dB, hk, rfl, rfl, rfl, hyl, HG, HE2, HB⟩ := hrel
    have hszr := HB.out.size
    have hyl1 : ys.length ≤ k + 1 := Nat.le_trans hyl (by cases dB <;> simp)
    obtain ⟨b0, b1, b2, b3⟩ := (HBx.out.below HB.out hlx).c2
    by_cases hlt : k < xs.length
    · obtain ⟨b, off, cap', A2, cA2, B2, cB2, hv, hFb, _, _, hc0, hc1, hc2, hc3, hc4, h64, hV⟩ := (HLs.out.keep (w' := wr) fun b hb => HB.out.block b (by have := hb.2; omega)).kept_at hlt
      obtain ⟨rfl, rfl⟩ : Al = some ⟨b, off, none⟩ ∧ cl = cap' := by simpa using hv
      have i0 : (0 : Int) ≤ k := by omega
      have i1 : (k : Int) < xs.length := by omega
      have hbl : b < wr.heap.size := by have := hFb.2; omega
      have H64 := Lib.hid h64
      have HVx := Lib.hid hV
      have hdr : xs.drop k = xs[k] :: xs.drop (k + 1) := List.drop_eq_getElem_cons hlt
      have HE3 := Lib.hid (show ys ++ (if dB = true then xs[k] :: xs.drop (k + 1) else putK o v (xs[k] :: xs.drop (k + 1))) = putK o v xs by have := HE2.out; rw [hdr] at this; exact this)
      clear hv hV h64 hdr HE2
      generalize xs[k] = x at *
      have hpl : ∀ (W : World) (ws : List KepR) (g' c' : Nat) (hbW : Below wr.heap.size wr W) (hr : OwnRow (Cod.kept (Cod.val d)) 61 w0.heap.size M W (.slice (some ⟨g', 0, none⟩) ws.length c') ws) (hl : ws.length ≤ 1500000), _ := fun W ws g' c' hbW hr hl =>
        push_kept hr (by omega) HM0.out (Nat.le_trans hszr hbW.size) x H64.out (HVx.out.keep (w' := W) fun b hb => hbW.block b (by have := hb.2; omega)) (G := fun b => M ≤ b ∧ b < w.heap.size) (fun b hb => ⟨hb.1, by have := hb.2; have := hbW.size; omega, fun he => by have := (hr.own_lt5 b he).1; have := hb.2; omega⟩)
      have HPl := Lib.hid hpl
      clear hpl
      cases dB with
      | true =>
        have HEn := Lib.hid (show (ys ++ [x]) ++ (if true = true then xs.drop (k + 1) else putK o v (xs.drop (k + 1))) = putK o v xs by rw [← HE3.out]; simp)
        go_wp2_with fail
        go_quiet (fail)
        obtain ⟨wd, hwd⟩ : ∃ wd, wd = wr.drewN nq := ⟨_, rfl⟩
        have hbd : Below wr.heap.size wr wd := by rw [hwd]; exact below_drewN (Below.refl _ _) nq
        rw [← hwd]
        clear hwd
        obtain ⟨g4, cap4, w4, happ, hO4, hb4⟩ := HPl.out wd ys g cp hbd (HG.out.below HM0.out hbd) (by omega)
        have d0 := (hbd.cell (p := ⟨b, off + k * 5, none⟩) hbl).trans hc0
        have d1 := (hbd.cell (p := ⟨b, off + k * 5 + 1, none⟩) hbl).trans hc1
        have d2 := (hbd.cell (p := ⟨b, off + k * 5 + 2, none⟩) hbl).trans hc2
        have d3 := (hbd.cell (p := ⟨b, off + k * 5 + 3, none⟩) hbl).trans hc3
        have d4 := (hbd.cell (p := ⟨b, off + k * 5 + 4, none⟩) hbl).trans hc4
        have HGn := Lib.hid hO4
        have HBn := Lib.hid ((HB.out.trans (hbd.mono hszr)).trans hb4)
        clear hO4 hb4 hc0 hc1 hc2 hc3 hc4 HE3 hbd
        go_wp2_with (at_builtin; refine wpList_append_run rfl _ _ _ rfl rfl rfl happ ?_)
        go_roundw
        case rel => first | exact ⟨k + 1, g4, cap4, ys ++ [x], true, by omega, by go_num, rfl, by rw [List.length_append]; rfl, by rw [List.length_append]; exact Nat.le_trans (Nat.add_le_add_right hyl 1) (by simp; try omega), by rw [List.length_append]; exact HGn, HEn, HBn⟩ | ((repeat apply Exists.intro); exact ⟨⟨k + 1, g4, cap4, ys ++ [x], true, by omega, by go_num, rfl, by rw [List.length_append]; rfl, by rw [List.length_append]; exact Nat.le_trans (Nat.add_le_add_right hyl 1) (by simp; try omega), by rw [List.length_append]; exact HGn, HEn, HBn⟩, rfl⟩)
        case measure => first | (simp [intOf]; done) | (simp [intOf]; omega)
      | false =>
        rcases Int.lt_trichotomy o x.o with hlo | hlo | hlo
        · have HGt := Lib.hid (show gtK x o v.ty = true by unfold gtK; rw [decide_eq_true hlo]; rfl)
          have t0 : decide (o < x.o) = true := decide_eq_true hlo
          have HEn := Lib.hid (show (ys ++ [(⟨o, v⟩ : KepR)] ++ [x]) ++ (if true = true then xs.drop (k + 1) else putK o v (xs.drop (k + 1))) = putK o v xs by rw [← HE3.out]; simp [putK, HGt.out])
          go_wp2_with fail
          go_quiet (fail)
          obtain ⟨wd, hwd⟩ : ∃ wd, wd = wr.drewN nq := ⟨_, rfl⟩
          have hbd : Below wr.heap.size wr wd := by rw [hwd]; exact below_drewN (Below.refl _ _) nq
          rw [← hwd]
          clear hwd
          have hbe := HB.out.trans (hbd.mono hszr)
          obtain ⟨v0, v1, v2, v3⟩ := (HBx.out.below hbe hlx).c2
          have HC := Lib.hid (HCp.out wd hbe)
          go_wp2_with fail
          go_at_call 82
          with_reducible refine HC.out.mono ?_
          rintro e w2 ⟨A1, cA1, B1, cB1, rfl, hMV⟩
          have hbw := hbd.trans (hMV.2.mono hbd.size)
          have hws := hbw.size
          obtain ⟨g3, cap3, w3, happ3, hO3, hb3⟩ := push_kept (HG.out.below HM0.out hbw) (by omega) HM0.out (Nat.le_trans hszr hws) (G := Fresh wd w2) (⟨o, v⟩ : KepR) HO.out hMV.1 (fun b' hb' => ⟨by have := hb'.1; have := hbd.size; have := HM0.out; omega, hb'.2, HG.out.noown (by have := hb'.1; have := hbd.size; omega)⟩)
          have hO3' : OwnRow (Cod.kept (Cod.val d)) 61 w0.heap.size M w3 (.slice (some ⟨g3, 0, none⟩) (ys ++ [(⟨o, v⟩ : KepR)]).length cap3) (ys ++ [(⟨o, v⟩ : KepR)]) := by rw [List.length_append]; exact hO3
          have hb3w : Below w0.heap.size wr w3 := (hbw.mono hszr).trans hb3
          have hszw := hb3w.size
          have hk3 : ∀ bb, bb < w0.heap.size → w3.heap[bb]? = wr.heap[bb]? := fun bb hbb => hb3w.block bb hbb
          obtain ⟨g4, cap4, w4, happ4, hO4, hb4⟩ := push_kept hO3' (by simp; omega) HM0.out (by omega) x H64.out (HVx.out.keep (w' := w3) fun b hb => hk3 b (by have := hb.2; omega)) (G := fun b => M ≤ b ∧ b < w.heap.size) (fun b hb => ⟨hb.1, by have := hb.2; omega, fun he => by have := (hO3'.own_lt5 b he).1; have := hb.2; omega⟩)
          have hbb : b < w0.heap.size := by have := hFb.2; omega
          have d0 := (World.cell?_of_block (a := ⟨b, off + k * 5, none⟩) (hk3 b hbb)).trans hc0
          have d1 := (World.cell?_of_block (a := ⟨b, off + k * 5 + 1, none⟩) (hk3 b hbb)).trans hc1
          have d2 := (World.cell?_of_block (a := ⟨b, off + k * 5 + 2, none⟩) (hk3 b hbb)).trans hc2
          have d3 := (World.cell?_of_block (a := ⟨b, off + k * 5 + 3, none⟩) (hk3 b hbb)).trans hc3
          have d4 := (World.cell?_of_block (a := ⟨b, off + k * 5 + 4, none⟩) (hk3 b hbb)).trans hc4
          have hyl2 : (ys ++ [(⟨o, v⟩ : KepR)]).length = ys.length + 1 := by simp
          rw [hyl2] at happ4 hO4
          have HGn := Lib.hid hO4
          have HBn := Lib.hid ((HB.out.trans hb3w).trans hb4)
          clear hO4 hb4 hc0 hc1 hc2 hc3 hc4 HE3 hbd hbe HC hMV hbw hO3 hO3' hb3 hb3w hk3 v0 v1 v2 v3
          go_upto_region 9 with (at_builtin; refine wpList_append_run rfl _ _ _ rfl rfl rfl happ3 ?_)
          go_wp2_with (at_builtin; refine wpList_append_run rfl _ _ _ rfl rfl rfl happ4 ?_)
          go_roundw
          case rel => exact ⟨k + 1, g4, cap4, ys ++ [(⟨o, v⟩ : KepR)] ++ [x], true, by omega, by go_num, rfl, by rw [List.length_append, hyl2]; rfl, by rw [List.length_append, hyl2]; show ys.length + 1 + 1 ≤ k + 1 + 1; exact Nat.add_le_add_right (Nat.add_le_add_right (show ys.length ≤ k from hyl) 1) 1, by rw [List.length_append, hyl2]; exact HGn, HEn, HBn⟩
          case measure => first | (simp [intOf]; done) | (simp [intOf]; omega)
        · cases hl : Go.Op.bytesLess x.v.ty.toList v.ty.toList with
          | true =>
            have HGt := Lib.hid (show gtK x o v.ty = false by unfold gtK; rw [decide_eq_false (by omega), hl]; simp)
            have t0 : decide (o < x.o) = false := decide_eq_false (by omega)
            have t1 : (x.o == o) = true := by rw [beq_iff_eq]; exact hlo.symm
            clear hlo
            have HEn := Lib.hid (show (ys ++ [x]) ++ (if false = true then xs.drop (k + 1) else putK o v (xs.drop (k + 1))) = putK o v xs by rw [← HE3.out]; simp [putK, HGt.out])
            go_wp2_with fail
            go_quiet (fail)
            obtain ⟨wd, hwd⟩ : ∃ wd, wd = wr.drewN nq := ⟨_, rfl⟩
            have hbd : Below wr.heap.size wr wd := by rw [hwd]; exact below_drewN (Below.refl _ _) nq
            rw [← hwd]
            clear hwd
            obtain ⟨g4, cap4, w4, happ, hO4, hb4⟩ := HPl.out wd ys g cp hbd (HG.out.below HM0.out hbd) (by omega)
            have d0 := (hbd.cell (p := ⟨b, off + k * 5, none⟩) hbl).trans hc0
            have d1 := (hbd.cell (p := ⟨b, off + k * 5 + 1, none⟩) hbl).trans hc1
            have d2 := (hbd.cell (p := ⟨b, off + k * 5 + 2, none⟩) hbl).trans hc2
            have d3 := (hbd.cell (p := ⟨b, off + k * 5 + 3, none⟩) hbl).trans hc3
            have d4 := (hbd.cell (p := ⟨b, off + k * 5 + 4, none⟩) hbl).trans hc4
            have HGn := Lib.hid hO4
            have HBn := Lib.hid ((HB.out.trans (hbd.mono hszr)).trans hb4)
            clear hO4 hb4 hc0 hc1 hc2 hc3 hc4 HE3 hbd
            go_wp2_with (at_builtin; refine wpList_append_run rfl _ _ _ rfl rfl rfl happ ?_)
            go_roundw
            case rel => first | exact ⟨k + 1, g4, cap4, ys ++ [x], false, by omega, by go_num, rfl, by rw [List.length_append]; rfl, by rw [List.length_append]; exact Nat.le_trans (Nat.add_le_add_right hyl 1) (by simp; try omega), by rw [List.length_append]; exact HGn, HEn, HBn⟩ | ((repeat apply Exists.intro); exact ⟨⟨k + 1, g4, cap4, ys ++ [x], false, by omega, by go_num, rfl, by rw [List.length_append]; rfl, by rw [List.length_append]; exact Nat.le_trans (Nat.add_le_add_right hyl 1) (by simp; try omega), by rw [List.length_append]; exact HGn, HEn, HBn⟩, rfl⟩)
            case measure => first | (simp [intOf]; done) | (simp [intOf]; omega)
          | false =>
            cases hq : (x.v.ty.toList == v.ty.toList) with
            | true =>
              have HGt := Lib.hid (show gtK x o v.ty = false by unfold gtK; rw [decide_eq_false (by omega), hl, hq]; simp)
              have t0 : decide (o < x.o) = false := decide_eq_false (by omega)
              have t1 : (x.o == o) = true := by rw [beq_iff_eq]; exact hlo.symm
              clear hlo
              have HEn := Lib.hid (show (ys ++ [x]) ++ (if false = true then xs.drop (k + 1) else putK o v (xs.drop (k + 1))) = putK o v xs by rw [← HE3.out]; simp [putK, HGt.out])
              go_wp2_with fail
              go_quiet (fail)
              obtain ⟨wd, hwd⟩ : ∃ wd, wd = wr.drewN nq := ⟨_, rfl⟩
              have hbd : Below wr.heap.size wr wd := by rw [hwd]; exact below_drewN (Below.refl _ _) nq
              rw [← hwd]
              clear hwd
              obtain ⟨g4, cap4, w4, happ, hO4, hb4⟩ := HPl.out wd ys g cp hbd (HG.out.below HM0.out hbd) (by omega)
              have d0 := (hbd.cell (p := ⟨b, off + k * 5, none⟩) hbl).trans hc0
              have d1 := (hbd.cell (p := ⟨b, off + k * 5 + 1, none⟩) hbl).trans hc1
              have d2 := (hbd.cell (p := ⟨b, off + k * 5 + 2, none⟩) hbl).trans hc2
              have d3 := (hbd.cell (p := ⟨b, off + k * 5 + 3, none⟩) hbl).trans hc3
              have d4 := (hbd.cell (p := ⟨b, off + k * 5 + 4, none⟩) hbl).trans hc4
              have HGn := Lib.hid hO4
              have HBn := Lib.hid ((HB.out.trans (hbd.mono hszr)).trans hb4)
              clear hO4 hb4 hc0 hc1 hc2 hc3 hc4 HE3 hbd
              go_wp2_with (at_builtin; refine wpList_append_run rfl _ _ _ rfl rfl rfl happ ?_)
              go_roundw
              case rel => first | exact ⟨k + 1, g4, cap4, ys ++ [x], false, by omega, by go_num, rfl, by rw [List.length_append]; rfl, by rw [List.length_append]; exact Nat.le_trans (Nat.add_le_add_right hyl 1) (by simp; try omega), by rw [List.length_append]; exact HGn, HEn, HBn⟩ | ((repeat apply Exists.intro); exact ⟨⟨k + 1, g4, cap4, ys ++ [x], false, by omega, by go_num, rfl, by rw [List.length_append]; rfl, by rw [List.length_append]; exact Nat.le_trans (Nat.add_le_add_right hyl 1) (by simp; try omega), by rw [List.length_append]; exact HGn, HEn, HBn⟩, rfl⟩)
              case measure => first | (simp [intOf]; done) | (simp [intOf]; omega)
            | false =>
              have HGt := Lib.hid (show gtK x o v.ty = true by unfold gtK; rw [decide_eq_false (by omega), hl, hq]; simp; exact hlo.symm)
              have t0 : decide (o < x.o) = false := decide_eq_false (by omega)
              have t1 : (x.o == o) = true := by rw [beq_iff_eq]; exact hlo.symm
              clear hlo
              have HEn := Lib.hid (show (ys ++ [(⟨o, v⟩ : KepR)] ++ [x]) ++ (if true = true then xs.drop (k + 1) else putK o v (xs.drop (k + 1))) = putK o v xs by rw [← HE3.out]; simp [putK, HGt.out])
              go_wp2_with fail
              go_quiet (fail)
              obtain ⟨wd, hwd⟩ : ∃ wd, wd = wr.drewN nq := ⟨_, rfl⟩
              have hbd : Below wr.heap.size wr wd := by rw [hwd]; exact below_drewN (Below.refl _ _) nq
              rw [← hwd]
              clear hwd
              have hbe := HB.out.trans (hbd.mono hszr)
              obtain ⟨v0, v1, v2, v3⟩ := (HBx.out.below hbe hlx).c2
              have HC := Lib.hid (HCp.out wd hbe)
              go_wp2_with fail
              go_at_call 82
              with_reducible refine HC.out.mono ?_
              rintro e w2 ⟨A1, cA1, B1, cB1, rfl, hMV⟩
              have hbw := hbd.trans (hMV.2.mono hbd.size)
              have hws := hbw.size
              obtain ⟨g3, cap3, w3, happ3, hO3, hb3⟩ := push_kept (HG.out.below HM0.out hbw) (by omega) HM0.out (Nat.le_trans hszr hws) (G := Fresh wd w2) (⟨o, v⟩ : KepR) HO.out hMV.1 (fun b' hb' => ⟨by have := hb'.1; have := hbd.size; have := HM0.out; omega, hb'.2, HG.out.noown (by have := hb'.1; have := hbd.size; omega)⟩)
              have hO3' : OwnRow (Cod.kept (Cod.val d)) 61 w0.heap.size M w3 (.slice (some ⟨g3, 0, none⟩) (ys ++ [(⟨o, v⟩ : KepR)]).length cap3) (ys ++ [(⟨o, v⟩ : KepR)]) := by rw [List.length_append]; exact hO3
              have hb3w : Below w0.heap.size wr w3 := (hbw.mono hszr).trans hb3
              have hszw := hb3w.size
              have hk3 : ∀ bb, bb < w0.heap.size → w3.heap[bb]? = wr.heap[bb]? := fun bb hbb => hb3w.block bb hbb
              obtain ⟨g4, cap4, w4, happ4, hO4, hb4⟩ := push_kept hO3' (by simp; omega) HM0.out (by omega) x H64.out (HVx.out.keep (w' := w3) fun b hb => hk3 b (by have := hb.2; omega)) (G := fun b => M ≤ b ∧ b < w.heap.size) (fun b hb => ⟨hb.1, by have := hb.2; omega, fun he => by have := (hO3'.own_lt5 b he).1; have := hb.2; omega⟩)
              have hbb : b < w0.heap.size := by have := hFb.2; omega
              have d0 := (World.cell?_of_block (a := ⟨b, off + k * 5, none⟩) (hk3 b hbb)).trans hc0
              have d1 := (World.cell?_of_block (a := ⟨b, off + k * 5 + 1, none⟩) (hk3 b hbb)).trans hc1
              have d2 := (World.cell?_of_block (a := ⟨b, off + k * 5 + 2, none⟩) (hk3 b hbb)).trans hc2
              have d3 := (World.cell?_of_block (a := ⟨b, off + k * 5 + 3, none⟩) (hk3 b hbb)).trans hc3
              have d4 := (World.cell?_of_block (a := ⟨b, off + k * 5 + 4, none⟩) (hk3 b hbb)).trans hc4
              have hyl2 : (ys ++ [(⟨o, v⟩ : KepR)]).length = ys.length + 1 := by simp
              rw [hyl2] at happ4 hO4
              have HGn := Lib.hid hO4
              have HBn := Lib.hid ((HB.out.trans hb3w).trans hb4)
              clear hO4 hb4 hc0 hc1 hc2 hc3 hc4 HE3 hbd hbe HC hMV hbw hO3 hO3' hb3 hb3w hk3 v0 v1 v2 v3
              go_upto_region 9 with (at_builtin; refine wpList_append_run rfl _ _ _ rfl rfl rfl happ3 ?_)
              go_wp2_with (at_builtin; refine wpList_append_run rfl _ _ _ rfl rfl rfl happ4 ?_)
              go_roundw
              case rel => exact ⟨k + 1, g4, cap4, ys ++ [(⟨o, v⟩ : KepR)] ++ [x], true, by omega, by go_num, rfl, by rw [List.length_append, hyl2]; rfl, by rw [List.length_append, hyl2]; show ys.length + 1 + 1 ≤ k + 1 + 1; exact Nat.add_le_add_right (Nat.add_le_add_right (show ys.length ≤ k from hyl) 1) 1, by rw [List.length_append, hyl2]; exact HGn, HEn, HBn⟩
              case measure => first | (simp [intOf]; done) | (simp [intOf]; omega)
        · have HGt := Lib.hid (show gtK x o v.ty = false by unfold gtK; rw [decide_eq_false (by omega), show (x.o == o) = false by rw [beq_eq_false_iff_ne]; omega]; rfl)
          have t0 : decide (o < x.o) = false := decide_eq_false (by omega)
          have t1 : (x.o == o) = false := by rw [beq_eq_false_iff_ne]; omega
          have HEn := Lib.hid (show (ys ++ [x]) ++ (if false = true then xs.drop (k + 1) else putK o v (xs.drop (k + 1))) = putK o v xs by rw [← HE3.out]; simp [putK, HGt.out])
          go_wp2_with fail
          go_quiet (fail)
          obtain ⟨wd, hwd⟩ : ∃ wd, wd = wr.drewN nq := ⟨_, rfl⟩
          have hbd : Below wr.heap.size wr wd := by rw [hwd]; exact below_drewN (Below.refl _ _) nq
          rw [← hwd]
          clear hwd
          obtain ⟨g4, cap4, w4, happ, hO4, hb4⟩ := HPl.out wd ys g cp hbd (HG.out.below HM0.out hbd) (by omega)
          have d0 := (hbd.cell (p := ⟨b, off + k * 5, none⟩) hbl).trans hc0
          have d1 := (hbd.cell (p := ⟨b, off + k * 5 + 1, none⟩) hbl).trans hc1
          have d2 := (hbd.cell (p := ⟨b, off + k * 5 + 2, none⟩) hbl).trans hc2
          have d3 := (hbd.cell (p := ⟨b, off + k * 5 + 3, none⟩) hbl).trans hc3
          have d4 := (hbd.cell (p := ⟨b, off + k * 5 + 4, none⟩) hbl).trans hc4
          have HGn := Lib.hid hO4
          have HBn := Lib.hid ((HB.out.trans (hbd.mono hszr)).trans hb4)
          clear hO4 hb4 hc0 hc1 hc2 hc3 hc4 HE3 hbd
          go_wp2_with (at_builtin; refine wpList_append_run rfl _ _ _ rfl rfl rfl happ ?_)
          go_roundw
          case rel => first | exact ⟨k + 1, g4, cap4, ys ++ [x], false, by omega, by go_num, rfl, by rw [List.length_append]; rfl, by rw [List.length_append]; exact Nat.le_trans (Nat.add_le_add_right hyl 1) (by simp; try omega), by rw [List.length_append]; exact HGn, HEn, HBn⟩ | ((repeat apply Exists.intro); exact ⟨⟨k + 1, g4, cap4, ys ++ [x], false, by omega, by go_num, rfl, by rw [List.length_append]; rfl, by rw [List.length_append]; exact Nat.le_trans (Nat.add_le_add_right hyl 1) (by simp; try omega), by rw [List.length_append]; exact HGn, HEn, HBn⟩, rfl⟩)
          case measure => first | (simp [intOf]; done) | (simp [intOf]; omega)
    · have hle : k = xs.length := by omega
      subst hle
      have c0 : ¬ (xs.length : Int) < xs.length := by omega
      cases dB with
      | true =>
        have HEn := Lib.hid (show ys = putK o v xs by rw [← HE2.out]; simp)
        have HQ := Lib.hid (show PutKD d M (putK o v xs) w (.returned (.slice (some ⟨g, 0, none⟩) ys.length cp)) wr from ⟨g, cp, by rw [HEn.out], by rw [← HEn.out]; exact HG.out.down (by omega) (Nat.le_refl _), HE.out.trans (HB.out.mono (by omega))⟩)
        clear HEn HE2
        go_wp2
        go_ret
        exact HQ.out
      | false =>
        have HEn := Lib.hid (show ys ++ [⟨o, v⟩] = putK o v xs by rw [← HE2.out]; simp [putK])
        have HC := Lib.hid (HCp.out wr HB.out)
        clear HE2
        go_wp2_with fail
        go_at_call 82
        with_reducible refine HC.out.mono ?_
        rintro e w2 ⟨A1, cA1, B1, cB1, rfl, hMV⟩
        have hws := hMV.2.size
        obtain ⟨g3, cap3, w3, happ3, hO3, hb3⟩ := push_kept (HG.out.below HM0.out hMV.2) (by omega) HM0.out (Nat.le_trans hszr hws) (G := Fresh wr w2) (⟨o, v⟩ : KepR) HO.out hMV.1 (fun b' hb' => ⟨by have := hb'.1; have := HM0.out; omega, hb'.2, HG.out.noown hb'.1⟩)
        have HQ := Lib.hid (show PutKD d M (putK o v xs) w (.returned (.slice (some ⟨g3, 0, none⟩) (ys.length + 1) cap3)) w3 from ⟨g3, cap3, by rw [← HEn.out]; simp, by rw [← HEn.out, List.length_append]; exact hO3.down (by omega) (Nat.le_refl _), HE.out.trans (((HB.out.trans (hMV.2.mono hszr)).trans hb3).mono (by omega))⟩)
        clear hO3 hb3 hMV HC HEn
        go_wp2_with (at_builtin; refine wpList_append_run rfl _ _ _ rfl rfl rfl happ3 ?_)
        go_ret
        exact HQ.out
end Go.Proofs.Ytmomdflfjcboiaa
