/- The program's appendValue leaves alone every block that it is told of. -/
import Derived.Test.YtemlpiokdoeeeaaDoorYn
import Derived.Test.YtemlpiokdoeeeaaDoorVuc
namespace Go.Proofs.YtemlpiokdoeeeaaDoor
open Go.RowKit

theorem QRow.drew {K : Nat → Prop} {w : World} {B n : Nat} {v : Value} {xs : List Value} (h : QRow K w B v n xs) : QRow K w.drew B v n xs := h.keep ((Below.refl _ _).drew)
/-- A row of bytes that grows: what it has, and what has turned since. -/
structure Aq (K : Nat → Prop) (B : Nat) (w0 : World) (sv : Value) (n : Nat) (xs : List Value) (w : World) : Prop where
  own : QRow K w B sv n xs
  go : QGo K B w0 w
section
variable {K : Nat → Prop} {B n : Nat} {w0 w : World} {sv : Value} {xs : List Value}
theorem Aq.below (h : Aq K B w0 sv n xs w) : Below B w0 w := h.go.below
theorem Aq.start (h : QRow K w B sv n xs) : Aq K B w sv n xs w := ⟨h, QGo.refl _ _ _⟩
theorem Aq.alloc (h : Aq K B w0 sv n xs w) (hB : B ≤ w.heap.size) (o : Obj) : Aq K B w0 sv n xs (w.alloc o) := ⟨h.own.alloc o, h.go.trans (QGo.alloc h.own hB o)⟩
theorem Aq.drew (h : Aq K B w0 sv n xs w) : Aq K B w0 sv n xs w.drew := ⟨h.own.drew, h.go.trans ⟨(Below.refl _ _).drew, fun _ _ => rfl, (Lib.OthersKept.refl _ _ _).drew⟩⟩
theorem Aq.on {w1 w2 : World} {sv2 : Value} {n2 : Nat} {xs2 : List Value} (h : Aq K B w0 sv n xs w1) (k : Aq K B w1 sv2 n2 xs2 w2) : Aq K B w0 sv2 n2 xs2 w2 := ⟨k.own, h.go.trans k.go⟩
/-- A block of another type stays. -/
theorem Aq.blk {g : Nat} {t : TypeId} {cs : Array Value} (h : Aq K B w0 sv n xs w) (hb : Blk w0 g t cs) (ht : t ≠ 5) : Blk w g t cs :=
  h.go.kept g _ hb (by simp) fun c fz he => by
    simp only [Obj.cells.injEq] at he
    exact ht he.2.1
/-- append(v, s...) -/
theorem Aq.str (h : Aq K B w0 sv n xs w) (hB : B ≤ w.heap.size) (s : ByteArray) (hn : n + s.size ≤ 200000000) :
    ∃ v' w', (Builtin.append_ #[54, 9] 54 #[sv, .string s]).run Tryd.prog w = .ok v' w' ∧ Aq K B w0 v' (n + s.size) (xs ++ strC s) w' ∧ w.heap.size ≤ w'.heap.size := by
  obtain ⟨v', w', hr, hq, hg⟩ := h.own.str hB s (by omega)
  exact ⟨v', w', hr, ⟨hq, h.go.trans hg⟩, hg.below.size⟩
/-- append(v, c), c laid in a block of its own. -/
theorem Aq.byte (h : Aq K B w0 sv n xs w) (hB : B ≤ w.heap.size) (c : UInt8) (hn : n ≤ 200000000) (b cp : Nat) (hb : Blk w b 5 #[.int .u8 (c.toNat : Int)]) :
    ∃ v' w', (Builtin.append_ #[54, 54] 54 #[sv, .slice (some ⟨b, 0, none⟩) 1 cp]).run Tryd.prog w = .ok v' w' ∧ Aq K B w0 v' (n + 1) (xs ++ strC ⟨#[c]⟩) w' ∧ w.heap.size ≤ w'.heap.size := by
  obtain ⟨v', w', hr, hq, hg⟩ := h.own.byte hB c hn b cp hb
  exact ⟨v', w', hr, ⟨hq, h.go.trans hg⟩, hg.below.size⟩
end

/-- What appendValue hands back. -/
def ApQ (K : Nat → Prop) (B : Nat) (w0 : World) (n : Nat) (xs : List Value) (s : ByteArray) (e : Ending) (w' : World) : Prop := ∃ v', e = .returned v' ∧ Aq K B w0 v' (n + s.size) (xs ++ strC s) w'

def ApCq (ks : Ks) (c : Cod Val) (f : Val → ByteArray) (g : Val → Bool) : Prop := ∀ (K F : Nat → Prop) (Bs : Nat) (A B : Option Addr) (na m cA cB : Nat) (v : Val) (sv : Value) (n : Nat) (xs : List Value) (w : World), VRd c F w (.slice A na cA) (.slice B m cB) v → (∀ b, F b → b < Bs) → Bs ≤ w.heap.size →
    QRow K w Bs sv n xs → okOf ks g v = true → n + (textOf f v).size ≤ 100000000 → Lib.TabBelow Tryd.prog Bs w tabN .u64 Lib.pow10Tab →
    Calls Tryd.prog 22 #[sv, .agg #[.string v.ty, .int .i64 v.n, .slice A na cA, .slice B m cB]] w (ApQ K Bs w n xs (textOf f v))

theorem aq_int {K : Nat → Prop} {Bs n : Nat} {w0 w w' : World} {sv v' : Value} {xs : List Value} {i : Int} {nn : Nat} (hi : i = nn) (h : Aq K Bs w0 sv n xs w) (hq : QRow K w' Bs v' (n + (Lib.itoa i).length) (xs ++ Lib.byteCells (Lib.itoa i))) (hg : QGo K Bs w w') :
    Aq K Bs w0 v' (n + (decBy i.toNat).size) (xs ++ strC (decBy i.toNat)) w' := by
  subst hi
  obtain ⟨e1, e2⟩ := strC_dec nn
  rw [e1, e2] at hq
  exact ⟨hq, h.go.trans hg⟩

set_option maxRecDepth 100000 in
set_option maxHeartbeats 4000000 in
theorem appendValueQ_of {ks : Ks} {c e : Cod Val} {f f' : Val → ByteArray} {g g' : Val → Bool} (hc : IsVal c e) (IH : HasEl c → ApCq ks e f' g' ∧ f = textOf f' ∧ g = okOf ks g') : ApCq ks c f g := by
  intro K F Bs A B na m cA cB v sv n xs w h hF hBs hown hok hm htab
  have HV := Lib.hid h
  have IHH := Lib.hid (fun hp : 0 < v.parts.length => IH ⟨F, w, _, v.parts, h.parts, hp⟩)
  obtain ⟨A', cA', hA, hA1, hA2, hjA⟩ := h.parts
  obtain ⟨B', cB', hB, hB1, hB2, hjB⟩ := h.path
  clear hjA hjB
  simp only [Value.slice.injEq] at hA hB
  obtain ⟨rfl, rfl, rfl⟩ := hA
  obtain ⟨rfl, rfl, rfl⟩ := hB
  unfold maxLen at hA2 hB2
  have HB := Lib.hid (Blk.new w 47 #[.string v.ty, .int .i64 v.n, .slice A v.parts.length cA, .slice B v.path.length cB])
  have HAp := Lib.hid ((Aq.start hown).alloc hBs (.cells #[.string v.ty, .int .i64 v.n, .slice A v.parts.length cA, .slice B v.path.length cB] 47))
  have HA0 := Lib.hid (Aq.start (hown.alloc (.cells #[.string v.ty, .int .i64 v.n, .slice A v.parts.length cA, .slice B v.path.length cB] 47)))
  have HTab := Lib.hid htab
  have hsw : Bs ≤ (w.alloc (.cells #[.string v.ty, .int .i64 v.n, .slice A v.parts.length cA, .slice B v.path.length cB] 47)).heap.size := by simp; omega
  have Hsw := Lib.hid hsw
  clear h IH hown htab hsw
  cases c1 : (v.ty.toList == [110])
  · cases c2 : (v.ty.toList == [98])
    · cases c3 : (v.ty.toList == [111])
      · obtain ⟨hty3, hall⟩ : v.ty.size = 3 ∧ ∀ x ∈ v.parts, g x = true := by
          obtain ⟨_, _, _, _, _, _, _, a, _, b⟩ := okOf_parts hok c1 c2 c3
          exact ⟨a, b⟩
        have hR : textOf f v = joinT f true v.parts (v.ty ++ ⟨#[40]⟩) ++ ⟨#[41]⟩ := by unfold textOf; rw [c1, c2, c3]; rfl
        rw [hR, ByteArray.size_append] at hm
        have HR := Lib.hid hR
        have e1 : (⟨#[41]⟩ : ByteArray).size = 1 := rfl
        obtain ⟨T, hT⟩ : ∃ T, T = joinT f true v.parts (v.ty ++ ⟨#[40]⟩) := ⟨_, rfl⟩
        have HTT := Lib.hid hT
        rw [← hT] at hm
        have hge := joinT_ge f v.parts true (v.ty ++ ⟨#[40]⟩)
        rw [← hT] at hge
        have hm2 : n + T.size ≤ 100000000 := by omega
        have HQ : Hid (joinT f true (v.parts.drop 0) (v.ty ++ ⟨#[40]⟩) = T) := by show _ = _; rw [hT]; rfl
        have Hall := Lib.hid hall
        have htb := HA0.out
        obtain ⟨v1, w1, happ1, hA1', hs1⟩ := HA0.out.str Hsw.out v.ty (by omega)
        have hA1l := hA1'.alloc (Nat.le_trans Hsw.out hs1) (.cells #[.int .u8 40] 5)
        obtain ⟨v2, w2, happ2, hA2', hs2⟩ := hA1l.byte (Nat.le_trans (Nat.le_trans Hsw.out hs1) (by simp)) 40 (by omega) w1.heap.size 1 (Blk.new w1 5 #[.int .u8 40])
        have hB1' := hA1'.blk HB.out (by decide)
        have hB2' := hA2'.blk HB.out (by decide)
        obtain ⟨x0, x1, x2, x3⟩ := hB2'.c2
        have HB2 := Lib.hid hB2'
        have HA2 := Lib.hid (show Aq K Bs w v2 (n + (v.ty ++ ⟨#[40]⟩ : ByteArray).size) (xs ++ strC (v.ty ++ ⟨#[40]⟩)) w2 by
          rw [ByteArray.size_append, strC_append, ← List.append_assoc, ← Nat.add_assoc]; exact HAp.out.on hA2')
        clear hR hm hok hT hall hty3 hge hB1' hB2' hA1' hs1 hA1l hA2' hs2 htb e1
        go_enter Tryd.func22, Tryd.ntmps22
        go_wp2_with (first | (at_builtin; refine wpList_append_run2 rfl _ _ _ _ rfl rfl rfl happ1 ?_) | (at_builtin; refine wpList_append_run rfl _ _ _ rfl rfl rfl happ2 ?_))
        clear happ1 happ2 x0 x1 x2 x3
        go_loopw [0, 40] (fun s i wr => ∃ (j : Nat) (acc : ByteArray), j ≤ v.parts.length ∧ i = .int .i64 j ∧ Hid (joinT f (decide (j = 0)) (v.parts.drop j) acc = T) ∧ Hid (Aq K Bs w s (n + acc.size) (xs ++ strC acc) wr) ∧ Hid (Blk wr w.heap.size 47 #[.string v.ty, .int .i64 v.n, .slice A v.parts.length cA, .slice B v.path.length cB])) (fun _ i _ => v.parts.length - (intOf i).toNat)
        case atStart => exact ⟨0, _, Nat.zero_le _, rfl, HQ, HA2, HB2⟩
        case round =>
          obtain ⟨j, acc, hj, rfl, HH1, HAr, HBr⟩ := hrel
          have hbe := HAr.out.below
          have hBr : Bs ≤ wr.heap.size := Nat.le_trans hBs hbe.size
          obtain ⟨x0, x1, x2, x3⟩ := HBr.out.c2
          by_cases hlt : j < v.parts.length
          · obtain ⟨bp2, of2, cp2, A2, cA2, B2, cB2, hv, hFp, _, _, hp0, hp1, hp2, hp3, hV⟩ := (HV.out.parts.keep (below_keeps hbe hF)).val_at hc hlt
            obtain ⟨rfl, rfl⟩ : A = some ⟨bp2, of2, none⟩ ∧ cA = cp2 := by simpa using hv
            have hrm := joinT_room hlt HH1.out
            have hst := joinT_step hlt HH1.out
            obtain ⟨ih1, ih2, ih3⟩ := IHH.out (by omega)
            have hfx := congrFun ih2 v.parts[j]
            have hgx := congrFun ih3 v.parts[j]
            have hgo := Hall.out v.parts[j] (List.getElem_mem hlt)
            rw [hfx] at hrm hst
            rw [hgx] at hgo
            have HGo := Lib.hid hgo
            have Hst := Lib.hid hst
            have IH1 := Lib.hid ih1
            have HVp := Lib.hid hV
            have hj0 : j = 0 ∨ j ≠ 0 := by omega
            clear hv hV hFp hst hfx hgx hgo ih1 ih2 ih3
            rcases hj0 with hj0 | hj0
            · rw [if_pos hj0] at Hst hrm
              have hfs : n + acc.size + (textOf f' v.parts[j]).size ≤ 100000000 := by omega
              have i0 : (0 : Int) ≤ j := by omega
              have i1 : (j : Int) < v.parts.length := by omega
              have i2 : ¬ (0 : Int) < (j : Int) := by omega
              have b1 : decide (0 < j) = false := decide_eq_false (by omega)
              have HC := Lib.hid (IH1.out K F Bs A2 B2 _ _ cA2 cB2 v.parts[j] u0 (n + acc.size) (xs ++ strC acc) (wr.alloc (.cells #[.string v.parts[j].ty, .int .i64 v.parts[j].n, .slice A2 v.parts[j].parts.length cA2, .slice B2 v.parts[j].path.length cB2] 47))
                (HVp.out.keep (below_keeps ((Below.refl Bs wr).alloc hBr _) hF)) hF (by simp; omega) (HAr.out.own.alloc _) HGo.out hfs (HTab.out.on (hbe.alloc hBr _)))
              have HBp := Lib.hid (HBr.out.alloc (.cells #[.string v.parts[j].ty, .int .i64 v.parts[j].n, .slice A2 v.parts[j].parts.length cA2, .slice B2 v.parts[j].path.length cB2] 47))
              have HA := Lib.hid (HAr.out.alloc hBr (.cells #[.string v.parts[j].ty, .int .i64 v.parts[j].n, .slice A2 v.parts[j].parts.length cA2, .slice B2 v.parts[j].path.length cB2] 47))
              clear hj0 hrm hfs hbe hBr
              go_wp2_with fail
              refine HC.out.mono ?_
              rintro e' w2 ⟨v3, rfl, hA3⟩
              have HBn := Lib.hid (show Aq K Bs w v3 (n + (acc ++ textOf f' v.parts[j]).size) (xs ++ strC (acc ++ textOf f' v.parts[j])) w2 by
                rw [ByteArray.size_append, strC_append, ← List.append_assoc, ← Nat.add_assoc]; exact HA.out.on hA3)
              have HBe := Lib.hid (hA3.blk HBp.out (by decide))
              clear hA3
              go_wp2
              go_roundw
              case rel => exact ⟨j + 1, _, by omega, by go_num, Hst, HBn, HBe⟩
              case measure => simp [intOf]; omega
            · rw [if_neg hj0] at Hst hrm
              have hfs : n + (acc ++ ⟨#[32]⟩ : ByteArray).size + (textOf f' v.parts[j]).size ≤ 100000000 := by rw [ByteArray.size_append]; show n + (_ + 1) + _ ≤ _; omega
              have has : n + acc.size ≤ 100000000 := by omega
              have i0 : (0 : Int) ≤ j := by omega
              have i1 : (j : Int) < v.parts.length := by omega
              have i2 : (0 : Int) < (j : Int) := by omega
              have b1 : decide (0 < j) = true := decide_eq_true (by omega)
              obtain ⟨wp, hwp⟩ : ∃ wp, wp = (wr.alloc (.cells #[.string v.parts[j].ty, .int .i64 v.parts[j].n, .slice A2 v.parts[j].parts.length cA2, .slice B2 v.parts[j].path.length cB2] 47)) := ⟨_, rfl⟩
              have hps : wp.heap.size = wr.heap.size + 1 := by rw [hwp]; simp
              have hPb : Blk wp wr.heap.size 47 #[.string v.parts[j].ty, .int .i64 v.parts[j].n, .slice A2 v.parts[j].parts.length cA2, .slice B2 v.parts[j].path.length cB2] := by rw [hwp]; exact Blk.new wr 47 _
              have hA1 : Aq K Bs w u0 (n + acc.size) (xs ++ strC acc) wp := by rw [hwp]; exact HAr.out.alloc hBr _
              have hBp : Bs ≤ wp.heap.size := by omega
              have hA2 := hA1.alloc hBp (.cells #[.int .u8 32] 5)
              obtain ⟨v3, w3, happ3, hA3, hs3⟩ := (Aq.start hA2.own).byte (by simp; omega) 32 (by omega) wp.heap.size 1 (Blk.new wp 5 #[.int .u8 32])
              obtain ⟨y0, y1, y2, y3⟩ := (hA3.blk (hPb.alloc _) (by decide)).c2
              have hA4 := hA2.on hA3
              have HBp := Lib.hid (hA3.blk ((show Blk wp w.heap.size 47 #[.string v.ty, .int .i64 v.n, .slice (some ⟨bp2, of2, none⟩) v.parts.length cA, .slice B v.path.length cB] by rw [hwp]; exact HBr.out.alloc _).alloc _) (by decide))
              have HC := Lib.hid (IH1.out K F Bs A2 B2 _ _ cA2 cB2 v.parts[j] v3 (n + (acc ++ ⟨#[32]⟩ : ByteArray).size) (xs ++ strC (acc ++ ⟨#[32]⟩)) w3
                (HVp.out.keep (below_keeps ((((Below.refl Bs wr).alloc hBr _).trans ((Below.refl Bs _).alloc (by rw [← hwp]; exact hBp) _)).trans (by rw [← hwp]; exact hA3.below)) hF)) hF (by simp at hs3; omega)
                (by rw [ByteArray.size_append, strC_append, ← List.append_assoc, ← Nat.add_assoc]; exact hA4.own) HGo.out hfs (HTab.out.on hA4.below))
              have HA := Lib.hid (show Aq K Bs w v3 (n + (acc ++ ⟨#[32]⟩ : ByteArray).size) (xs ++ strC (acc ++ ⟨#[32]⟩)) w3 by
                rw [ByteArray.size_append, strC_append, ← List.append_assoc, ← Nat.add_assoc]; exact hA4)
              rw [hps] at happ3
              rw [hwp] at happ3
              clear hj0 hrm hfs hbe hBr has hA1 hA2 hA3 hA4 hs3 hPb hBp hps hwp wp
              go_wp2_with (at_builtin; refine wpList_append_run rfl _ _ _ rfl rfl rfl happ3 ?_)
              refine HC.out.mono ?_
              rintro e' w2 ⟨v4, rfl, hA4⟩
              have HBn := Lib.hid (show Aq K Bs w v4 (n + ((acc ++ ⟨#[32]⟩) ++ textOf f' v.parts[j]).size) (xs ++ strC ((acc ++ ⟨#[32]⟩) ++ textOf f' v.parts[j])) w2 by
                rw [ByteArray.size_append (a := acc ++ ⟨#[32]⟩), strC_append (acc ++ ⟨#[32]⟩), ← List.append_assoc, ← Nat.add_assoc]; exact HA.out.on hA4)
              have HBe := Lib.hid (hA4.blk HBp.out (by decide))
              clear hA4
              go_wp2
              go_roundw
              case rel => exact ⟨j + 1, _, by omega, by go_num, Hst, HBn, HBe⟩
              case measure => simp [intOf]; omega
          · have hE := joinT_end (by omega) HH1.out
            have hAl := HAr.out.alloc hBr (.cells #[.int .u8 41] 5)
            have has : n + acc.size ≤ 100000000 := by rw [hE]; omega
            obtain ⟨v4, w4, happ, hA4, hs4⟩ := (Aq.start hAl.own).byte (by simp; omega) 41 (by omega) wr.heap.size 1 (Blk.new wr 5 #[.int .u8 41])
            have HA4 := Lib.hid (show Aq K Bs w v4 (n + (acc ++ ⟨#[41]⟩ : ByteArray).size) (xs ++ strC (acc ++ ⟨#[41]⟩)) w4 by
              rw [ByteArray.size_append, strC_append, ← List.append_assoc, ← Nat.add_assoc]; exact hAl.on hA4)
            have HE := Lib.hid hE
            clear hAl hA4 hs4 hbe hBr has hE
            go_wp2_with (at_builtin; refine wpList_append_run rfl _ _ _ rfl rfl rfl happ ?_)
            go_ret
            exact ⟨v4, rfl, by rw [HR.out, ← HTT.out, ← HE.out]; exact HA4.out⟩
      · obtain ⟨n0, n1⟩ := okOf_own hok c1 c2 c3
        have hR : textOf f v = ⟨#[64]⟩ ++ decBy v.n.toNat := by unfold textOf; rw [c1, c2, c3]; rfl
        rw [hR, ByteArray.size_append] at hm
        have HR := Lib.hid hR
        have e1 : (⟨#[64]⟩ : ByteArray).size = 1 := rfl
        obtain ⟨nn, hnn⟩ : ∃ nn : Nat, v.n = nn := ⟨v.n.toNat, by omega⟩
        have Hnn := Lib.hid hnn
        have hAl := (HA0.out.alloc Hsw.out (.cells #[.int .u8 64] 5)).drew
        have hbl : Blk (((w.alloc (.cells #[.string v.ty, .int .i64 v.n, .slice A v.parts.length cA, .slice B v.path.length cB] 47)).alloc (.cells #[.int .u8 64] 5)).drew) (w.heap.size + 1) 5 #[.int .u8 64] := by
          have := Blk.new (w.alloc (.cells #[.string v.ty, .int .i64 v.n, .slice A v.parts.length cA, .slice B v.path.length cB] 47)) 5 #[.int .u8 64]
          rw [World.size_alloc] at this
          exact this
        obtain ⟨v4, w4, happ, hA4, hs4⟩ := hAl.byte (by simp; omega) 64 (by omega) (w.heap.size + 1) 1 hbl
        obtain ⟨x0, x1, x2, x3⟩ := (hA4.blk HB.out (by decide)).c2
        have hB4 : Bs ≤ w4.heap.size := Nat.le_trans Hsw.out hA4.below.size
        have HC := Lib.hid (appendIntQ_any hA4.own hB4 v.n (by unfold I64; omega) (by omega) (HTab.out.on (HAp.out.below.trans hA4.below)))
        have HA4 := Lib.hid (HAp.out.on hA4)
        clear hok hm hnn hR hAl hbl hA4 hs4 e1 hB4
        go_enter Tryd.func22, Tryd.ntmps22
        go_wp2
        go_region_law (first | (refine step_append_run rfl _ _ _ rfl rfl rfl happ ?_) | (go_simp; go_at_call 21; (with_reducible refine HC.out.mono ?_); rintro e w1 ⟨v1, rfl, ho, hb⟩; go_must (have HQ := Lib.hid (aq_int Hnn.out HA4.out ho hb); clear ho hb)))
        all_goals
          go_wp2
          go_ret
          refine ⟨v1, rfl, ?_⟩
          rw [HR.out, ByteArray.size_append, strC_append, ← List.append_assoc, ← Nat.add_assoc]
          exact HQ.out
    · obtain ⟨n0, n1⟩ := okOf_tru hok c1 c2
      have hR : textOf f v = if v.n = 0 then ⟨#[45]⟩ else ⟨#[43]⟩ := by unfold textOf; rw [c1, c2]; rfl
      by_cases hn0 : v.n = 0
      · rw [if_pos hn0] at hR
        rw [hR] at hm
        have HR := Lib.hid hR
        have e1 : (⟨#[45]⟩ : ByteArray).size = 1 := rfl
        have hAl := HA0.out.alloc Hsw.out (.cells #[.int .u8 45] 5)
        have hbl : Blk ((w.alloc (.cells #[.string v.ty, .int .i64 v.n, .slice A v.parts.length cA, .slice B v.path.length cB] 47)).alloc (.cells #[.int .u8 45] 5)) (w.heap.size + 1) 5 #[.int .u8 45] := by
          have := Blk.new (w.alloc (.cells #[.string v.ty, .int .i64 v.n, .slice A v.parts.length cA, .slice B v.path.length cB] 47)) 5 #[.int .u8 45]
          rw [World.size_alloc] at this
          exact this
        obtain ⟨v4, w4, happ, hA4, hs4⟩ := hAl.byte (by simp; omega) 45 (by omega) (w.heap.size + 1) 1 hbl
        have HA4 := Lib.hid (HAp.out.on hA4)
        rw [hn0] at happ
        clear hok hm hR hAl hbl hA4 hs4 e1 n0 n1
        go_enter Tryd.func22, Tryd.ntmps22
        go_wp2_with (at_builtin; refine wpList_append_run rfl _ _ _ rfl rfl rfl happ ?_)
        go_ret
        exact ⟨v4, rfl, by rw [HR.out]; exact HA4.out⟩
      · have hn1 : v.n = 1 := by omega
        rw [if_neg hn0] at hR
        rw [hR] at hm
        have HR := Lib.hid hR
        have e1 : (⟨#[43]⟩ : ByteArray).size = 1 := rfl
        have hAl := HA0.out.alloc Hsw.out (.cells #[.int .u8 43] 5)
        have hbl : Blk ((w.alloc (.cells #[.string v.ty, .int .i64 v.n, .slice A v.parts.length cA, .slice B v.path.length cB] 47)).alloc (.cells #[.int .u8 43] 5)) (w.heap.size + 1) 5 #[.int .u8 43] := by
          have := Blk.new (w.alloc (.cells #[.string v.ty, .int .i64 v.n, .slice A v.parts.length cA, .slice B v.path.length cB] 47)) 5 #[.int .u8 43]
          rw [World.size_alloc] at this
          exact this
        obtain ⟨v4, w4, happ, hA4, hs4⟩ := hAl.byte (by simp; omega) 43 (by omega) (w.heap.size + 1) 1 hbl
        have HA4 := Lib.hid (HAp.out.on hA4)
        rw [hn1] at happ
        clear hok hm hR hAl hbl hA4 hs4 e1 n0 n1 hn0
        go_enter Tryd.func22, Tryd.ntmps22
        go_wp2_with (at_builtin; refine wpList_append_run rfl _ _ _ rfl rfl rfl happ ?_)
        go_ret
        exact ⟨v4, rfl, by rw [HR.out]; exact HA4.out⟩
  · obtain ⟨n0, n1⟩ := okOf_num hok c1
    have hR : textOf f v = decBy v.n.toNat := by unfold textOf; rw [c1]; rfl
    rw [hR] at hm
    have HR := Lib.hid hR
    obtain ⟨nn, hnn⟩ : ∃ nn : Nat, v.n = nn := ⟨v.n.toNat, by omega⟩
    have Hnn := Lib.hid hnn
    have HC := Lib.hid (appendIntQ_any HAp.out.own Hsw.out v.n (by unfold I64; omega) (by omega) (HTab.out.on HAp.out.below))
    clear hok hm hnn hR
    go_enter Tryd.func22, Tryd.ntmps22
    go_wp2_with fail
    refine HC.out.mono ?_
    rintro e w1 ⟨v1, rfl, ho, hb⟩
    have HQ := Lib.hid (aq_int Hnn.out HAp.out ho hb)
    clear ho hb
    go_wp2
    go_ret
    exact ⟨v1, rfl, by rw [HR.out]; exact HQ.out⟩

theorem appendValueQ_any (ks : Ks) : ∀ d, ApCq ks (Cod.val d) (textV d) (okV ks d)
  | 0 => appendValueQ_of (e := Cod.no) (f' := fun _ => ByteArray.empty) (g' := fun _ => false) (IsVal.zero _) fun h => absurd h no_el
  | d + 1 => appendValueQ_of (IsVal.of _) fun _ => ⟨appendValueQ_any ks d, rfl, rfl⟩
end Go.Proofs.YtemlpiokdoeeeaaDoor
