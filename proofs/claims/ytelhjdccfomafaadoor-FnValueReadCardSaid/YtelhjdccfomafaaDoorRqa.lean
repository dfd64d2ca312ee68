/- Rows of values that are being filled, a value at a time. No walk. The program's reader of values: a record, the values of its fields given. -/
import Derived.Test.YtelhjdccfomafaaDoorRn
import Derived.Test.YtelhjdccfomafaaDoorRl
import Derived.Test.YtelhjdccfomafaaDoorMk
namespace Go.Proofs.YtelhjdccfomafaaDoor
open Go.RowKit

theorem OPart.list {α : Type} {c : OCod α} {b k : Nat} {w : World} {cs : Array Value} {xs ys : List α} (h : OPart c b w cs k xs) (he : ∀ i, i < k → ys[i]? = xs[i]?) : OPart c b w cs k ys := by
  obtain ⟨s, h1, h2, h3, h4⟩ := h
  exact ⟨s, h1, h2, h3, fun i x hi hx => h4 i x hi (by rw [← he i hi]; exact hx)⟩
theorem OPart.keep {α : Type} {c : OCod α} {b k : Nat} {w w' : World} {cs : Array Value} {xs : List α} (h : OPart c b w cs k xs) (hw : ∀ i, b < i → i < w.heap.size → w'.heap[i]? = w.heap[i]?) (hs : w.heap.size ≤ w'.heap.size) : OPart c b w' cs k xs := by
  obtain ⟨s, h1, h2, h3, h4⟩ := h
  refine ⟨s, h1, h2, Nat.le_trans h3 hs, fun i x hi hx => ?_⟩
  obtain ⟨ds, g1, g2⟩ := h4 i x hi hx
  exact ⟨ds, g1, c.keep (fun b' k1 k2 => hw b' (by have := h1 0 i (Nat.zero_le _) (by omega); omega) (by have := h1 (i + 1) k (by omega) (Nat.le_refl _); omega)) g2⟩
theorem Wrote.new_ {lo hi b o : Nat} {w w1 : World} (h : Wrote lo hi w w1) (hb : w.heap.size ≤ b) (u : Value) : Wrote lo hi w (w1.setCell ⟨b, o, none⟩ u) :=
  ⟨h.os, h.tape, h.output, by simpa [World.setCell] using h.size, fun i hi hn => (Below.heap_setCell _ _ _ _ (by simp; omega)).trans (h.block i hi hn)⟩
abbrev set4at (w : World) (b o : Nat) (a0 a1 a2 a3 : Value) : World := (((w.setCell ⟨b, o, none⟩ a0).setCell ⟨b, o + 1, none⟩ a1).setCell ⟨b, o + 2, none⟩ a2).setCell ⟨b, o + 3, none⟩ a3
abbrev put4 (cs : Array Value) (o : Nat) (a0 a1 a2 a3 : Value) : Array Value := (((cs.setIfInBounds o a0).setIfInBounds (o + 1) a1).setIfInBounds (o + 2) a2).setIfInBounds (o + 3) a3
theorem set4at_far {w : World} {b o : Nat} {a0 a1 a2 a3 : Value} {b' : Nat} (h : b' ≠ b) : (set4at w b o a0 a1 a2 a3).heap[b']? = w.heap[b']? := by
  rw [Below.heap_setCell _ _ _ _ (by simpa using h), Below.heap_setCell _ _ _ _ (by simpa using h), Below.heap_setCell _ _ _ _ (by simpa using h), Below.heap_setCell _ _ _ _ (by simpa using h)]
theorem set4at_size {w : World} {b o : Nat} {a0 a1 a2 a3 : Value} : (set4at w b o a0 a1 a2 a3).heap.size = w.heap.size := by simp [World.setCell]
theorem set4at_blk {w : World} {b o : Nat} {a0 a1 a2 a3 : Value} {t : TypeId} {cs : Array Value} (h : Blk w b t cs) : Blk (set4at w b o a0 a1 a2 a3) b t (put4 cs o a0 a1 a2 a3) := (((h.set_ _ _).set_ _ _).set_ _ _).set_ _ _
theorem set4at_wrote {lo hi b o : Nat} {w w1 : World} (h : Wrote lo hi w w1) (hb : w.heap.size ≤ b) {a0 a1 a2 a3 : Value} : Wrote lo hi w (set4at w1 b o a0 a1 a2 a3) := (((h.new_ hb _).new_ hb _).new_ hb _).new_ hb _
theorem put4_size {cs : Array Value} {o : Nat} {a0 a1 a2 a3 : Value} : (put4 cs o a0 a1 a2 a3).size = cs.size := by simp
theorem put4_old {cs : Array Value} {o i : Nat} {a0 a1 a2 a3 : Value} (h : i < o) : (put4 cs o a0 a1 a2 a3)[i]? = cs[i]? := by
  rw [Array.getElem?_setIfInBounds_ne (by omega), Array.getElem?_setIfInBounds_ne (by omega), Array.getElem?_setIfInBounds_ne (by omega), Array.getElem?_setIfInBounds_ne (by omega)]
theorem put4_new {cs : Array Value} {o : Nat} {a0 a1 a2 a3 : Value} (h : o + 3 < cs.size) (j : Nat) (u : Value) (hu : [a0, a1, a2, a3][j]? = some u) : (put4 cs o a0 a1 a2 a3)[o + j]? = some u := by
  match j, hu with
  | 0, hu => simp at hu; subst hu; rw [Nat.add_zero, Array.getElem?_setIfInBounds_ne (by omega), Array.getElem?_setIfInBounds_ne (by omega), Array.getElem?_setIfInBounds_ne (by omega), Array.getElem?_setIfInBounds_self_of_lt (by omega)]
  | 1, hu => simp at hu; subst hu; rw [Array.getElem?_setIfInBounds_ne (by omega), Array.getElem?_setIfInBounds_ne (by omega), Array.getElem?_setIfInBounds_self_of_lt (by simp; omega)]
  | 2, hu => simp at hu; subst hu; rw [Array.getElem?_setIfInBounds_ne (by omega), Array.getElem?_setIfInBounds_self_of_lt (by simp; omega)]
  | 3, hu => simp at hu; subst hu; rw [Array.getElem?_setIfInBounds_self_of_lt (by simp; omega)]
  | j + 4, hu => simp at hu

theorem OCod.val_four (d : Nat) : (OCod.val 27 3 d).cod.size = 4 := by rw [OCod.val_cod]; cases d <;> rfl

/-- A value put behind those that are in a row. -/
theorem opart_put {d bP j n : Nat} {wr w6 : World} {cs : Array Value} {done : List Val} {v : Val} {A B : Option Addr} {cA cB : Nat} (h : OPart (OCod.val 27 3 (d + 1)) bP wr cs j done) (hl : done.length = j) (hcs : cs.size = n * 4) (hj : j < n) (hb : bP < wr.heap.size)
    (hk : ∀ b', bP < b' → b' < wr.heap.size → w6.heap[b']? = wr.heap[b']?) (hs : wr.heap.size ≤ w6.heap.size) (hv : OV (OCod.val 27 3 d) 27 3 wr.heap.size w6.heap.size w6 (.slice A v.parts.length cA) (.slice B v.path.length cB) v) :
    OPart (OCod.val 27 3 (d + 1)) bP (set4at w6 bP (j * 4) (.string v.ty) (.int .i64 v.n) (.slice A v.parts.length cA) (.slice B v.path.length cB)) (put4 cs (j * 4) (.string v.ty) (.int .i64 v.n) (.slice A v.parts.length cA) (.slice B v.path.length cB)) (j + 1) (done ++ [v]) := by
  have hop : OPart (OCod.val 27 3 (d + 1)) bP wr cs j (done ++ [v]) := h.list fun i' hi' => by rw [List.getElem?_append_left (by omega)]
  refine hop.next (news := [.string v.ty, .int .i64 v.n, .slice A v.parts.length cA, .slice B v.path.length cB]) (by simp; omega) (fun i' h1 h2 => (set4at_far (w := w6) (b := bP) (o := j * 4) (by omega)).trans (hk i' h1 h2)) (by rw [set4at_size]; exact hs)
    (fun i' hi' => by rw [OCod.val_four] at hi'; exact put4_old hi') (fun j' u hu => by rw [OCod.val_four]; exact put4_new (by omega) j' u hu) ?_
  have hg : (done ++ [v])[j]'(by simp; omega) = v := by
    rw [List.getElem_append_right (by omega)]
    simp
  rw [hg]
  exact ⟨_, _, rfl, (hv.keep fun b' g1 g2 => set4at_far (w := w6) (b := bP) (o := j * 4) (by omega)).mono (Nat.le_refl _) (by rw [set4at_size]; exact Nat.le_refl _)⟩

/-- A value of each field can be read, from wherever. -/
def FieldsC (ks : Ks) (F : Nat → Prop) (d rb tb : Nat) (s : ByteArray) (fields : List ByteArray) : Prop :=
  ∀ f ∈ fields, ∀ (i : Nat) (w : World), Table F ks tb w → (∀ b, F b → b < w.heap.size ∧ b ≠ rb) → RdB rb tb s i w → i ≤ s.size →
    Calls Tryd.prog 27 #[.pointer (some ⟨rb, 0, none⟩), .string f] w (ReadD ks d rb tb s i f w)
end Go.Proofs.YtelhjdccfomafaaDoor

namespace Go.Proofs.YtelhjdccfomafaaDoor
open Go.RowKit

set_option maxRecDepth 100000 in
set_option maxHeartbeats 8000000 in
theorem record_of {ks : Ks} {F : Nat → Prop} (d rb tb i : Nat) (s t : ByteArray) (w : World) (hT : Table F ks tb w) (hF : ∀ b, F b → b < w.heap.size ∧ b ≠ rb) (htb : tb ≠ rb) (h : RdB rb tb s i w) (hi : i ≤ s.size) (hs : s.size ≤ 2000000)
    (c1 : (t.toList == [110]) = false) (c2 : (t.toList == [98]) = false) (c3 : (t.toList == [111]) = false)
    (IH : ∀ m k, kindOf t = some (m, k) → hasB ks m k = true → (recAt ks m k).fields.length ≤ 100 ∧ ∃ d', d = d' + 1 ∧ FieldsC ks F d' rb tb s (recAt ks m k).fields) :
    Calls Tryd.prog 48 #[.pointer (some ⟨rb, 0, none⟩), .string t] w (ReadD ks d rb tb s i t w) := by
  have hr := h.lt
  have htl := hT.lt
  have HR0 := Lib.hid (h.alloc (.cells #[.string ⟨#[]⟩, .int .i64 0, .slice none 0 0, .slice none 0 0] 27))
  have HB0 := Lib.hid (Blk.new w 27 #[.string ⟨#[]⟩, .int .i64 0, .slice none 0 0, .slice none 0 0])
  have HW0 := Lib.hid (show Wrote rb (rb + 1) w (w.alloc (.cells #[.string ⟨#[]⟩, .int .i64 0, .slice none 0 0, .slice none 0 0] 27)) from Wrote.of_below ((Below.refl _ _).alloc (Nat.le_refl _) _))
  have hT1 : Table F ks tb (w.alloc (.cells #[.string ⟨#[]⟩, .int .i64 0, .slice none 0 0, .slice none 0 0] 27)) := hT.keep (fun b hb => Below.heap_alloc _ _ _ (hF b hb).1) (Below.heap_alloc _ _ _ htl)
  obtain ⟨r0, r1, r2⟩ := HR0.out.c
  rcases hT1.find Tryd.underlying45 Tryd.underlying9 _ (zero_rec _) t with ⟨n1, n2⟩ | ⟨m, k, Af, cf, hk, hh, hS, hI, n2⟩
  · have hno : ¬ Cand ks d t (tl s i) := by
      rintro ⟨v, r, hv, ht, _, _⟩
      have hv' : okOf ks (okV ks d) v = true := hv
      obtain ⟨m, k, hk, hh, _⟩ := okOf_parts hv' (by rw [ht]; exact c1) (by rw [ht]; exact c2) (by rw [ht]; exact c3)
      rw [ht] at hk
      rw [n1 m k hk] at hh
      cases hh
    have HNo := Lib.hid hno
    have HBX := Lib.hid (HB0.out.alloc (.cells #[.int .i64 0, .slice none 0 0] 69))
    have HRX := Lib.hid (HR0.out.alloc (.cells #[.int .i64 0, .slice none 0 0] 69))
    have HWX := Lib.hid (HW0.out.below ((Below.refl _ _).alloc (by simp) (.cells #[.int .i64 0, .slice none 0 0] 69)))
    have hix := hi
    clear hno IH h hT hT1 n1
    go_enter Tryd.func48, Tryd.ntmps48
    obtain ⟨z0, z1, z2, z3⟩ := HBX.out.c2
    have HQ := Lib.hid (show ReadD ks d rb tb s i t w (.returned (.tuple #[.agg #[.string ⟨#[]⟩, .int .i64 0, .slice none 0 0, .slice none 0 0], .bool false])) ((w.alloc (.cells #[.string ⟨#[]⟩, .int .i64 0, .slice none 0 0, .slice none 0 0] 27)).alloc (.cells #[.int .i64 0, .slice none 0 0] 69)) from ⟨HWX.out, _, hix, HRX.out, .inr ⟨rfl, HNo.out⟩⟩)
    go_wp2_with fail
    exact bodyPost_ret (v := .tuple #[.agg #[.string ⟨#[]⟩, .int .i64 0, .slice none 0 0, .slice none 0 0], .bool false]) (by simp [results, Tryd.results48, go_sem, z0, z1, z2, z3]) rfl HQ.out
  · obtain ⟨hlen, d', rfl, ih⟩ := IH m k hk hh
    have HK := Lib.hid hk
    have HH := Lib.hid hh
    have IHF := Lib.hid ih
    have HSF := Lib.hid hS
    have HT := Lib.hid hT
    have HF := Lib.hid hF
    generalize hrr : recAt ks m k = r at *
    have HRR := Lib.hid hrr
    obtain ⟨As, cs0, hs1, hs2, hs3, hs4⟩ := hS
    simp only [Value.slice.injEq] at hs1
    obtain ⟨rfl, hz1, rfl⟩ := hs1
    unfold maxLen at hs3
    have HBX := Lib.hid (HB0.out.alloc (.cells #[.int .i64 r.able, .slice Af r.fields.length cf] 69))
    have HB1 := Lib.hid (show Blk ((w.alloc (.cells #[.string ⟨#[]⟩, .int .i64 0, .slice none 0 0, .slice none 0 0] 27)).alloc (.cells #[.int .i64 r.able, .slice Af r.fields.length cf] 69)) (w.heap.size + 1) 69 #[.int .i64 r.able, .slice Af r.fields.length cf] by
      have := Blk.new (w.alloc (.cells #[.string ⟨#[]⟩, .int .i64 0, .slice none 0 0, .slice none 0 0] 27)) 69 #[.int .i64 r.able, .slice Af r.fields.length cf]
      rw [World.size_alloc] at this
      exact this)
    have HRX := Lib.hid (HR0.out.alloc (.cells #[.int .i64 r.able, .slice Af r.fields.length cf] 69))
    have HWX := Lib.hid (HW0.out.below ((Below.refl _ _).alloc (by simp) (.cells #[.int .i64 r.able, .slice Af r.fields.length cf] 69)))
    clear hz1 hs4 hk hh ih hT hT1 hI h HB0 HR0 HW0 hrr IH
    have ht3 : t.size = 3 := by
      have := HK.out
      unfold kindOf at this
      split at this
      · assumption
      · cases this
    have HZ : Hid (∀ j (hj : j < t.size), 0 < (t[j]'hj).toNat) := by
      show ∀ j (hj : j < t.size), 0 < (t[j]'hj).toNat
      have := HK.out
      unfold kindOf at this
      rw [dif_pos ht3] at this
      split at this
      · rename_i hc
        intro j hj
        match j, hj with
        | 0, _ => omega
        | 1, _ => omega
        | 2, _ => omega
        | j + 3, hj => omega
      · cases this
    go_enter Tryd.func48, Tryd.ntmps48
    go_wp2_with fail
    refine (skipText_any rb tb i s t _ HRX.out hi hs (by omega) HZ.out).mono ?_
    rintro e w2 ⟨hW2, i2, hi2, hR2, hh2⟩
    have hs0 : w.heap.size + 2 ≤ w2.heap.size := by have := hW2.size; simp at this; omega
    have hBX2 : Blk w2 w.heap.size 27 #[.string ⟨#[]⟩, .int .i64 0, .slice none 0 0, .slice none 0 0] := (hW2.block _ (by simp; omega) (by omega)).trans HBX.out
    have hB12 : Blk w2 (w.heap.size + 1) 69 #[.int .i64 r.able, .slice Af r.fields.length cf] := (hW2.block _ (by simp) (by omega)).trans HB1.out
    have hWX2 := HWX.out.trans hW2
    have HBX2 := Lib.hid hBX2
    have HB12 := Lib.hid hB12
    have HWX2 := Lib.hid hWX2
    clear hW2 hBX2 hB12 hWX2 HBX HB1 HWX HRX
    rcases hh2 with ⟨rfl, htx⟩ | ⟨rfl, hmiss⟩
    · have HP := Lib.hid (skip_any rb tb i2 40 s w2 hR2 hi2 hs (by decide))
      have HTX := Lib.hid htx
      clear htx hR2 n2
      go_wp2_with fail
      refine HP.out.mono ?_
      rintro e w3 ⟨hW3, hh3⟩
      have hs3' : w.heap.size + 2 ≤ w3.heap.size := Nat.le_trans hs0 hW3.size
      have HBX3 := Lib.hid (show Blk w3 w.heap.size 27 #[.string ⟨#[]⟩, .int .i64 0, .slice none 0 0, .slice none 0 0] from (hW3.block _ (by omega) (by omega)).trans HBX2.out)
      have HB13 := Lib.hid (show Blk w3 (w.heap.size + 1) 69 #[.int .i64 r.able, .slice Af r.fields.length cf] from (hW3.block _ (by omega) (by omega)).trans HB12.out)
      have HWX3 := Lib.hid (HWX2.out.trans hW3)
      clear hW3 HBX2 HB12 HWX2 HP
      rcases hh3 with ⟨hc, rfl, hR3⟩ | ⟨hc, rfl, hR3⟩
      · obtain ⟨hl3, hb3, htl3⟩ := atB_hit (by decide) hc
        have HRec := Lib.hid (show RecAt ks (d' + 1) s i t r.fields 0 [] (i2 + 1) by
          have := RecAt.start (ks := ks) (d := d' + 1) (i1 := i2 + 1) HK.out (by rw [HTX.out, htl3]; rfl)
          rw [HRR.out] at this
          exact this)
        have HR3 := Lib.hid hR3
        obtain ⟨q0, q1⟩ := (show w3.cell? ⟨w.heap.size + 1, 0, none⟩ = some (.int .i64 r.able) ∧ w3.cell? ⟨w.heap.size + 1, 1, none⟩ = some (.slice Af r.fields.length cf) from ⟨HB13.out.cell 0, HB13.out.cell 1⟩)
        have hmk := make_len (P := Tryd.prog) 24 27 _ 4 72 Tryd.underlying24 info_val (by omega) r.fields.length (by omega)
        clear hc hb3 htl3 hR3
        go_upto_region 5 with fail
        generalize hw4 : World.alloc w3 _ = w4
        have hbP : ∃ bP, bP = w3.heap.size := ⟨_, rfl⟩
        obtain ⟨bP, hbP⟩ := hbP
        have hB4 : ∃ cs0 : Array Value, cs0.size = r.fields.length * 4 ∧ Blk w4 w3.heap.size 27 cs0 := by
          rw [← hw4]
          exact ⟨_, by simp [madeCells], Blk.new _ _ _⟩
        obtain ⟨cs0, hcs0, hB4⟩ := hB4
        have hbe4 : Below w3.heap.size w3 w4 := by rw [← hw4]; exact (Below.refl _ _).alloc (Nat.le_refl _) _
        have HR4 := Lib.hid (show RdB rb tb s (i2 + 1) w4 from (hbe4.block rb (by omega)).trans HR3.out)
        have HW4 := Lib.hid (HWX3.out.below (hbe4.mono (by omega)))
        have HBX4 := Lib.hid (HBX3.out.below hbe4 (by omega))
        have q14 := (HB13.out.below hbe4 (by omega)).cell 1
        have hs4 : w3.heap.size + 1 ≤ w4.heap.size := hB4.lt
        have HO4 := Lib.hid (show OPart (OCod.val 27 3 (d' + 1)) w3.heap.size w4 cs0 0 [] from OPart.zero hs4)
        have HB4 := Lib.hid hB4
        rw [← hbP] at HB4 HO4
        clear hw4 hB4 hbe4 q0 q1 hmk HBX3 HB13 HWX3 HR3
        generalize hgb : w3.heap.size = bb at *
        clear hgb
        subst hbP
        go_wp2_with fail
        go_loopw [41] (fun k wr => ∃ (j ij : Nat) (cs : Array Value) (done : List Val), j ≤ r.fields.length ∧ k = .int .i64 (j : Int) ∧ ij ≤ s.size ∧ Hid (RecAt ks (d' + 1) s i t r.fields j done ij) ∧ Hid (RdB rb tb s ij wr) ∧ Hid (Wrote rb (rb + 1) w wr) ∧ Hid (Blk wr w.heap.size 27 #[.string ⟨#[]⟩, .int .i64 0, .slice none 0 0, .slice none 0 0]) ∧ Hid (Blk wr bP 27 cs) ∧ cs.size = r.fields.length * 4 ∧ Hid (OPart (OCod.val 27 3 (d' + 1)) bP wr cs j done)) (fun k _ => r.fields.length - (intOf k).toNat)
        case atStart => exact ⟨0, i2 + 1, cs0, [], Nat.zero_le _, rfl, hl3, HRec, HR4, HW4, HBX4, HB4, hcs0, HO4⟩
        case round =>
          obtain ⟨j, ij, cs, done, hj, rfl, hij, HRe, HRr, HWr, HBr, HPr, hcs, HOr⟩ := hrel
          have hbl := HPr.out.lt
          by_cases hlt : j < r.fields.length
          · have HSr := Lib.hid (show Cod.str.Sl F wr (.slice Af r.fields.length cf) r.fields from HSF.out.keep fun b hb => (HWr.out.block b (HF.out b hb).1 (by have := (HF.out b hb).2; omega)).trans (Below.heap_alloc _ _ _ (HF.out b hb).1).symm)
            obtain ⟨b, off, cap', hv, hFb, _, _, hc0, hs00⟩ := HSr.out.str_at hlt
            obtain ⟨rfl, rfl⟩ : Af = some ⟨b, off, none⟩ ∧ cf = cap' := by simpa using hv
            have HTr := Lib.hid (show Table F ks tb wr from HT.out.keep (fun b hb => HWr.out.block b (HF.out b hb).1 (by have := (HF.out b hb).2; omega)) (HWr.out.block tb htl (by omega)))
            have hwr := HWr.out.size
            clear hv
            have hj0 : j = 0 ∨ j ≠ 0 := by omega
            rcases hj0 with hj0 | hj0
            · have Hj0 := Lib.hid hj0
              have b0 : ¬ (0 : Int) < (j : Int) := by omega
              have b1 : (j : Int) < (r.fields.length : Int) := by omega
              have b2 : (0 : Int) ≤ (j : Int) := by omega
              clear hj0
              have HTx := HTr
              have HFx := Lib.hid (show ∀ b, F b → b < wr.heap.size ∧ b ≠ rb from fun b hb => ⟨Nat.lt_of_lt_of_le (HF.out b hb).1 hwr, (HF.out b hb).2⟩)
              have HRx := HRr
              have HWx := HWr
              have HBx := HBr
              have HPx := HPr
              have HOx := HOr
              have hpos := hij
              go_wp2_with fail
              refine (IHF.out r.fields[j] (List.getElem_mem hlt) (ij) wr HTx.out HFx.out HRx.out hpos).mono ?_
              rintro e w6 ⟨hW6, i6, hi6, hR6, hh6⟩
              have hs6 := hW6.size
              have hlx := HPx.out.lt
              have hbx := HBx.out.lt
              have hwx := HWx.out.size
              have HP6 := Lib.hid (show Blk w6 bP 27 cs from (hW6.block bP hlx (by omega)).trans HPx.out)
              have HB6 := Lib.hid (show Blk w6 w.heap.size 27 #[.string ⟨#[]⟩, .int .i64 0, .slice none 0 0, .slice none 0 0] from (hW6.block _ hbx (by omega)).trans HBx.out)
              have HW6 := Lib.hid (HWx.out.trans hW6)
              have HX6 := Lib.hid hW6
              have HR6 := Lib.hid hR6
              have Hi6 := Lib.hid hi6
              obtain ⟨e0, he0⟩ := HP6.out.holds hcs (i := j * 4) (by omega)
              obtain ⟨e1, he1⟩ := HP6.out.holds hcs (i := j * 4 + 1) (by omega)
              obtain ⟨e2, he2⟩ := HP6.out.holds hcs (i := j * 4 + 2) (by omega)
              obtain ⟨e3, he3⟩ := HP6.out.holds hcs (i := j * 4 + 3) (by omega)
              have k0 := HP6.out.frozen (j * 4)
              have k1 := HP6.out.frozen (j * 4 + 1)
              have k2 := HP6.out.frozen (j * 4 + 2)
              have k3 := HP6.out.frozen (j * 4 + 3)
              clear hW6 hR6 hi6
              rcases hh6 with ⟨v, A, cA, rfl, p1, p2, p3, p4, p5, p6⟩ | ⟨rfl, hno⟩
              · have hst : RecAt ks (d' + 1) s i t r.fields (j + 1) (done ++ [v]) i6 := by
                  have h0 := HRe.out
                  rw [← HRR.out] at h0
                  have := h0.step (x := v) (i1 := ij) (i2 := i6) HK.out (by rw [HRR.out]; exact hlt) (by rw [if_pos Hj0.out]; rfl) p2 (by rw [p3]; simp only [HRR.out]) p4 p5
                  rw [HRR.out] at this
                  exact this
                have hp6 : OV (OCod.val 27 3 d') 27 3 wr.heap.size w6.heap.size w6 (.slice A v.parts.length cA) (.slice none v.path.length 0) v := by rw [p1]; exact p6
                have hput := opart_put (v := v) (A := A) (cA := cA) (B := none) (cB := 0) HOx.out HRe.out.len hcs hlt hlx (fun b' g1 g2 => HX6.out.block b' g2 (by omega)) hs6 hp6
                rw [show v.path.length = 0 by rw [p1]; rfl] at hput
                have HG := Lib.hid (show RecAt ks (d' + 1) s i t r.fields (j + 1) (done ++ [v]) i6 ∧ RdB rb tb s i6 (set4at w6 bP (j * 4) (.string v.ty) (.int .i64 v.n) (.slice A v.parts.length cA) (.slice none 0 0)) ∧ Wrote rb (rb + 1) w (set4at w6 bP (j * 4) (.string v.ty) (.int .i64 v.n) (.slice A v.parts.length cA) (.slice none 0 0)) ∧ Blk (set4at w6 bP (j * 4) (.string v.ty) (.int .i64 v.n) (.slice A v.parts.length cA) (.slice none 0 0)) w.heap.size 27 #[.string ⟨#[]⟩, .int .i64 0, .slice none 0 0, .slice none 0 0] ∧ Blk (set4at w6 bP (j * 4) (.string v.ty) (.int .i64 v.n) (.slice A v.parts.length cA) (.slice none 0 0)) bP 27 (put4 cs (j * 4) (.string v.ty) (.int .i64 v.n) (.slice A v.parts.length cA) (.slice none 0 0)) ∧ OPart (OCod.val 27 3 (d' + 1)) bP (set4at w6 bP (j * 4) (.string v.ty) (.int .i64 v.n) (.slice A v.parts.length cA) (.slice none 0 0)) (put4 cs (j * 4) (.string v.ty) (.int .i64 v.n) (.slice A v.parts.length cA) (.slice none 0 0)) (j + 1) (done ++ [v]) from
                  ⟨hst, (set4at_far (w := w6) (b := bP) (o := j * 4) (by omega)).trans HR6.out, set4at_wrote HW6.out (by omega), (set4at_far (w := w6) (b := bP) (o := j * 4) (by omega)).trans HB6.out, set4at_blk HP6.out, hput⟩)
                have hva : v.parts.length ≤ cA ∧ cA ≤ 9223372036854775807 := by
                  obtain ⟨_, _, hm0, _, _, hm1, _⟩ := p6
                  obtain ⟨A', c', hae, hb1, hb2⟩ := hm1.len_
                  simp only [Value.slice.injEq] at hae
                  obtain ⟨_, _, rfl⟩ := hae
                  unfold maxLen at hb2
                  exact ⟨hb1, by omega⟩
                have Hcs := Lib.hid hcs
                have Hlt := Lib.hid hlt
                clear p1 p2 p3 p4 p5 p6 hst hp6 hput hcs
                go_wp2_with fail
                go_roundw
                case rel => exact ⟨j + 1, i6, _, done ++ [v], Hlt.out, by go_num, Hi6.out, Lib.hid HG.out.1, Lib.hid HG.out.2.1, Lib.hid HG.out.2.2.1, Lib.hid HG.out.2.2.2.1, Lib.hid HG.out.2.2.2.2.1, by rw [put4_size]; exact Hcs.out, Lib.hid HG.out.2.2.2.2.2⟩
                case measure => simp [intOf]; omega
              · have HNo := Lib.hid (show ¬ Cand ks (d' + 1) t (tl s i) by
                  have h0 := HRe.out
                  rw [← HRR.out] at h0
                  exact h0.val_miss (i1 := ij) HK.out (by rw [HRR.out]; exact hlt) (by rw [if_pos Hj0.out]; rfl) (by simp only [HRR.out]; exact hno))
                obtain ⟨w7, hw7⟩ : ∃ w7, w7 = set4at w6 bP (j * 4) (.string ⟨#[]⟩) (.int .i64 0) (.slice none 0 0) (.slice none 0 0) := ⟨_, rfl⟩
                have hk7 : ∀ b', b' ≠ bP → w7.heap[b']? = w6.heap[b']? := fun b' h => by rw [hw7]; exact set4at_far h
                unfold set4at at hw7
                have HBX := Lib.hid (show Blk w7 w.heap.size 27 #[.string ⟨#[]⟩, .int .i64 0, .slice none 0 0, .slice none 0 0] from (hk7 _ (by omega)).trans HB6.out)
                have HRX := Lib.hid (show RdB rb tb s i6 w7 from (hk7 _ (by omega)).trans HR6.out)
                have HWX := Lib.hid (show Wrote rb (rb + 1) w w7 by rw [hw7]; exact set4at_wrote HW6.out (by omega))
                have hix := Hi6.out
                clear hno hk7
                have HW7 := Lib.hid hw7
                clear hw7
                go_upto_region 12 with fail
                rw [← HW7.out]
                clear HW7 he0 he1 he2 he3 k0 k1 k2 k3
                obtain ⟨g1, g2, g3, g4, g5⟩ := four_done (w := w) HBX.out HRX.out (by omega) HWX.out (Nat.le_refl _) (.string ⟨#[]⟩) (.int .i64 0) (.slice none 0 0) (.slice none 0 0)
                obtain ⟨z0, z1, z2, z3⟩ := g1.c2
                have HQ := Lib.hid (show ReadD ks (d' + 1) rb tb s i t w (.returned (.tuple #[.agg #[.string ⟨#[]⟩, .int .i64 0, .slice none 0 0, .slice none 0 0], .bool false])) (set4 w7 w.heap.size (.string ⟨#[]⟩) (.int .i64 0) (.slice none 0 0) (.slice none 0 0)) from ⟨g3, _, hix, g2, .inr ⟨rfl, HNo.out⟩⟩)
                obtain ⟨wF, hF⟩ : ∃ wF, wF = set4 w7 w.heap.size (.string ⟨#[]⟩) (.int .i64 0) (.slice none 0 0) (.slice none 0 0) := ⟨_, rfl⟩
                rw [← hF] at z0 z1 z2 z3 HQ
                unfold set4 at hF
                obtain ⟨y0, y1, y2, y3⟩ := HBX.out.c2
                obtain ⟨f0, f1, f2, f3⟩ := HBX.out.f4
                clear g1 g2 g3 g4 g5
                go_wp2_with fail
                rw [← hF]
                exact bodyPost_ret (v := .tuple #[.agg #[.string ⟨#[]⟩, .int .i64 0, .slice none 0 0, .slice none 0 0], .bool false]) (by simp [results, Tryd.results48, go_sem, z0, z1, z2, z3]) rfl HQ.out
            · have Hj0 := Lib.hid hj0
              have b0 : (0 : Int) < (j : Int) := by omega
              have b1 : (j : Int) < (r.fields.length : Int) := by omega
              have b2 : (0 : Int) ≤ (j : Int) := by omega
              have HP := Lib.hid (skip_any rb tb ij 32 s wr HRr.out hij hs (by decide))
              clear hj0
              go_wp2_with fail
              refine HP.out.mono ?_
              rintro e w5 ⟨hW5, hh5⟩
              have HWx := Lib.hid (HWr.out.trans hW5)
              have hs5 := hW5.size
              have hwlt := HBr.out.lt
              have HBx := Lib.hid (show Blk w5 w.heap.size 27 #[.string ⟨#[]⟩, .int .i64 0, .slice none 0 0, .slice none 0 0] from (hW5.block _ hwlt (by omega)).trans HBr.out)
              have HPx := Lib.hid (show Blk w5 bP 27 cs from (hW5.block _ hbl (by omega)).trans HPr.out)
              have HTx := Lib.hid (show Table F ks tb w5 from HT.out.keep (fun b hb => HWx.out.block b (HF.out b hb).1 (by have := (HF.out b hb).2; omega)) (HWx.out.block tb htl (by omega)))
              have HFx := Lib.hid (show ∀ b, F b → b < w5.heap.size ∧ b ≠ rb from fun b hb => ⟨Nat.lt_of_lt_of_le (HF.out b hb).1 (by omega), (HF.out b hb).2⟩)
              have HOx := Lib.hid (show OPart (OCod.val 27 3 (d' + 1)) bP w5 cs j done from HOr.out.keep (fun b' g1 g2 => hW5.block b' g2 (by omega)) hs5)
              rcases hh5 with ⟨hc, rfl, hR5⟩ | ⟨hc, rfl, hR5⟩
              · obtain ⟨hl5, hb5, htl5⟩ := atB_hit (by decide) hc
                have HRx := Lib.hid hR5
                have hpos : ij + 1 ≤ s.size := hl5
                have HTL := Lib.hid (show tl s ij = 32 :: tl s (ij + 1) from htl5)
                clear hc hR5 hb5 htl5 hW5 HP
                go_wp2_with fail
                refine (IHF.out r.fields[j] (List.getElem_mem hlt) (ij + 1) w5 HTx.out HFx.out HRx.out hpos).mono ?_
                rintro e w6 ⟨hW6, i6, hi6, hR6, hh6⟩
                have hs6 := hW6.size
                have hlx := HPx.out.lt
                have hbx := HBx.out.lt
                have hwx := HWx.out.size
                have HP6 := Lib.hid (show Blk w6 bP 27 cs from (hW6.block bP hlx (by omega)).trans HPx.out)
                have HB6 := Lib.hid (show Blk w6 w.heap.size 27 #[.string ⟨#[]⟩, .int .i64 0, .slice none 0 0, .slice none 0 0] from (hW6.block _ hbx (by omega)).trans HBx.out)
                have HW6 := Lib.hid (HWx.out.trans hW6)
                have HX6 := Lib.hid hW6
                have HR6 := Lib.hid hR6
                have Hi6 := Lib.hid hi6
                obtain ⟨e0, he0⟩ := HP6.out.holds hcs (i := j * 4) (by omega)
                obtain ⟨e1, he1⟩ := HP6.out.holds hcs (i := j * 4 + 1) (by omega)
                obtain ⟨e2, he2⟩ := HP6.out.holds hcs (i := j * 4 + 2) (by omega)
                obtain ⟨e3, he3⟩ := HP6.out.holds hcs (i := j * 4 + 3) (by omega)
                have k0 := HP6.out.frozen (j * 4)
                have k1 := HP6.out.frozen (j * 4 + 1)
                have k2 := HP6.out.frozen (j * 4 + 2)
                have k3 := HP6.out.frozen (j * 4 + 3)
                clear hW6 hR6 hi6
                rcases hh6 with ⟨v, A, cA, rfl, p1, p2, p3, p4, p5, p6⟩ | ⟨rfl, hno⟩
                · have hst : RecAt ks (d' + 1) s i t r.fields (j + 1) (done ++ [v]) i6 := by
                    have h0 := HRe.out
                    rw [← HRR.out] at h0
                    have := h0.step (x := v) (i1 := ij + 1) (i2 := i6) HK.out (by rw [HRR.out]; exact hlt) (by rw [if_neg Hj0.out, HTL.out]; rfl) p2 (by rw [p3]; simp only [HRR.out]) p4 p5
                    rw [HRR.out] at this
                    exact this
                  have hp6 : OV (OCod.val 27 3 d') 27 3 w5.heap.size w6.heap.size w6 (.slice A v.parts.length cA) (.slice none v.path.length 0) v := by rw [p1]; exact p6
                  have hput := opart_put (v := v) (A := A) (cA := cA) (B := none) (cB := 0) HOx.out HRe.out.len hcs hlt hlx (fun b' g1 g2 => HX6.out.block b' g2 (by omega)) hs6 hp6
                  rw [show v.path.length = 0 by rw [p1]; rfl] at hput
                  have HG := Lib.hid (show RecAt ks (d' + 1) s i t r.fields (j + 1) (done ++ [v]) i6 ∧ RdB rb tb s i6 (set4at w6 bP (j * 4) (.string v.ty) (.int .i64 v.n) (.slice A v.parts.length cA) (.slice none 0 0)) ∧ Wrote rb (rb + 1) w (set4at w6 bP (j * 4) (.string v.ty) (.int .i64 v.n) (.slice A v.parts.length cA) (.slice none 0 0)) ∧ Blk (set4at w6 bP (j * 4) (.string v.ty) (.int .i64 v.n) (.slice A v.parts.length cA) (.slice none 0 0)) w.heap.size 27 #[.string ⟨#[]⟩, .int .i64 0, .slice none 0 0, .slice none 0 0] ∧ Blk (set4at w6 bP (j * 4) (.string v.ty) (.int .i64 v.n) (.slice A v.parts.length cA) (.slice none 0 0)) bP 27 (put4 cs (j * 4) (.string v.ty) (.int .i64 v.n) (.slice A v.parts.length cA) (.slice none 0 0)) ∧ OPart (OCod.val 27 3 (d' + 1)) bP (set4at w6 bP (j * 4) (.string v.ty) (.int .i64 v.n) (.slice A v.parts.length cA) (.slice none 0 0)) (put4 cs (j * 4) (.string v.ty) (.int .i64 v.n) (.slice A v.parts.length cA) (.slice none 0 0)) (j + 1) (done ++ [v]) from
                    ⟨hst, (set4at_far (w := w6) (b := bP) (o := j * 4) (by omega)).trans HR6.out, set4at_wrote HW6.out (by omega), (set4at_far (w := w6) (b := bP) (o := j * 4) (by omega)).trans HB6.out, set4at_blk HP6.out, hput⟩)
                  have hva : v.parts.length ≤ cA ∧ cA ≤ 9223372036854775807 := by
                    obtain ⟨_, _, hm0, _, _, hm1, _⟩ := p6
                    obtain ⟨A', c', hae, hb1, hb2⟩ := hm1.len_
                    simp only [Value.slice.injEq] at hae
                    obtain ⟨_, _, rfl⟩ := hae
                    unfold maxLen at hb2
                    exact ⟨hb1, by omega⟩
                  have Hcs := Lib.hid hcs
                  have Hlt := Lib.hid hlt
                  clear p1 p2 p3 p4 p5 p6 hst hp6 hput hcs
                  go_wp2_with fail
                  go_roundw
                  case rel => exact ⟨j + 1, i6, _, done ++ [v], Hlt.out, by go_num, Hi6.out, Lib.hid HG.out.1, Lib.hid HG.out.2.1, Lib.hid HG.out.2.2.1, Lib.hid HG.out.2.2.2.1, Lib.hid HG.out.2.2.2.2.1, by rw [put4_size]; exact Hcs.out, Lib.hid HG.out.2.2.2.2.2⟩
                  case measure => simp [intOf]; omega
                · have HNo := Lib.hid (show ¬ Cand ks (d' + 1) t (tl s i) by
                    have h0 := HRe.out
                    rw [← HRR.out] at h0
                    exact h0.val_miss (i1 := ij + 1) HK.out (by rw [HRR.out]; exact hlt) (by rw [if_neg Hj0.out, HTL.out]; rfl) (by simp only [HRR.out]; exact hno))
                  obtain ⟨w7, hw7⟩ : ∃ w7, w7 = set4at w6 bP (j * 4) (.string ⟨#[]⟩) (.int .i64 0) (.slice none 0 0) (.slice none 0 0) := ⟨_, rfl⟩
                  have hk7 : ∀ b', b' ≠ bP → w7.heap[b']? = w6.heap[b']? := fun b' h => by rw [hw7]; exact set4at_far h
                  unfold set4at at hw7
                  have HBX := Lib.hid (show Blk w7 w.heap.size 27 #[.string ⟨#[]⟩, .int .i64 0, .slice none 0 0, .slice none 0 0] from (hk7 _ (by omega)).trans HB6.out)
                  have HRX := Lib.hid (show RdB rb tb s i6 w7 from (hk7 _ (by omega)).trans HR6.out)
                  have HWX := Lib.hid (show Wrote rb (rb + 1) w w7 by rw [hw7]; exact set4at_wrote HW6.out (by omega))
                  have hix := Hi6.out
                  clear hno hk7
                  have HW7 := Lib.hid hw7
                  clear hw7
                  go_upto_region 12 with fail
                  rw [← HW7.out]
                  clear HW7 he0 he1 he2 he3 k0 k1 k2 k3
                  obtain ⟨g1, g2, g3, g4, g5⟩ := four_done (w := w) HBX.out HRX.out (by omega) HWX.out (Nat.le_refl _) (.string ⟨#[]⟩) (.int .i64 0) (.slice none 0 0) (.slice none 0 0)
                  obtain ⟨z0, z1, z2, z3⟩ := g1.c2
                  have HQ := Lib.hid (show ReadD ks (d' + 1) rb tb s i t w (.returned (.tuple #[.agg #[.string ⟨#[]⟩, .int .i64 0, .slice none 0 0, .slice none 0 0], .bool false])) (set4 w7 w.heap.size (.string ⟨#[]⟩) (.int .i64 0) (.slice none 0 0) (.slice none 0 0)) from ⟨g3, _, hix, g2, .inr ⟨rfl, HNo.out⟩⟩)
                  obtain ⟨wF, hF⟩ : ∃ wF, wF = set4 w7 w.heap.size (.string ⟨#[]⟩) (.int .i64 0) (.slice none 0 0) (.slice none 0 0) := ⟨_, rfl⟩
                  rw [← hF] at z0 z1 z2 z3 HQ
                  unfold set4 at hF
                  obtain ⟨y0, y1, y2, y3⟩ := HBX.out.c2
                  obtain ⟨f0, f1, f2, f3⟩ := HBX.out.f4
                  clear g1 g2 g3 g4 g5
                  go_wp2_with fail
                  rw [← hF]
                  exact bodyPost_ret (v := .tuple #[.agg #[.string ⟨#[]⟩, .int .i64 0, .slice none 0 0, .slice none 0 0], .bool false]) (by simp [results, Tryd.results48, go_sem, z0, z1, z2, z3]) rfl HQ.out
              · have HNo := Lib.hid (show ¬ Cand ks (d' + 1) t (tl s i) by
                  have h0 := HRe.out
                  rw [← HRR.out] at h0
                  exact h0.blank_miss HK.out (by rw [HRR.out]; exact hlt) Hj0.out hc)
                have HBX := HBx
                have HRX := Lib.hid hR5
                have HWX := HWx
                have hix := hij
                clear hc hR5 hW5
                obtain ⟨g1, g2, g3, g4, g5⟩ := four_done (w := w) HBX.out HRX.out (by omega) HWX.out (Nat.le_refl _) (.string ⟨#[]⟩) (.int .i64 0) (.slice none 0 0) (.slice none 0 0)
                obtain ⟨z0, z1, z2, z3⟩ := g1.c2
                have HQ := Lib.hid (show ReadD ks (d' + 1) rb tb s i t w (.returned (.tuple #[.agg #[.string ⟨#[]⟩, .int .i64 0, .slice none 0 0, .slice none 0 0], .bool false])) (set4 w5 w.heap.size (.string ⟨#[]⟩) (.int .i64 0) (.slice none 0 0) (.slice none 0 0)) from ⟨g3, _, hix, g2, .inr ⟨rfl, HNo.out⟩⟩)
                obtain ⟨wF, hF⟩ : ∃ wF, wF = set4 w5 w.heap.size (.string ⟨#[]⟩) (.int .i64 0) (.slice none 0 0) (.slice none 0 0) := ⟨_, rfl⟩
                rw [← hF] at z0 z1 z2 z3 HQ
                unfold set4 at hF
                obtain ⟨y0, y1, y2, y3⟩ := HBX.out.c2
                obtain ⟨f0, f1, f2, f3⟩ := HBX.out.f4
                clear g1 g2 g3 g4 g5
                go_wp2_with fail
                rw [← hF]
                exact bodyPost_ret (v := .tuple #[.agg #[.string ⟨#[]⟩, .int .i64 0, .slice none 0 0, .slice none 0 0], .bool false]) (by simp [results, Tryd.results48, go_sem, z0, z1, z2, z3]) rfl HQ.out
          · have HP := Lib.hid (skip_any rb tb ij 41 s wr HRr.out hij hs (by decide))
            have hjl : j = r.fields.length := by omega
            have Hjl := Lib.hid hjl
            have b0 : ¬ (j : Int) < (r.fields.length : Int) := by omega
            clear hjl
            go_wp2_with fail
            refine HP.out.mono ?_
            rintro e w5 ⟨hW5, hh5⟩
            have HWX := Lib.hid (HWr.out.trans hW5)
            have hs5 := hW5.size
            have hw5 := HWr.out.size
            have hwlt := HBr.out.lt
            have HBX := Lib.hid (show Blk w5 w.heap.size 27 #[.string ⟨#[]⟩, .int .i64 0, .slice none 0 0, .slice none 0 0] from (hW5.block _ hwlt (by omega)).trans HBr.out)
            have HPX := Lib.hid (show Blk w5 bP 27 cs from (hW5.block _ hbl (by omega)).trans HPr.out)
            rcases hh5 with ⟨hc, rfl, hR5⟩ | ⟨hc, rfl, hR5⟩
            · obtain ⟨hl5, hb5, htl5⟩ := atB_hit (by decide) hc
              have hcl : okV ks (d' + 1 + 1) (.mk t 0 done []) = true ∧ tl s i = lOf (textV (d' + 1 + 1)) (.mk t 0 done []) ++ tl s (ij + 1) := by
                have h0 := HRe.out
                rw [← HRR.out] at h0
                exact h0.close HK.out HH.out (by rw [HRR.out]; exact Hjl.out) (by rw [htl5]; rfl)
              have hdl : done.length = r.fields.length := by rw [HRe.out.len]; exact Hjl.out
              have hOw : Own (OCod.val 27 3 (d' + 1)) 27 bP w5.heap.size w5 (.slice (some ⟨bP, 0, none⟩) r.fields.length r.fields.length) done := by
                have h0 := HOr.out
                rw [← HRe.out.len] at h0
                have o := h0.own (lo := bP) (cap := r.fields.length) HPr.out (Nat.le_refl _) (by omega) (by unfold maxLen; omega)
                rw [hdl] at o
                exact (o.keep fun b g1 g2 => hW5.block b g2 (by omega)).mono (Nat.le_refl _) hs5
              have HCL := Lib.hid hcl
              have HDL := Lib.hid hdl
              have HOW := Lib.hid hOw
              clear hcl hdl hOw hb5 htl5 hc hW5
              obtain ⟨g1, g2, g3, g4, g5⟩ := four_done (w := w) HBX.out hR5 (by omega) HWX.out (Nat.le_refl _) (.string t) (.int .i64 0) (.slice (some ⟨bP, 0, none⟩) r.fields.length r.fields.length) (.slice none 0 0)
              obtain ⟨z0, z1, z2, z3⟩ := g1.c2
              have HQ := Lib.hid (show ReadD ks (d' + 1) rb tb s i t w (.returned (.tuple #[.agg #[.string t, .int .i64 0, .slice (some ⟨bP, 0, none⟩) r.fields.length r.fields.length, .slice none 0 0], .bool true])) (set4 w5 w.heap.size (.string t) (.int .i64 0) (.slice (some ⟨bP, 0, none⟩) r.fields.length r.fields.length) (.slice none 0 0)) from
                ⟨g3, ij + 1, hl5, g2, .inl ⟨.mk t 0 done [], some ⟨bP, 0, none⟩, r.fields.length, by show _ = Ending.returned (.tuple #[.agg #[.string t, .int .i64 0, .slice (some ⟨bP, 0, none⟩) done.length r.fields.length, .slice none 0 0], .bool true]); rw [HDL.out], rfl, HCL.out.1, rfl, HCL.out.2, (fun hh => by
                  rcases hh with hh | hh
                  · exact absurd (show (t.toList == [110]) = true from hh) (by rw [c1]; decide)
                  · exact absurd (show (t.toList == [111]) = true from hh) (by rw [c3]; decide)), by
                  refine ⟨by show t.size ≤ maxLen; unfold maxLen; omega, by show I64 0; unfold I64; omega, (set4 w5 w.heap.size (.string t) (.int .i64 0) (.slice (some ⟨bP, 0, none⟩) r.fields.length r.fields.length) (.slice none 0 0)).heap.size, g3.size, Nat.le_refl _, ?_, ⟨none, 0, rfl, Nat.le_refl _, Nat.zero_le _, fun h => absurd h (by simp [Val.path])⟩⟩
                  show Own _ _ _ _ _ (.slice (some ⟨bP, 0, none⟩) done.length r.fields.length) done
                  rw [HDL.out]
                  exact (HOW.out.keep fun b k1 k2 => g5 b (by omega)).mono (by omega) (by omega)⟩⟩)
              obtain ⟨wF, hF⟩ : ∃ wF, wF = set4 w5 w.heap.size (.string t) (.int .i64 0) (.slice (some ⟨bP, 0, none⟩) r.fields.length r.fields.length) (.slice none 0 0) := ⟨_, rfl⟩
              rw [← hF] at z0 z1 z2 z3 HQ
              unfold set4 at hF
              obtain ⟨y0, y1, y2, y3⟩ := HBX.out.c2
              obtain ⟨f0, f1, f2, f3⟩ := HBX.out.f4
              clear g1 g2 g3 g4 g5 hR5
              go_wp2_with fail
              rw [← hF]
              exact bodyPost_ret (v := .tuple #[.agg #[.string t, .int .i64 0, .slice (some ⟨bP, 0, none⟩) r.fields.length r.fields.length, .slice none 0 0], .bool true]) (by simp [results, Tryd.results48, go_sem, z0, z1, z2, z3]) rfl HQ.out
            · have HNo := Lib.hid (show ¬ Cand ks (d' + 1) t (tl s i) by
                have h0 := HRe.out
                rw [← HRR.out] at h0
                exact h0.close_miss HK.out (by rw [HRR.out]; exact Hjl.out) hc)
              have HRX := Lib.hid hR5
              have hix := hij
              clear hc hR5 hW5
              obtain ⟨g1, g2, g3, g4, g5⟩ := four_done (w := w) HBX.out HRX.out (by omega) HWX.out (Nat.le_refl _) (.string ⟨#[]⟩) (.int .i64 0) (.slice none 0 0) (.slice none 0 0)
              obtain ⟨z0, z1, z2, z3⟩ := g1.c2
              have HQ := Lib.hid (show ReadD ks (d' + 1) rb tb s i t w (.returned (.tuple #[.agg #[.string ⟨#[]⟩, .int .i64 0, .slice none 0 0, .slice none 0 0], .bool false])) (set4 w5 w.heap.size (.string ⟨#[]⟩) (.int .i64 0) (.slice none 0 0) (.slice none 0 0)) from ⟨g3, _, hix, g2, .inr ⟨rfl, HNo.out⟩⟩)
              obtain ⟨wF, hF⟩ : ∃ wF, wF = set4 w5 w.heap.size (.string ⟨#[]⟩) (.int .i64 0) (.slice none 0 0) (.slice none 0 0) := ⟨_, rfl⟩
              rw [← hF] at z0 z1 z2 z3 HQ
              unfold set4 at hF
              obtain ⟨y0, y1, y2, y3⟩ := HBX.out.c2
              obtain ⟨f0, f1, f2, f3⟩ := HBX.out.f4
              clear g1 g2 g3 g4 g5
              go_wp2_with fail
              rw [← hF]
              exact bodyPost_ret (v := .tuple #[.agg #[.string ⟨#[]⟩, .int .i64 0, .slice none 0 0, .slice none 0 0], .bool false]) (by simp [results, Tryd.results48, go_sem, z0, z1, z2, z3]) rfl HQ.out
      · have HNo := Lib.hid (show ¬ Cand ks (d' + 1) t (tl s i) from fun ⟨v, x, hv, ht, he, _⟩ => by
          have e2 : lOf (textV (d' + 1 + 1)) v = t.data.toList ++ 40 :: (joinL (lOf (textV (d' + 1))) true v.parts ++ [41]) := rec_text HK.out (f := textV (d' + 1)) ht
          rw [e2, HTX.out, List.append_assoc] at he
          have e3 := List.append_cancel_left he
          exact atB_miss (by decide) hc _ e3)
        have HBX := HBX3
        have HRX := Lib.hid hR3
        have HWX := HWX3
        have hix := hi2
        clear hc hR3
        obtain ⟨g1, g2, g3, g4, g5⟩ := four_done (w := w) HBX.out HRX.out (by omega) HWX.out (Nat.le_refl _) (.string ⟨#[]⟩) (.int .i64 0) (.slice none 0 0) (.slice none 0 0)
        obtain ⟨z0, z1, z2, z3⟩ := g1.c2
        have HQ := Lib.hid (show ReadD ks (d' + 1) rb tb s i t w (.returned (.tuple #[.agg #[.string ⟨#[]⟩, .int .i64 0, .slice none 0 0, .slice none 0 0], .bool false])) (set4 w3 w.heap.size (.string ⟨#[]⟩) (.int .i64 0) (.slice none 0 0) (.slice none 0 0)) from ⟨g3, _, hix, g2, .inr ⟨rfl, HNo.out⟩⟩)
        obtain ⟨wF, hF⟩ : ∃ wF, wF = set4 w3 w.heap.size (.string ⟨#[]⟩) (.int .i64 0) (.slice none 0 0) (.slice none 0 0) := ⟨_, rfl⟩
        rw [← hF] at z0 z1 z2 z3 HQ
        unfold set4 at hF
        obtain ⟨y0, y1, y2, y3⟩ := HBX.out.c2
        obtain ⟨f0, f1, f2, f3⟩ := HBX.out.f4
        clear g1 g2 g3 g4 g5
        go_wp2_with fail
        rw [← hF]
        exact bodyPost_ret (v := .tuple #[.agg #[.string ⟨#[]⟩, .int .i64 0, .slice none 0 0, .slice none 0 0], .bool false]) (by simp [results, Tryd.results48, go_sem, z0, z1, z2, z3]) rfl HQ.out
    · have HNo := Lib.hid (show ¬ Cand ks (d' + 1) t (tl s i) from fun ⟨v, x, hv, ht, he, _⟩ => by
        have e2 : lOf (textV (d' + 1 + 1)) v = t.data.toList ++ 40 :: (joinL (lOf (textV (d' + 1))) true v.parts ++ [41]) := rec_text HK.out (f := textV (d' + 1)) ht
        rw [e2, List.append_assoc] at he
        exact hmiss _ he)
      have HBX := HBX2
      have HRX := Lib.hid hR2
      have HWX := HWX2
      have hix := hi2
      clear hmiss hR2
      obtain ⟨g1, g2, g3, g4, g5⟩ := four_done (w := w) HBX.out HRX.out (by omega) HWX.out (Nat.le_refl _) (.string ⟨#[]⟩) (.int .i64 0) (.slice none 0 0) (.slice none 0 0)
      obtain ⟨z0, z1, z2, z3⟩ := g1.c2
      have HQ := Lib.hid (show ReadD ks (d' + 1) rb tb s i t w (.returned (.tuple #[.agg #[.string ⟨#[]⟩, .int .i64 0, .slice none 0 0, .slice none 0 0], .bool false])) (set4 w2 w.heap.size (.string ⟨#[]⟩) (.int .i64 0) (.slice none 0 0) (.slice none 0 0)) from ⟨g3, _, hix, g2, .inr ⟨rfl, HNo.out⟩⟩)
      obtain ⟨wF, hF⟩ : ∃ wF, wF = set4 w2 w.heap.size (.string ⟨#[]⟩) (.int .i64 0) (.slice none 0 0) (.slice none 0 0) := ⟨_, rfl⟩
      rw [← hF] at z0 z1 z2 z3 HQ
      unfold set4 at hF
      obtain ⟨y0, y1, y2, y3⟩ := HBX.out.c2
      obtain ⟨f0, f1, f2, f3⟩ := HBX.out.f4
      clear g1 g2 g3 g4 g5
      go_wp2_with fail
      rw [← hF]
      exact bodyPost_ret (v := .tuple #[.agg #[.string ⟨#[]⟩, .int .i64 0, .slice none 0 0, .slice none 0 0], .bool false]) (by simp [results, Tryd.results48, go_sem, z0, z1, z2, z3]) rfl HQ.out
end Go.Proofs.YtelhjdccfomafaaDoor
