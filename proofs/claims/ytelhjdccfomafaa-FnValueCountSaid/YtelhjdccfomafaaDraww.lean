/- What is drawn: values of kinds, records among them. -/
import Derived.Test.YtelhjdccfomafaaDrawv
namespace Go.Proofs.Ytelhjdccfomafaa
open Go.RowKit

theorem ValueD.more {g p N M d : Nat} {W w' : World} {e : Ending} (h : ValueD g p N d W e w') (hm : N ≤ M) : ValueD g p M d W e w' := by
  obtain ⟨v, A, c, h1, h2, h3, h4, h5, h6⟩ := h
  exact ⟨v, A, c, h1, h2, h3, h4, by omega, h6.more hm⟩

theorem four_one {a : ByteArray} {n : Int} {A B : Option Addr} {l c l' c' : Nat} : ∀ u ∈ ([.string a, .int .i64 n, .slice A l c, .slice B l' c'] : List Value), u.oneCell' = true := fun u hu => by
  simp only [List.mem_cons, List.not_mem_nil, or_false] at hu
  rcases hu with rfl | rfl | rfl | rfl <;> rfl

/-- What is known while the parts of a record are drawn. -/
structure DV (g p N n : Nat) (w : World) (x : Nat) (t : ByteArray) (v : Value) (xs : List Val) (wr : World) : Prop where
  step : Step g p N w wr
  res : Blk wr w.heap.size 32 #[.string ⟨#[]⟩, .int .i64 0, .slice none 0 0, .slice none 0 0]
  var : Blk wr x 32 #[.string t, .int .i64 0, v, .slice none 0 0]
  own : OwnRow (Cod.val (n + 1)) 32 (x + 1) (x + 1) wr v xs
  size : sumL (sizeV (n + 1)) xs ≤ (xs.length * vmax n : Nat)
theorem OwnRow.nil_ {α : Type} {c : Cod α} {e : TypeId} {base cb : Nat} {w : World} : OwnRow c e base cb w (.slice none 0 0) ([] : List α) :=
  ⟨[], World.ownsRow_nil _ _ _ _, fun _ h => by simp at h, fun _ _ h => by simp at h⟩
theorem OwnRow.own_lt {α : Type} {c : Cod α} {e : TypeId} {base cb : Nat} {w : World} {v : Value} {xs : List α} (h : OwnRow c e base cb w v xs) : ∀ b, v.ownBlock = some b → base ≤ b ∧ b < w.heap.size := by
  obtain ⟨us, h, _⟩ := h
  exact h.lt
theorem OwnRow.form {α : Type} {c : Cod α} {e : TypeId} {base cb : Nat} {w : World} {v : Value} {xs : List α} (h : OwnRow c e base cb w v xs) : ∃ A cap, v = .slice A xs.length cap := by
  obtain ⟨us, h, _⟩ := h
  rcases h.2 with ⟨rfl, h0⟩ | ⟨g, cap, cur, rfl, _⟩
  · exact ⟨none, 0, by rw [h0]⟩
  · exact ⟨_, cap, rfl⟩
theorem DV.go {g p N n M x : Nat} {w wr w' : World} {t : ByteArray} {v : Value} {xs : List Val} (h : DV g p N n w x t v xs wr) (hg : g < w.heap.size) (hx : w.heap.size < x) (hs : Step g p M w w') (hb : wr.grownBy w' (some g)) : DV g p M n w x t v xs w' :=
  ⟨hs, (hb.block _ h.res.lt (by simp; omega)).trans h.res, (hb.block _ h.var.lt (by simp; omega)).trans h.var, h.own.grow (Nat.le_refl _) hb (by omega), h.size⟩

/-- A part has been appended. -/
theorem DV.put {g p N n x g4 cap4 : Nat} {w wa w4 : World} {t : ByteArray} {v : Value} {xs : List Val} {v1 : Val} (h : DV g p N n w x t v xs wa) (hg : g < w.heap.size) (hx : w.heap.size < x) (hgr : wa.grownBy w4 v.ownBlock) (ho : OwnRow (Cod.val (n + 1)) 32 (x + 1) (x + 1) w4 (.slice (some ⟨g4, 0, none⟩) (xs.length + 1) cap4) (xs ++ [v1]))
    (h1 : sizeOf' (fun _ => 1) (sizeV n) v1 ≤ (vmax n : Nat)) : DV g p N n w x t (.slice (some ⟨g4, 0, none⟩) (xs.length + 1) cap4) (xs ++ [v1]) (w4.setCell ⟨x, 2, none⟩ (.slice (some ⟨g4, 0, none⟩) (xs.length + 1) cap4)) := by
  have hne : ∀ b, b ≤ x → some b ≠ v.ownBlock := fun b hb he => by have := (h.own.own_lt b he.symm).1; omega
  have hst := h.step.grown.size
  have hvx := h.var.lt
  have hs4 : Step g p N w w4 := by
    obtain ⟨⟨q, hq, hr⟩, hgw⟩ := h.step
    refine ⟨⟨q, hq, hr.keep' fun i hi => hgr.block i (by omega) (hne i (by omega))⟩, ⟨hgr.os.trans hgw.os, hgr.tape.trans hgw.tape, hgr.output.trans hgw.output, Nat.le_trans hgw.size hgr.size, fun i hi hn => (hgr.block i (by omega) (hne i (by omega))).trans (hgw.block i hi hn)⟩⟩
  refine ⟨hs4.set_ (by omega) hg, (Below.heap_setCell _ _ _ _ (by simp; omega)).trans ((hgr.block _ h.res.lt (hne _ (by omega))).trans h.res), ?_, ?_, ?_⟩
  · have hv : Blk w4 x 32 #[.string t, .int .i64 0, v, .slice none 0 0] := (hgr.block _ hvx (hne _ (Nat.le_refl _))).trans h.var
    exact hv.set_ 2 _
  · exact ho.keep (Nat.le_refl _) (by simp [World.setCell]) fun i h1 _ => Below.heap_setCell _ _ _ _ (by simp; omega)
  · rw [sumL_push, List.length_append, List.length_singleton, Nat.add_mul, Nat.one_mul]
    have := h.size
    have e : sizeV (n + 1) v1 = sizeOf' (fun _ => 1) (sizeV n) v1 := rfl
    rw [e]
    omega

set_option maxRecDepth 100000 in
set_option maxHeartbeats 8000000 in
theorem value_any {ks : Ks} (hl : Lens ks) (he : Early ks) (F : Nat → Prop) (g : Nat) (kv : Value) : ∀ (n : Nat) (t : ByteArray) (w : World) (p : Nat), rank3 ks t ≤ n → n ≤ 9 → Rdr g p w → p + vmax n ≤ 4000000 → t.size ≤ 50 → Cod.recs.Sl F w kv ks → (∀ b, F b → b < w.heap.size ∧ b ≠ g) →
    Calls Try.prog 25 #[.pointer (some ⟨g, 0, none⟩), kv, .string t] w (ValueD g p (vmax n) n w)
  | 0, t, w, p, hr, _, h, hp, _, hv, hF => value_base F g p 0 kv ks t w h (by simp [vmax] at hp; omega) hv hF (by omega)
  | n + 1, t, w, p, hr, hn, h, hp, ht, hv, hF => by
    have IH := Lib.hid (value_any hl he F g kv n)
    have hvp := vmax_pos n
    have hvm : vmax (n + 1) = 1 + 4 * vmax n := rfl
    by_cases h0 : rank3 ks t = 0
    · exact (value_base F g p (n + 1) kv ks t w h (by omega) hv hF h0).mono fun e w' hq => hq.more (vmax_pos _)
    · have hkk : ∃ m k, kindOf t = some (m, k) ∧ hasB ks m k = true := by
        unfold rank3 at h0
        cases hk : kindOf t with
        | none => rw [hk] at h0; simp at h0
        | some mk =>
          obtain ⟨m, k⟩ := mk
          rw [hk] at h0
          simp only at h0
          split at h0
          · exact ⟨m, k, rfl, by assumption⟩
          · omega
      obtain ⟨m, k, hk, hh⟩ := hkk
      have hrk := rank3_kind hk hh
      obtain ⟨hml, hkl, hat⟩ := has_at hh
      have hfl := (he m k hh).1
      have hrf : ∀ f ∈ (recAt ks m k).fields, rank3 ks f ≤ n ∧ f.size ≤ 50 := fun f hf => ⟨by have := rank3_field hl he hh hf; omega, ((he m k hh).2 f hf).1⟩
      rw [hat] at hfl hrf
      have hgl := h.lt
      obtain ⟨w0, hw0⟩ : ∃ w0, w0 = w.alloc (.cells #[.string ⟨#[]⟩, .int .i64 0, .slice none 0 0, .slice none 0 0] 32) := ⟨_, rfl⟩
      have hb0 : Below w.heap.size w w0 := by rw [hw0]; exact (Below.refl _ _).alloc (Nat.le_refl _) _
      have hs0 : w0.heap.size = w.heap.size + 1 := by rw [hw0]; simp
      have hR0 : Blk w0 w.heap.size 32 #[.string ⟨#[]⟩, .int .i64 0, .slice none 0 0, .slice none 0 0] := by rw [hw0]; exact Blk.new _ _ _
      have HV := Lib.hid hv
      have HK := Lib.hid (l1Kind_yes t m k w0 hk)
      have HH := Lib.hid fun a => l1Has_any F _ ks m k (w0.drewN a) ((hv.keep fun b hb => hb0.block b (hF b hb).1).drewN a)
      rw [hh] at HH
      have HDV := Lib.hid fun (w1 : World) (a : Nat) (hw1 : w1 = w0.drewN a) => (show w1.heap.size = w.heap.size + 1 ∧ DV g p 0 n w w1.heap.size t (.slice none 0 0) [] (w1.alloc (.cells #[.string t, .int .i64 0, .slice none 0 0, .slice none 0 0] 32)) by
        subst hw1
        exact ⟨hs0, (((Step.start (N := 0) h).below hb0).below (below_drewN (Below.refl _ _) a)).below ((Below.refl _ _).alloc (Nat.le_refl _) _), Blk.alloc (w := w0.drewN a) hR0 _, Blk.new (w0.drewN a) _ _, OwnRow.nil_, by simp [sumL]⟩)
      obtain ⟨bk, offk, ck, uk, rfl, hFk, hkc, hkm, hk0, huk⟩ := hv.sl_at hml
      obtain ⟨rb, ro, rc, ur, hve, hFr, hrc, hrm, hr0, hr1, _, hur⟩ := huk.rec_at hkl
      obtain ⟨Af, cf, rfl, hfc, hfm, _⟩ := id hur
      subst hve
      unfold maxLen at hkm hrm hfm
      generalize hr' : ks[m][k] = rec at *
      have HUR := Lib.hid hur
      have HRF := Lib.hid hrf
      have hx0 : w.heap.size < w0.heap.size := by omega
      have Hw0 := Lib.hid hw0
      have hm0 : (0 : Int) ≤ m := by omega
      have hm1 : (m : Int) < ks.length := by omega
      have hk0' : (0 : Int) ≤ k := by omega
      have hk1' : (k : Int) < ks[m].length := by omega
      have h3 : t.size = 3 := by
        rcases Nat.decEq t.size 3 with h | h
        · rw [kindOf_size h] at hk; cases hk
        · exact h
      have hb' : (t.toList == [98]) = false := by
        rw [beq_eq_false_iff_ne]; intro h; have := congrArg List.length h; rw [length_toList] at this; simp at this; omega
      have ho' : (t.toList == [111]) = false := by
        rw [beq_eq_false_iff_ne]; intro h; have := congrArg List.length h; rw [length_toList] at this; simp at this; omega
      have Hk0 := Lib.hid hk0
      have Hr1 := Lib.hid hr1
      have H3 := Lib.hid h3
      have HF := Lib.hid hF
      clear hr' hw0 hb0 hs0 hR0 h hk hh hrk hat hur huk hrf hk0 hr0 hr1 hr h0 hv hF h3
      go_enter Try.func25, Try.ntmps25
      go_wp2_with fail
      rw [← Hw0.out]
      with_reducible refine HK.out.mono ?_
      rintro e w1 ⟨rfl, a, hw1⟩
      obtain ⟨hs1_, hd0⟩ := HDV.out w1 a hw1
      have HD0 := Lib.hid hd0
      have HHc := Lib.hid (HH.out a)
      rw [← hw1] at HHc
      have hs1 : w.heap.size < w1.heap.size := by omega
      clear hw1 hs1_ hd0
      go_wp2_with fail
      with_reducible refine HHc.out.mono ?_
      rintro e w1 ⟨rfl, rfl⟩
      go_wp2
      go_loopw [11] (fun i wr => ∃ (j : Nat) (v : Value) (xs : List Val), j ≤ rec.fields.length ∧ xs.length = j ∧ i = .int .i64 j ∧ Hid (DV g p (xs.length * vmax n) n w w1.heap.size t v xs wr)) (fun i _ => rec.fields.length - (intOf i).toNat)
      case atStart => exact ⟨0, _, [], Nat.zero_le _, rfl, rfl, by rw [show ([] : List Val).length * vmax n = 0 by simp]; exact HD0⟩
      case round =>
        obtain ⟨j, v, xs, hj, hxl, rfl, HDr⟩ := hrel
        have hxl1 : xs.length ≤ j := by omega
        have hxl2 : j ≤ xs.length := by omega
        clear hxl
        obtain ⟨Av, cv, rfl⟩ := HDr.out.own.form
        have hst := HDr.out.step.grown.size
        have z1 : wr.cell? ⟨bk, offk + m, none⟩ = some (.slice (some ⟨rb, ro, none⟩) ks[m].length rc) := (World.cell?_of_block (a := ⟨bk, offk + m, none⟩) (HDr.out.step.keeps HF.out bk hFk)).trans Hk0.out
        have z2 : wr.cell? ⟨rb, ro + k * 2 + 1, none⟩ = some (.slice Af rec.fields.length cf) := (World.cell?_of_block (a := ⟨rb, ro + k * 2 + 1, none⟩) (HDr.out.step.keeps HF.out rb hFr)).trans Hr1.out
        by_cases hlt : j < rec.fields.length
        · obtain ⟨fb, fo, fc, hvf, hFf, _, _, hf0, _⟩ := HUR.out.str_at hlt
          obtain ⟨rfl, rfl⟩ : Af = some ⟨fb, fo, none⟩ ∧ cf = fc := by simpa using hvf
          have z3 : wr.cell? ⟨fb, fo + j, none⟩ = some (.string rec.fields[j]) := (World.cell?_of_block (a := ⟨fb, fo + j, none⟩) (HDr.out.step.keeps HF.out fb hFf)).trans hf0
          obtain ⟨hfr, hfs⟩ := HRF.out _ (List.getElem_mem hlt)
          generalize rec.fields[j] = f at *
          obtain ⟨_, _, z0, _⟩ := HDr.out.var.c2
          obtain ⟨_, _, y0, _⟩ := HDr.out.var.f4
          have hjm : xs.length * vmax n ≤ 3 * vmax n := Nat.mul_le_mul_right _ (by omega)
          obtain ⟨⟨q, hq, hrd⟩, _⟩ := HDr.out.step
          have HIH := Lib.hid (IH.out f wr.drew q hfr (by omega) (show Rdr g q wr.drew from hrd) (by omega) hfs ((HV.out.keep (w' := wr) (HDr.out.step.keeps HF.out)).drew) (fun b hb => HDr.out.step.ups HF.out b hb))
          have j0 : (0 : Int) ≤ j := by omega
          have j1 : (j : Int) < rec.fields.length := by omega
          have hxr : w1.heap.size < wr.heap.size := HDr.out.var.lt
          clear hvf hf0 hfr hfs hrd
          go_wp2_with fail
          go_region_law (first
            | (refine step_append_run rfl _ _ _ rfl rfl rfl happ ?_)
            | (go_simp; go_at_call 25; (with_reducible refine HIH.out.mono ?_); rintro e wa ⟨v1, A1, c1, rfl, hp1, hl1, hV1, hz1, hS1⟩; go_must (
                have HDa := Lib.hid (show DV g p (xs.length * vmax n + vmax n) n w w1.heap.size t (.slice Av xs.length cv) xs wa from HDr.out.go hgl hs1 ⟨(by obtain ⟨⟨q', hq', hr'⟩, _⟩ := hS1; exact ⟨q', by omega, hr'⟩), grown_trans HDr.out.step.grown (grown_drew hS1.grown)⟩ (grown_drew hS1.grown));
                have ca := HDa.out.var.c2.2.2.1;
                have hxa := HDa.out.var.lt;
                have hown := HDr.out.own.own_lt;
                obtain ⟨g4, cap4, w4, happ, hO4, hg4, hge4, _⟩ := OwnRow.push (P := Try.prog) (c := Cod.val (n + 1)) 29 29 _ 72 Try.underlying29 info_val rfl (by show 0 < 4; omega) (by omega) HDa.out.own (by omega) (Nat.le_refl _) hxa 1 [.string v1.ty, .int .i64 v1.n, .slice A1 v1.parts.length c1, .slice none 0 0] v1 four_one ⟨_, _, rfl, hV1.mono (fun b hb => ⟨(by have := hb.1; have e : wr.drew.heap.size = wr.heap.size := rfl; omega), hb.2, fun hc => by have := (hown b hc).2; have h2 := hb.1; have e : wr.drew.heap.size = wr.heap.size := rfl; omega⟩)⟩;
                have HDp := Lib.hid (HDa.out.put hgl hs1 hg4 hO4 hz1);
                have hB4 : Blk w4 w1.heap.size 32 #[.string t, .int .i64 0, .slice Av xs.length cv, .slice none 0 0] := (hg4.block _ hxa (fun he => by have := (hown _ he.symm).1; omega)).trans HDa.out.var;
                have c4 := hB4.c2.2.2.1;
                have f4 := hB4.frozen 2;
                clear hO4 hg4 hB4 hown)))
          all_goals
            go_wp2
            go_roundw
            case rel =>
              refine ⟨j + 1, .slice (some ⟨g4, 0, none⟩) (xs.length + 1) cap4, xs ++ [v1], by omega, by simp; omega, by go_num, ?_⟩
              have e : (xs ++ [v1]).length * vmax n = xs.length * vmax n + vmax n := by rw [List.length_append, List.length_singleton, Nat.add_mul, Nat.one_mul]
              rw [e]
              exact HDp
            case measure => simp [intOf]; omega
        · have hjm : xs.length * vmax n ≤ 4 * vmax n := Nat.mul_le_mul_right _ (by omega)
          obtain ⟨z4, z5, z6, z7⟩ := HDr.out.var.c2
          obtain ⟨x0, x1, x2, x3⟩ := HDr.out.res.c2
          obtain ⟨y0, y1, y2, y3⟩ := HDr.out.res.f4
          obtain ⟨wE, hwE⟩ : ∃ wE, wE = (((wr.setCell ⟨w.heap.size, 0, none⟩ (.string t)).setCell ⟨w.heap.size, 1, none⟩ (.int .i64 0)).setCell ⟨w.heap.size, 2, none⟩ (.slice Av xs.length cv)).setCell ⟨w.heap.size, 3, none⟩ (.slice none 0 0) := ⟨_, rfl⟩
          have HRE := Lib.hid (show Blk wE w.heap.size 32 #[.string t, .int .i64 0, .slice Av xs.length cv, .slice none 0 0] by rw [hwE]; exact four_set HDr.out.res _ _ _ _)
          have hsE : wE.heap.size = wr.heap.size := by rw [hwE]; simp [World.setCell]
          have hkE : ∀ b, b ≠ w.heap.size → wE.heap[b]? = wr.heap[b]? := fun b h1 => by rw [hwE, Below.heap_setCell _ _ _ _ h1, Below.heap_setCell _ _ _ _ h1, Below.heap_setCell _ _ _ _ h1, Below.heap_setCell _ _ _ _ h1]
          have HQ := Lib.hid (show ValueD g p (vmax (n + 1)) (n + 1) w (.returned (.agg #[.string t, .int .i64 0, .slice Av xs.length cv, .slice none 0 0])) wE from
            ⟨.mk t 0 xs [], Av, cv, rfl, rfl, by show xs.length ≤ 4; omega, ⟨by show t.size ≤ maxLen; unfold maxLen; omega, by show I64 0; unfold I64; omega,
              ((HDr.out.own.sl (Nat.le_refl _)).keep (w' := wE) fun b hb => hkE b (by omega)).mono fun b hb => ⟨by omega, by omega⟩, Cod.Sl.nil_⟩,
              by show (1 : Int) + sumL (sizeV (n + 1)) xs ≤ _; have := HDr.out.size; rw [hvm]; omega,
              (by rw [hwE]; exact ((((HDr.out.step.set_ (Nat.le_refl _) hgl).set_ (Nat.le_refl _) hgl).set_ (Nat.le_refl _) hgl).set_ (Nat.le_refl _) hgl).more (by omega))⟩)
          have HwE := Lib.hid hwE
          have i0 : ¬ (j : Int) < rec.fields.length := by omega
          clear hwE hkE hsE
          go_wp2
          rw [← HwE.out]
          obtain ⟨r0, r1, r2, r3⟩ := HRE.out.c2
          exact bodyPost_ret (v := .agg #[.string t, .int .i64 0, .slice Av xs.length cv, .slice none 0 0]) (by simp [results, Try.results25, go_sem, r0, r1, r2, r3]) rfl HQ.out
end Go.Proofs.Ytelhjdccfomafaa
