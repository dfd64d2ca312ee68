/- The program's VaultsCount. -/
import Derived.Test.YthkdkefkgmmoiaaYi
import Derived.Test.YthkdkefkgmmoiaaWu
namespace Go.Proofs.Ythkdkefkgmmoiaa
open Go.RowKit
attribute [local go_sem] Oper.semAt_some

set_option maxRecDepth 100000 in
set_option maxHeartbeats 8000000 in
theorem countKept_any (d : Nat) (F : Nat → Prop) (vl : Value) (xs : List KepR) (kind : ByteArray) (w : World) (h : (Cod.kept (Cod.val d)).Sl F w vl xs) (hF : ∀ b, F b → b < w.heap.size) (h36 : xs.length ≤ 36) (hc : ∀ x ∈ xs, cntV kind (d + 1) x.v ≤ 2000000) :
    Calls Try.prog 56 #[vl, .string kind] w fun e w' => e = .returned (.int .i64 (sumK kind d xs)) ∧ Below w.heap.size w w' := by
  obtain ⟨Al, cap, rfl, hlc, hcm, _⟩ := id h
  unfold maxLen at hcm
  have HFo := Lib.hid hF
  obtain ⟨w6, hw6⟩ : ∃ u, u = (((w.alloc (.cells #[.string kind] 9)).alloc (.cells #[.int .i64 0] 3)).alloc (.cells #[.slice Al xs.length cap] 57)).alloc (.cells #[.slice (some ⟨w.heap.size + 1 + 1, 0, none⟩) 1 1] 147) := ⟨_, rfl⟩
  have hs6 : w6.heap.size = w.heap.size + 4 := by rw [hw6]; simp
  have hb6 : Below w.heap.size w w6 := by rw [hw6]; exact ((((Below.refl _ _).alloc (Nat.le_refl _) _).alloc (by simp) _).alloc (by simp; omega) _).alloc (by simp; omega) _
  have e1 : Blk w6 (w.heap.size + 1) 3 #[.int .i64 0] := by
    rw [hw6]
    have := ((Blk.new (w.alloc (.cells #[.string kind] 9)) 3 #[.int .i64 0]).alloc (.cells #[.slice Al xs.length cap] 57)).alloc (.cells #[.slice (some ⟨w.heap.size + 1 + 1, 0, none⟩) 1 1] 147)
    simpa using this
  have e2 : Blk w6 (w.heap.size + 1 + 1) 57 #[.slice Al xs.length cap] := by
    rw [hw6]
    have := (Blk.new ((w.alloc (.cells #[.string kind] 9)).alloc (.cells #[.int .i64 0] 3)) 57 #[.slice Al xs.length cap]).alloc (.cells #[.slice (some ⟨w.heap.size + 1 + 1, 0, none⟩) 1 1] 147)
    simpa using this
  have e3 : Blk w6 (w.heap.size + 1 + 1 + 1) 147 #[.slice (some ⟨w.heap.size + 1 + 1, 0, none⟩) 1 1] := by
    rw [hw6]
    have := Blk.new (((w.alloc (.cells #[.string kind] 9)).alloc (.cells #[.int .i64 0] 3)).alloc (.cells #[.slice Al xs.length cap] 57)) 147 #[.slice (some ⟨w.heap.size + 1 + 1, 0, none⟩) 1 1]
    simpa using this
  have e4 : Blk w6 w.heap.size 9 #[.string kind] := by
    rw [hw6]
    exact (((Blk.new w 9 #[.string kind]).alloc _).alloc _).alloc _
  have hF6 : ∀ b, F b → b < w6.heap.size := fun b hb => by have := hF b hb; omega
  have hP6 : Pieces d F w6 (w.heap.size + 1 + 1) [xs] := pieces_one e2 (h.keep (below_keeps hb6 hF))
  have hbw6 : Below w.heap.size w w6 := hb6
  clear h hF
  refine (callsIn_wide (n := 6)).1 ?_
  refine callsIn_of_wp_marks Try.func56 rfl trivial ?_ rfl
  simp only [Try.ntmps56, List.size_toArray, List.length_cons, List.length_nil, Nat.reduceAdd, Nat.reduceSub, Array.replicate_succ, Array.replicate_zero, List.push_toArray, List.append_toArray, List.nil_append, List.cons_append]
  gi_wp2_with (refine ⟨trivial, ?_⟩; gi_at_call 74; refine (keptIn_any _ _ _ _ _).mono ?_; rintro e w' ⟨rfl, rfl⟩)
  rw [← hw6]
  refine wpIn_rangeFunc_ownH rfl (by omega) (gf := 97) (lb := #[.pointer (some ⟨w.heap.size + 1 + 1 + 1, 0, none⟩)]) rfl trivial (enters_of Try.func97 (by kernel_rfl) rfl)
    (keptIn_stops 5 d (by omega) F (fun x => cntV kind (d + 1) x.v ≤ 2000000) w6 (w.heap.size + 1 + 1 + 1) (w.heap.size + 1 + 1) 1 [xs] (by simp) hP6 (fun x hx => hc x (by simpa using hx)) hF6 (by omega) (by omega) (e3.cell 0))
    (fun h k => KeepsIt.trans h k) (keeps_put (fun b hb => by rcases hb with h | h | h; exact hF6 b h; omega; omega)) (Below.refl _ _) (fun _ => rfl)
    (fun pre W => (Blk W (w.heap.size + 1) 3 #[.int .i64 (sumK kind d (pre.map KEl.k))] ∧ Blk W w.heap.size 9 #[.string kind]) ∧ (Below w.heap.size w W ∧ w6.heap.size ≤ W.heap.size))
    (fun _ _ _ => False)
    (OwnFrom.and (OwnFrom.and (Own.from (blk_own _ _ _) _) (Own.from (blk_own _ _ _) _)) (OwnFrom.and (ownFrom_below (Nat.le_refl _) (by omega)) from_size))
    (fun c _ _ _ _ h _ _ => h)
    ⟨⟨e1, e4⟩, hbw6, Nat.le_refl _⟩
    (fun x a' W => ∃ Bx, w.heap.size + 1 + 1 + 1 < Bx ∧ Blk W Bx 97 #[.int .i64 x.k.o, .string x.k.v.ty, .int .i64 x.k.v.n, .slice x.A x.k.v.parts.length x.cA, .slice x.B x.k.v.path.length x.cB] ∧ a' = { tmps := #[.slice Al xs.length cap, .string kind, undef, .pointer (some ⟨w.heap.size, 0, none⟩), .int .i64 0, .pointer (some ⟨w.heap.size + 1, 0, none⟩), .pointer (some ⟨Bx, 0, none⟩), .slice Al xs.length cap, .slice (some ⟨w.heap.size + 1 + 1, 0, none⟩) 1 1, .func (.func 97) #[] #[.pointer (some ⟨w.heap.size + 1 + 1 + 1, 0, none⟩)], x.val, undef, undef, undef, undef, undef, undef, undef], defers := [] })
    ?hax ?assign ?body ?done ?stop
  case hax =>
    rintro x a' _ W W' row ⟨Bx, h1, h2, h3⟩ hg' hr
    exact ⟨Bx, h1, blk_own Bx _ (fun _ : Unit => _) () W W' row h2 hg' (fun r e => (hr r e).2), h3⟩
  case assign =>
    rintro l pre ⟨k, Aa, ca, Ba, cb, ho, hv, hgd⟩ W K ⟨⟨h1, h2⟩, h5, h6⟩ hK
    dsimp only [KEl.val] at hK ⊢
    gi_wp2
    have hb := (Below.refl W.heap.size W).alloc (Nat.le_refl _) (.cells #[.int .i64 k.o, .string k.v.ty, .int .i64 k.v.n, .slice Aa k.v.parts.length ca, .slice Ba k.v.path.length cb] 97)
    exact hK _ _ ((keeps_below hb).from _) (keeps_it hb (fun b hb => by rcases hb with h | h | h; have := hF6 b h; omega; omega; omega)) ⟨⟨h1.alloc _, h2.alloc _⟩, h5.trans (hb.mono h5.size), Nat.le_trans h6 hb.size⟩ ⟨W.heap.size, by omega, Blk.new _ _ _, rfl⟩
  case body =>
    rintro l pre ⟨k, Aa, ca, Ba, cb, ho, hv, hgd⟩ a' W hl ⟨r, hr⟩ ⟨⟨hbox, hkd⟩, hB, hsz⟩ ⟨Bx, hBx, hx, rfl⟩ hlt
    dsimp only [KEl.val] at hx ⊢
    have hkw : ∀ b, b < w.heap.size → W.heap[b]? = w6.heap[b]? := fun b hb => (hB.block b hb).trans (hbw6.block b hb).symm
    have hFw : ∀ b, F b → b < w.heap.size := HFo.out
    have hnb := sumK_bound (kind := kind) (d := d) (xs := pre.map KEl.k) (fun x hx => by
      obtain ⟨y, hy, rfl⟩ := List.mem_map.1 hx
      exact y.hg)
    have hpl : (pre.map KEl.k).length ≤ 36 := by
      have h1 : pre.length < ([xs] : List (List KepR)).flatten.length := hlt
      simp at h1 ⊢
      omega
    have hcp := cntV_pos kind (d + 1) k.v
    have HSn := Lib.hid (show sumK kind d ((pre ++ [⟨k, Aa, ca, Ba, cb, ho, hv, hgd⟩] : List (KEl d F w6 (fun x => cntV kind (d + 1) x.v ≤ 2000000))).map KEl.k) = sumK kind d (pre.map KEl.k) + cntV kind (d + 1) k.v by rw [List.map_append]; exact sumK_snoc k _)
    have hC : Calls Try.prog 77 #[.agg #[.string k.v.ty, .int .i64 k.v.n, .slice Aa k.v.parts.length ca, .slice Ba k.v.path.length cb], .string kind] W.drew fun e w' => e = .returned (.int .i64 (cntV kind (d + 1) k.v)) ∧ Below W.heap.size W.drew w' :=
      countRecords_any kind d F Aa Ba _ _ ca cb k.v W.drew (VRd.keep (w := w6) (w' := W.drew) (fun b hb => hkw b (hFw b hb)) hv) (fun b hb => by have := hF6 b hb; show b < W.heap.size; omega) hgd
    obtain ⟨n, hn⟩ : ∃ n, n = sumK kind d (pre.map KEl.k) := ⟨_, rfl⟩
    obtain ⟨c, hcc⟩ : ∃ c, c = cntV kind (d + 1) k.v := ⟨_, rfl⟩
    rw [← hn] at hbox hnb HSn
    rw [← hcc] at hcp HSn hC
    have hgc : c ≤ 2000000 := by rw [hcc]; exact hgd
    have hw1 : IntKind.i64.wrap (n + c) = n + c := by
      simp only [IntKind.wrap, IntKind.bits, IntKind.signed]
      simp
      omega
    have hbl : w.heap.size + 1 < W.heap.size := hbox.lt
    have hxl : Bx < W.heap.size := hx.lt
    have hkl : w.heap.size < W.heap.size := hkd.lt
    have HC : Hid (Calls Try.prog 77 #[.agg #[.string k.v.ty, .int .i64 k.v.n, .slice Aa k.v.parts.length ca, .slice Ba k.v.path.length cb], .string kind] W.drew fun e w1 => e = .returned (.int .i64 c) ∧ (w1.cell? ⟨w.heap.size + 1, 0, none⟩ = some (.int .i64 n) ∧ w1.frozen? ⟨w.heap.size + 1, 0, none⟩ = false) ∧ Hid (Below W.heap.size W w1)) := Lib.hid (hC.mono fun e w1 ⟨he, hb1⟩ => by
      have hb1' : Blk w1 (w.heap.size + 1) 3 _ := (show Blk W.drew (w.heap.size + 1) 3 _ from hbox).below hb1 hbl
      exact ⟨he, ⟨hb1'.cell 0, hb1'.frozen 0⟩, (below_draw W).trans hb1⟩)
    have HDone := Lib.hid (fun (w1 : World) (hb1 : Below W.heap.size W w1) => show KeepsFrom w6.heap.size W (w1.setCell ⟨w.heap.size + 1, 0, none⟩ (.int .i64 (n + c))) ∧ KeepsIt F (w.heap.size + 1 + 1 + 1) (w.heap.size + 1 + 1) W (w1.setCell ⟨w.heap.size + 1, 0, none⟩ (.int .i64 (n + c))) ∧ (Blk (w1.setCell ⟨w.heap.size + 1, 0, none⟩ (.int .i64 (n + c))) (w.heap.size + 1) 3 #[.int .i64 (n + c)] ∧ Blk (w1.setCell ⟨w.heap.size + 1, 0, none⟩ (.int .i64 (n + c))) w.heap.size 9 #[.string kind]) ∧ (Below w.heap.size w (w1.setCell ⟨w.heap.size + 1, 0, none⟩ (.int .i64 (n + c))) ∧ w6.heap.size ≤ (w1.setCell ⟨w.heap.size + 1, 0, none⟩ (.int .i64 (n + c))).heap.size) from
      have hsz1 := hb1.size
      ⟨((keeps_below hb1).trans (KeepsOthers.setCell _ _ _)).from _,
        fun b hb => by
          have h0 : b < W.heap.size ∧ b ≠ w.heap.size + 1 := by
            rcases hb with h | h | h
            · have := hFw b h; omega
            · omega
            · omega
          exact (Below.heap_setCell _ _ _ _ h0.2).trans (hb1.block b h0.1),
        ⟨(hbox.below hb1 hbl).set_ 0 _, (show (w1.setCell _ _).heap[w.heap.size]? = _ from (Below.heap_setCell _ _ _ _ (by simp)).trans (hkd.below hb1 hkl))⟩,
        (hB.trans (hb1.mono hB.size)).setCell (by simp) _, by simp [World.setCell]; omega⟩)
    have HXb := Lib.hid hx
    obtain ⟨x0, x1, x2, x3, x4⟩ := hx.c5
    have b0 : W.cell? ⟨w.heap.size + 1, 0, none⟩ = some (.int .i64 n) := hbox.cell 0
    have k0 : W.cell? ⟨w.heap.size, 0, none⟩ = some (.string kind) := hkd.cell 0
    have HSx := Lib.hid (fun (w' : World) (hb : Below W.heap.size W w') => show (w'.cell? ⟨Bx, 1, none⟩ = some (.string k.v.ty) ∧ w'.cell? ⟨w.heap.size, 0, none⟩ = some (.string kind)) ∧ w'.cell? ⟨Bx, 2, none⟩ = some (.int .i64 k.v.n) ∧ w'.cell? ⟨Bx, 3, none⟩ = some (.slice Aa k.v.parts.length ca) ∧ w'.cell? ⟨Bx, 4, none⟩ = some (.slice Ba k.v.path.length cb) from ⟨⟨(World.cell?_of_block (a := ⟨Bx, 1, none⟩) (hb.block _ hxl)).trans x1, (World.cell?_of_block (a := ⟨w.heap.size, 0, none⟩) (hb.block _ hkl)).trans k0⟩, (World.cell?_of_block (a := ⟨Bx, 2, none⟩) (hb.block _ hxl)).trans x2, (World.cell?_of_block (a := ⟨Bx, 3, none⟩) (hb.block _ hxl)).trans x3, (World.cell?_of_block (a := ⟨Bx, 4, none⟩) (hb.block _ hxl)).trans x4⟩)
    have HSy := Lib.hid (fun (w1 : World) (hb : Below W.heap.size W w1) => show ((w1.setCell ⟨w.heap.size + 1, 0, none⟩ (.int .i64 (n + c))).cell? ⟨Bx, 1, none⟩ = some (.string k.v.ty) ∧ (w1.setCell ⟨w.heap.size + 1, 0, none⟩ (.int .i64 (n + c))).cell? ⟨w.heap.size, 0, none⟩ = some (.string kind)) ∧ (w1.setCell ⟨w.heap.size + 1, 0, none⟩ (.int .i64 (n + c))).cell? ⟨Bx, 2, none⟩ = some (.int .i64 k.v.n) ∧ (w1.setCell ⟨w.heap.size + 1, 0, none⟩ (.int .i64 (n + c))).cell? ⟨Bx, 3, none⟩ = some (.slice Aa k.v.parts.length ca) ∧ (w1.setCell ⟨w.heap.size + 1, 0, none⟩ (.int .i64 (n + c))).cell? ⟨Bx, 4, none⟩ = some (.slice Ba k.v.path.length cb) from
      have e1 : (w1.setCell ⟨w.heap.size + 1, 0, none⟩ (.int .i64 (n + c))).heap[Bx]? = W.heap[Bx]? := (Below.heap_setCell _ _ _ _ (by simp; omega)).trans (hb.block _ hxl)
      have e2 : (w1.setCell ⟨w.heap.size + 1, 0, none⟩ (.int .i64 (n + c))).heap[w.heap.size]? = W.heap[w.heap.size]? := (Below.heap_setCell _ _ _ _ (by simp)).trans (hb.block _ hkl)
      ⟨⟨(World.cell?_of_block (a := ⟨Bx, 1, none⟩) e1).trans x1, (World.cell?_of_block (a := ⟨w.heap.size, 0, none⟩) e2).trans k0⟩, (World.cell?_of_block (a := ⟨Bx, 2, none⟩) e1).trans x2, (World.cell?_of_block (a := ⟨Bx, 3, none⟩) e1).trans x3, (World.cell?_of_block (a := ⟨Bx, 4, none⟩) e1).trans x4⟩)
    have hmx : Try.prog.follows .mixedOrders = true := by kernel_rfl
    have HB0 := Lib.hid ((Below.refl W.heap.size W).trans (below_draw W))
    clear hbox hkd hB hx hC hr hn hcc hP6 e1 e2 e3 e4 hw6 hb6 hbw6 hkw x0
    gi_wp2
    refine wpIn_region_round (S := fun w' => (w'.cell? ⟨Bx, 1, none⟩ = some (.string k.v.ty) ∧ w'.cell? ⟨w.heap.size, 0, none⟩ = some (.string kind)) ∧ w'.cell? ⟨Bx, 2, none⟩ = some (.int .i64 k.v.n) ∧ w'.cell? ⟨Bx, 3, none⟩ = some (.slice Aa k.v.parts.length ca) ∧ w'.cell? ⟨Bx, 4, none⟩ = some (.slice Ba k.v.path.length cb)) hmx (by kernel_rfl) (fun ⟨a, w, h⟩ => (show False from h)) (HSx.out _ HB0.out) (fun hHeld => ?_)
    refine wpAnyH_take (i := 1) (v := .pointer (some ⟨Bx, 1, none⟩)) rfl (by kernel_rfl) (by kernel_rfl) (by kernel_rfl) (fun _ _ _ h => h) (Or.inl ⟨by rfl, ?_⟩) (by assumption) ?_
    · intro w hSw
      go_simp
    simp only [Act.put, List.setIfInBounds_toArray, List.set_cons_zero, List.set_cons_succ]
    refine wpAnyH_take (i := 2) (v := .agg #[.string k.v.ty, .int .i64 k.v.n, .slice Aa k.v.parts.length ca, .slice Ba k.v.path.length cb]) rfl (by kernel_rfl) (by kernel_rfl) (by kernel_rfl) (fun _ _ _ h => h) (Or.inl ⟨by rfl, ?_⟩) (by assumption) ?_
    · rintro w' ⟨⟨s1, s0⟩, s2, s3, s4⟩
      go_simp
    simp only [Act.put, List.setIfInBounds_toArray, List.set_cons_zero, List.set_cons_succ]
    refine wpAnyH_take (i := 3) (v := .string kind) rfl (by kernel_rfl) (by kernel_rfl) (by kernel_rfl) (fun _ _ _ h => h) (Or.inl ⟨by rfl, ?_⟩) (by assumption) ?_
    · rintro w' ⟨⟨s1, s0⟩, s2, s3, s4⟩
      go_simp
    simp only [Act.put, List.setIfInBounds_toArray, List.set_cons_zero, List.set_cons_succ]
    refine wpAnyH_ready (rs := [0, 4]) (by kernel_rfl) (by simp) ?_
    refine AllReadyH.cons rfl (fun K hK => ?_) (AllReadyH.cons rfl (fun K hK => ?_) AllReadyH.nil)
    · go_simp
      refine hK.out _ _ (HSx.out _ HB0.out) (fun hHeld => ?_)
      clear hK K
      try simp only [Act.put, List.setIfInBounds_toArray, List.set_cons_zero, List.set_cons_succ]
      refine wpAnyH_ready (rs := [4]) (by kernel_rfl) (by simp) ?_
      refine AllReadyH.cons rfl (fun K hK => ?_) AllReadyH.nil
      go_simp
      with_reducible refine HC.out.mono ?_
      rintro e w1 ⟨rfl, ⟨q0, q1⟩, hb1⟩
      refine hK.out _ _ (HSx.out _ hb1.out) (fun hHeld => ?_)
      clear hK K
      try simp only [Act.put, List.setIfInBounds_toArray, List.set_cons_zero, List.set_cons_succ]
      refine wpAnyH_ready (rs := [5]) (by kernel_rfl) (by simp) ?_
      refine AllReadyH.cons rfl (fun K hK => ?_) AllReadyH.nil
      go_simp
      refine hK.out _ _ (HSx.out _ hb1.out) (fun hHeld => ?_)
      clear hK K
      try simp only [Act.put, List.setIfInBounds_toArray, List.set_cons_zero, List.set_cons_succ]
      refine wpAnyH_ready (rs := [6]) (by kernel_rfl) (by simp) ?_
      refine AllReadyH.cons rfl (fun K hK => ?_) AllReadyH.nil
      go_simp
      refine hK.out _ _ (HSy.out _ hb1.out) (fun hHeld => ?_)
      clear hK K
      try simp only [Act.put, List.setIfInBounds_toArray, List.set_cons_zero, List.set_cons_succ]
      refine wpAnyH_done (by kernel_rfl) ?_ _
      have hd := HDone.out _ hb1.out
      exact ⟨hd.1, hd.2.1, ⟨by rw [HSn.out]; exact hd.2.2.1.1, hd.2.2.1.2⟩, hd.2.2.2⟩
    · go_simp
      with_reducible refine HC.out.mono ?_
      rintro e w1 ⟨rfl, ⟨q0, q1⟩, hb1⟩
      refine hK.out _ _ (HSx.out _ hb1.out) (fun hHeld => ?_)
      clear hK K
      try simp only [Act.put, List.setIfInBounds_toArray, List.set_cons_zero, List.set_cons_succ]
      refine wpAnyH_ready (rs := [0]) (by kernel_rfl) (by simp) ?_
      refine AllReadyH.cons rfl (fun K hK => ?_) AllReadyH.nil
      go_simp
      refine hK.out _ _ (HSx.out _ hb1.out) (fun hHeld => ?_)
      clear hK K
      try simp only [Act.put, List.setIfInBounds_toArray, List.set_cons_zero, List.set_cons_succ]
      refine wpAnyH_ready (rs := [5]) (by kernel_rfl) (by simp) ?_
      refine AllReadyH.cons rfl (fun K hK => ?_) AllReadyH.nil
      go_simp
      refine hK.out _ _ (HSx.out _ hb1.out) (fun hHeld => ?_)
      clear hK K
      try simp only [Act.put, List.setIfInBounds_toArray, List.set_cons_zero, List.set_cons_succ]
      refine wpAnyH_ready (rs := [6]) (by kernel_rfl) (by simp) ?_
      refine AllReadyH.cons rfl (fun K hK => ?_) AllReadyH.nil
      go_simp
      refine hK.out _ _ (HSy.out _ hb1.out) (fun hHeld => ?_)
      clear hK K
      try simp only [Act.put, List.setIfInBounds_toArray, List.set_cons_zero, List.set_cons_succ]
      refine wpAnyH_done (by kernel_rfl) ?_ _
      have hd := HDone.out _ hb1.out
      exact ⟨hd.1, hd.2.1, ⟨by rw [HSn.out]; exact hd.2.2.1.1, hd.2.2.1.2⟩, hd.2.2.2⟩
  case done =>
    rintro D ys W hD hS ⟨⟨hbox, hkd⟩, hB, hsz⟩ hK
    have hys : ys.map KEl.k = xs := by rw [hS]; simp
    rw [hys] at hbox
    have b0 : W.cell? ⟨w.heap.size + 1, 0, none⟩ = some (.int .i64 (sumK kind d xs)) := hbox.cell 0
    clear hbox hkd
    gi_wp2
    refine ⟨by simp, .inl ⟨_, _, rfl, run_takeDeferred hK, ?_⟩⟩
    exact ⟨_, results_tmp rfl _ _ _, rfl, hB.trans (belowK_b (w := w) (Nat.le_refl _) W D _ _ (by omega) hK rfl rfl)⟩
  case stop =>
    rintro D c pre W _ _ h _
    exact h.elim

set_option maxRecDepth 100000 in
set_option maxHeartbeats 8000000 in
theorem implVaultsCount_any {ks : Ks} (d : Nat) (F : Nat → Prop) (kv vl : Value) (xs : List KepR) (kind : ByteArray) (w : World) (hks : Cod.recs.Sl F w kv ks) (h : (Cod.kept (Cod.val d)).Sl F w vl xs) (hF : ∀ b, F b → b < w.heap.size) (hc : ∀ x ∈ xs, cntV kind (d + 1) x.v ≤ 2000000) :
    Calls Try.prog 28 #[kv, vl, .string kind] w fun e w' => e = .returned (.int .i64 (cntR ks d xs kind)) ∧ Below w.heap.size w w' := by
  have HV := Lib.hid h
  have HT := Lib.hid (tableOf_any F kv ks w hks hF)
  have HF := Lib.hid hF
  have Hc := Lib.hid hc
  obtain ⟨Ak, ck, rfl, _⟩ := hks
  obtain ⟨Al, cap, rfl, hlc, hcm, _⟩ := h
  unfold maxLen at hcm
  clear hF hc
  go_enter Try.func28, Try.ntmps28
  go_wp2_with fail
  refine HT.out.mono ?_
  rintro e w1 ⟨hb, ⟨hk, rfl⟩ | ⟨hk, b, l, rfl, hm, ht, hbl⟩⟩
  · have HN := Lib.hid (cntR_bad (d := d) (xs := xs) (kind := kind) (show vOk ks d xs = false by unfold vOk; rw [hk]; rfl))
    have HB := Lib.hid hb
    clear hk hb
    go_wp2
    go_ret
    exact ⟨ret_int HN.out.symm, HB.out⟩
  · have hT1 : Table F ks b w1 := ⟨l, hm.imp (fun _ _ h => h.keep (below_keeps hb HF.out)), ht⟩
    have hV1 := HV.out.keep (w' := w1) (below_keeps hb HF.out)
    have hF1 := below_goF HF.out hb
    have HOk := Lib.hid (tabVaultsOk_any d F b _ xs w1 (ables_in hk) hT1 hV1 hF1)
    cases hok : okList ks d xs with
    | false =>
      have HN := Lib.hid (cntR_bad (kind := kind) (show vOk ks d xs = false by unfold vOk; rw [hok, Bool.and_false]))
      rw [hok] at HOk
      have HB := Lib.hid hb
      clear hok hk hm ht hb hT1 hV1 hF1
      go_wp2_with fail
      refine HOk.out.mono ?_
      rintro e w2 ⟨rfl, hb2⟩
      have HB2 := Lib.hid (HB.out.trans (hb2.mono HB.out.size))
      clear hb2
      go_wp2
      go_ret
      exact ⟨ret_int HN.out.symm, HB2.out⟩
    | true =>
      have hvo : vOk ks d xs = true := by unfold vOk; rw [hok, hk]; rfl
      rw [hok] at HOk
      have HB := Lib.hid hb
      have HT1 := Lib.hid hT1
      have HV1 := Lib.hid hV1
      have HF1 := Lib.hid hF1
      clear hok hk hm ht hb hT1 hV1 hF1
      go_wp2_with fail
      refine HOk.out.mono ?_
      rintro e w2 ⟨rfl, hb2⟩
      have hbW : Below w.heap.size w w2 := HB.out.trans (hb2.mono HB.out.size)
      have hT2 : Table F ks b w2 := HT1.out.keep (below_keeps hb2 HF1.out) (hb2.block b HT1.out.lt)
      rcases hT2.find Try.underlying101 Try.underlying9 _ (zero_rec _) kind with ⟨g1, g2⟩ | ⟨mm, kk, A1, c1, hkn, hh, hS, hI, g2⟩
      · have HN := Lib.hid (cntR_no (ks := ks) (d := d) (xs := xs) (kind := kind) (by
          unfold kindB
          cases hq : kindOf kind with
          | none => rfl
          | some mk => exact g1 mk.1 mk.2 hq))
        have HBW := Lib.hid hbW
        clear hb2 hbW hT2 g1
        go_wp2
        go_ret
        exact ⟨ret_int HN.out.symm, HBW.out.alloc HBW.out.size _⟩
      · have hkb : kindB ks kind = true := by unfold kindB; rw [hkn]; exact hh
        have HN := Lib.hid (cntR_yes (d := d) (xs := xs) hvo hkb)
        have h36 := (vOk_ables hvo).2
        obtain ⟨w3, hw3⟩ : ∃ u, u = w2.alloc (.cells #[.int .i64 (recAt ks mm kk).able, .slice A1 (recAt ks mm kk).fields.length c1] 65) := ⟨_, rfl⟩
        have hb3 : Below w2.heap.size w2 w3 := by rw [hw3]; exact (Below.refl _ _).alloc (Nat.le_refl _) _
        have HBW := Lib.hid (hbW.trans (hb3.mono hbW.size))
        have hF2 := below_goF HF1.out hb2
        have HC := Lib.hid (countKept_any d F _ xs kind w3 ((HV1.out.keep (below_keeps hb2 HF1.out)).keep (below_keeps hb3 hF2)) (below_goF hF2 hb3) h36 Hc.out)
        have Hw3 := Lib.hid hw3
        clear hkn hh hS hI hT2 hb2 hbW hkb hw3 hb3 hF2 h36 hvo
        go_wp2_with fail
        rw [← Hw3.out]
        refine HC.out.mono ?_
        rintro e w4 ⟨rfl, hb4⟩
        have HB4 := Lib.hid (HBW.out.trans (hb4.mono HBW.out.size))
        clear hb4
        go_wp2
        go_ret
        exact ⟨ret_int HN.out.symm, HB4.out⟩
end Go.Proofs.Ythkdkefkgmmoiaa
