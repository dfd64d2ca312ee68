/- The program's VaultsText. Ahead of it: good values are small, and so are the lines of their texts. -/
import Derived.Test.YtemlpiokdoeeeaaDoorYo
import Derived.Test.YtemlpiokdoeeeaaDoorYf
import Derived.Test.YtemlpiokdoeeeaaDoorWt
import Derived.Deep.RegionHeld3
namespace Go.Proofs.YtemlpiokdoeeeaaDoor.Small
open Go.RowKit Go.Proofs.YtemlpiokdoeeeaaDoor
attribute [local go_sem] Oper.semAt_some

theorem rec_types {t : ByteArray} {m k : Nat} (hk : kindOf t = some (m, k)) : (t.toList == [110]) = false ∧ (t.toList == [98]) = false ∧ (t.toList == [111]) = false := by
  have hb : baseB t = false := by
    cases hb : baseB t with
    | false => rfl
    | true => rw [kindOf_base hb] at hk; cases hk
  unfold baseB at hb
  simp only [Bool.or_eq_false_iff] at hb
  exact ⟨hb.1.1, hb.1.2, hb.2⟩
theorem rec_few {ks : Ks} (h : kindsOk ks = true) {m k : Nat} (hh : hasB ks m k = true) : (recAt ks m k).fields.length ≤ 3 := by
  have := ok_rec h hh
  unfold recB at this
  simp only [Bool.and_eq_true, decide_eq_true_eq] at this
  exact this.1.2
theorem base_plain {ks : Ks} {g : Val → Bool} {u : Val} (h : okOf ks g u = true) (c : (u.ty.toList == [110]) = true ∨ (u.ty.toList == [98]) = true ∨ (u.ty.toList == [111]) = true) : u.parts = [] ∧ u.path = [] := by
  unfold okOf at h
  have hp : plainV u = true → u.parts = [] ∧ u.path = [] := fun hp => by
    unfold plainV at hp
    simp only [Bool.and_eq_true, decide_eq_true_eq] at hp
    exact ⟨List.eq_nil_of_length_eq_zero hp.1, List.eq_nil_of_length_eq_zero hp.2⟩
  split at h
  · simp only [Bool.and_eq_true] at h; exact hp h.1
  · split at h
    · simp only [Bool.and_eq_true] at h; exact hp h.1
    · split at h
      · simp only [Bool.and_eq_true] at h; exact hp h.1
      · rename_i k1 k2 k3
        rcases c with c | c | c
        · exact absurd c k1
        · exact absurd c k2
        · exact absurd c k3

def idx (t : ByteArray) : Nat := match kindOf t with | none => 0 | some (m, k) => 3 * m + k + 1
theorem ok_mod {ks : Ks} (h : kindsOk ks = true) (m : Nat) (hm : m < ks.length) : (ks[m]).length ≤ 3 := by
  unfold kindsOk kindsBad at h
  have h := of_decide_eq_true h
  split at h
  · simp at h
  · have := (badOut_neg _ _ h m (Nat.zero_le _) (by omega)).1
    simpa [List.getD, hm] using this
theorem idx_le {ks : Ks} (h : kindsOk ks = true) {t : ByteArray} (hk : Known ks t) : idx t ≤ 9 := by
  unfold idx
  split
  · omega
  · rename_i m k hmk
    obtain ⟨hm, hk2, _⟩ := has_at (hk m k hmk)
    have h1 := ok_len h
    have h2 := ok_mod h m hm
    omega
theorem idx_field {ks : Ks} (h : kindsOk ks = true) {m k : Nat} (hh : hasB ks m k = true) {f : ByteArray} (hf : f ∈ (recAt ks m k).fields) : idx f < 3 * m + k + 1 := by
  have hfb := ok_field h hh hf
  unfold fieldB at hfb
  unfold idx
  split at hfb
  · rename_i hk; rw [hk]; simp
  · rename_i am ak hk
    rw [hk]
    simp only [Bool.and_eq_true, Bool.or_eq_true, decide_eq_true_eq] at hfb
    obtain ⟨hm2, hk2, _⟩ := has_at hfb.1
    have h2 := ok_mod h am hm2
    have h3 := hfb.2
    show 3 * am + ak + 1 < 3 * m + k + 1
    rcases h3 with h3 | ⟨h3, h4⟩ <;> omega
theorem sumL_bound {f : Val → Int} {b : Int} (hb : 0 ≤ b) : ∀ (xs : List Val), (∀ x ∈ xs, f x ≤ b) → xs.length ≤ 3 → sumL f xs ≤ 3 * b
  | [], _, _ => by show (0 : Int) ≤ _; omega
  | [x], h, _ => by show f x + 0 ≤ _; have := h x (by simp); omega
  | [x, y], h, _ => by show f x + (f y + 0) ≤ _; have := h x (by simp); have := h y (by simp); omega
  | [x, y, z], h, _ => by show f x + (f y + (f z + 0)) ≤ _; have := h x (by simp); have := h y (by simp); have := h z (by simp); omega
  | _ :: _ :: _ :: _ :: r, _, hl => by simp at hl
theorem known_ok {ks : Ks} {d : Nat} {v : Val} (h : okV ks (d + 1) v = true) : Known ks v.ty := by
  intro m k hk
  have hu : okOf ks (okV ks d) v = true := h
  obtain ⟨c1, c2, c3⟩ := rec_types hk
  obtain ⟨m', k', hk', hh, _⟩ := okOf_parts hu c1 c2 c3
  rw [hk] at hk'
  cases hk'
  exact hh
def s3 : Nat → Nat
  | 0 => 1
  | n + 1 => 3 * s3 n + 1
theorem s3_mono {a b : Nat} (h : a ≤ b) : s3 a ≤ s3 b := by
  induction h with
  | refl => exact Nat.le_refl _
  | step _ ih => show _ ≤ 3 * s3 _ + 1; omega
theorem s3_pos (n : Nat) : 1 ≤ s3 n := by cases n <;> simp [s3]
theorem size_idx3 {ks : Ks} (hok : kindsOk ks = true) : ∀ (d : Nat) (v : Val), okV ks d v = true → sizeV d v ≤ (s3 (idx v.ty) : Nat)
  | 0, _, h => by cases h
  | d + 1, v, h => by
    have hu : okOf ks (okV ks d) v = true := h
    show (1 : Int) + sumL (sizeV d) v.parts ≤ _
    have hpos := s3_pos (idx v.ty)
    by_cases hb : (v.ty.toList == [110]) = true ∨ (v.ty.toList == [98]) = true ∨ (v.ty.toList == [111]) = true
    · obtain ⟨p1, _⟩ := base_plain hu hb
      rw [p1]
      show (1 : Int) + 0 ≤ _
      omega
    · have c1 : (v.ty.toList == [110]) = false := by cases h1 : (v.ty.toList == [110]) with | false => rfl | true => exact absurd (.inl h1) hb
      have c2 : (v.ty.toList == [98]) = false := by cases h1 : (v.ty.toList == [98]) with | false => rfl | true => exact absurd (.inr (.inl h1)) hb
      have c3 : (v.ty.toList == [111]) = false := by cases h1 : (v.ty.toList == [111]) with | false => rfl | true => exact absurd (.inr (.inr h1)) hb
      obtain ⟨m, k, hk, hh, _, _, a5, _, a6, a7⟩ := okOf_parts hu c1 c2 c3
      have hi : idx v.ty = 3 * m + k + 1 := by unfold idx; rw [hk]
      have hl := rec_few hok hh
      rw [hi]
      have := sumL_bound (f := sizeV d) (b := (s3 (3 * m + k) : Nat)) (by omega) v.parts (fun x hx => by
        obtain ⟨j, hj, rfl⟩ := List.mem_iff_getElem.1 hx
        have h1 := size_idx3 hok d _ (a7 _ hx)
        have h2 := ext_toList (a6 j hj (by omega)).1
        have h3 := idx_field hok hh (List.getElem_mem (show j < (recAt ks m k).fields.length by omega))
        rw [h2] at h1
        have h4 := s3_mono (show idx (recAt ks m k).fields[j] ≤ 3 * m + k by omega)
        omega) (by omega)
      show _ ≤ ((3 * s3 (3 * m + k) + 1 : Nat) : Int)
      omega
theorem size_good3 {ks : Ks} (hok : kindsOk ks = true) {d : Nat} {v : Val} (h : okV ks (d + 1) v = true) : sizeV (d + 1) v ≤ 29524 := by
  have h1 := size_idx3 hok (d + 1) v h
  have h2 := s3_mono (idx_le hok (known_ok h))
  have h3 : s3 9 = 29524 := by decide +kernel
  omega
/-- In a round, at the widest fence, an operation that defers nothing goes as everywhere. -/
theorem wpIn_round {l n : Nat} {P : Program} {o : Oper} {a : Act} {w : World} {K : Act → World → Prop} {Q : Exit → Act → World → Prop} (hd : ∀ c, o.op ≠ .defer c) (h : Oper.wp P o a w K Q) : Oper.wpIn (Fence.wide.inRound l) n P o a w K Q := by
  unfold Oper.wpIn
  refine ⟨fun _ _ => trivial, ?_⟩
  rw [Fence.inRound_round, Oper.semAt_some l _ o hd]
  unfold Oper.wp at h
  revert h
  cases (execOp a.eval o).run P w with
  | ok x w' =>
    cases x with
    | value v => exact fun h => h
    | skip => exact fun h => h
    | defer d => exact fun h => h
    | enter f args =>
      intro h
      exact And.intro (fun hh => by simp [Fence.wide] at hh) (CallsIn.inRound l (callsIn_wide.2 h))
    | row r args =>
      intro h
      refine And.intro (fun hh => by simp [Fence.wide] at hh) (fun c cs _ => ?_)
      obtain ⟨v, w'', h1, h2⟩ := (show Rows P r args w' _ from h) c cs
      exact ⟨v, w'', h1, stepsIn_wide.2 h2⟩
    | _ => exact fun h => h.elim
  | halt x w' =>
    cases x with
    | panic v => exact fun h => h
    | _ => exact fun h => h.elim
/-- .. and so does a region that draws. -/
theorem wpAnyIn_round {l n : Nat} {P : Program} {md : Region.Mode} {ops : Array Oper} {Q : Exit → Act → World → Prop} (hd : ∀ (i : Nat) (o : Oper), ops[i]? = some o → ∀ c, o.op ≠ .defer c) (hQ : ¬ LetsOut Q) :
    ∀ (fuel : Nat) (listed : Array Bool) (a : Act) (w : World), wpAny P md ops Q fuel listed a w → wpAnyIn (Fence.wide.inRound l) n P md ops Q fuel listed a w
  | 0, _, _, _, h => h
  | fuel + 1, listed, a, w, h => by
    refine ⟨h.1, fun i hi => ?_⟩
    have h2 := h.2 i hi
    unfold wpOp at h2
    unfold wpOpIn
    cases ho : ops[i]? with
    | none =>
      rw [ho] at h2
      exact wpAnyIn_round hd hQ fuel _ _ _ h2
    | some o =>
      rw [ho] at h2
      simp only at h2 ⊢
      split at h2
      · rename_i hw
        rw [if_pos hw]
        rcases h2 with h2 | ⟨_, h2⟩
        · exact wpIn_round (hd i o ho) (Oper.wp_mono (fun a w h => wpAnyIn_round hd hQ fuel _ a w h) h2)
        · exact absurd h2 hQ
      · rename_i hw
        rw [if_neg hw]
        exact ⟨fun _ _ => trivial, wpAnyIn_round hd hQ fuel _ _ _ h2⟩
def noDefer (ops : Array Oper) : Bool := ops.all fun o => match o.op with | .defer _ => false | _ => true
theorem noDefer_spec {ops : Array Oper} (h : noDefer ops = true) (i : Nat) (o : Oper) (ho : ops[i]? = some o) (c : Call) : o.op ≠ .defer c := fun hc => by
  unfold noDefer at h
  rw [Array.all_eq_true] at h
  obtain ⟨hlt, hi⟩ := Array.getElem?_eq_some_iff.1 ho
  have := h i hlt
  rw [hi, hc] at this
  cases this
theorem wpIn_region_round {l n id : Nat} {P : Program} {ops : Array Oper} {Q : Exit → Act → World → Prop} {a : Act} {w : World} {S : World → Prop} (hm : P.follows .mixedOrders = true) (hd : noDefer ops = true) (hQ : ¬ LetsOut Q)
    (hS : S w.drew) (h : S w.drew → wpAnyH P .any ops Q S ops.size (Array.replicate ops.size false) a w.drew) : (Code.region id ops true).wpIn (Fence.wide.inRound l) n P Q a w :=
  wpIn_region_any hm (wpAnyIn_round (noDefer_spec hd) hQ _ _ _ _ (wpAny_of_held _ _ _ _ (h hS)))

end Go.Proofs.YtemlpiokdoeeeaaDoor.Small
namespace Go.Proofs.YtemlpiokdoeeeaaDoor
open Go.RowKit
attribute [local go_sem] Oper.semAt_some

/-- What a record of a good list is known by. -/
def GoodLn (d : Nat) (x : KepR) : Prop := (0 ≤ x.o ∧ x.o ≤ 3) ∧ (textOf (textV d) x.v).size ≤ 413340
theorem lines_snoc (d : Nat) (ys : List KepR) (x : KepR) (acc : ByteArray) : linesK d (ys ++ [x]) acc = addLine d (linesK d ys acc) x := by unfold linesK; rw [List.foldl_append]; rfl
theorem lines_le (d : Nat) : ∀ (ys : List KepR) (acc : ByteArray), (∀ x ∈ ys, GoodLn d x) → (linesK d ys acc).size ≤ acc.size + ys.length * 413360
  | [], acc, _ => by show acc.size ≤ _; omega
  | x :: r, acc, h => by
    have h1 := lines_le d r (addLine d acc x) fun y hy => h y (List.mem_cons_of_mem _ hy)
    have h2 := h x List.mem_cons_self
    have h3 := line_size (d := d) (acc := acc) (x := x)
    have h4 := size_decBy 8 x.o.toNat (by have := h2.1; omega)
    have h5 := h2.2
    show (linesK d r (addLine d acc x)).size ≤ _
    rw [List.length_cons]
    omega
theorem good_line {ks : Ks} {d : Nat} {xs : List KepR} (h : vOk ks d xs = true) : ∀ x ∈ xs, GoodLn d x ∧ okV ks (d + 1) x.v = true := fun x hx => by
  obtain ⟨i, hi, rfl⟩ := List.mem_iff_getElem.1 hx
  obtain ⟨h1, h2, h3⟩ := ok_elem h hi
  have h4 := kept_ok h3
  have h5 := Small.size_good3 h1 h4
  have h6 := textV_le (d + 1) _ h4
  have h7 : textV (d + 1) xs[i].v = textOf (textV d) xs[i].v := rfl
  rw [h7] at h6
  exact ⟨⟨h2, by omega⟩, h4⟩

/-- The box of the text, and what it holds. -/
def TxI (B tb : Nat) (acc : ByteArray) (W : World) : Prop := ∃ v, Blk W tb 54 #[v] ∧ QRow (fun _ => False) W B v acc.size (strC acc)

theorem QRow.turn {K : Nat → Prop} {W W' : World} {B n : Nat} {v : Value} {xs : List Value} {row : Option Nat} (h : QRow K W B v n xs) (hg : W.grownBy W' row) (hr : ∀ r, row = some r → ∃ o : Obj, W.heap[r]? = some o ∧ o.isCells = false) : QRow K W' B v n xs := by
  refine ⟨h.own.kept hg (.inr fun e => ?_), h.there, fun b hk => ⟨Nat.lt_of_lt_of_le (h.off b hk).1 hg.size, (h.off b hk).2⟩⟩
  obtain ⟨g, cap, rfl⟩ := h.form
  obtain ⟨o, ho, hc⟩ := hr g (by rw [← e]; rfl)
  obtain ⟨_, cur, fz, hgg⟩ := own_kind h.own g rfl
  rw [hgg] at ho
  cases ho
  cases hc
theorem keeps_kept {W W' : World} (h : Lib.OthersKept 5 none W W') (hs : W.heap.size ≤ W'.heap.size) : KeepsOthers W W' := ⟨hs, fun k o hk ho => h k o hk (by simp) fun c fz e => by subst e; cases ho⟩
theorem QRow.base {K : Nat → Prop} {w : World} {B n : Nat} {v : Value} {xs : List Value} (h : QRow K w B v n xs) : B ≤ w.heap.size := by
  obtain ⟨g, cap, rfl⟩ := h.form
  have := h.own.lt g rfl
  omega
theorem Aq.weak {K : Nat → Prop} {w0 w : World} {B n : Nat} {v : Value} {xs : List Value} (h : Aq K B w0 v n xs w) : Aq (fun _ => False) B w0 v n xs w := ⟨⟨h.own.own, h.own.there, fun b hk => hk.elim⟩, ⟨h.go.below, fun b hk => hk.elim, h.go.kept⟩⟩
/-- What is made behind a row is none of its blocks. -/
theorem Aq.fence {K : Nat → Prop} {w0 w : World} {B n : Nat} {v : Value} {xs : List Value} (h : Aq K B w0 v n xs w) (o : Obj) : Aq (fun b => b = w.heap.size) B (w.alloc o) v n xs (w.alloc o) :=
  Aq.start ⟨h.own.own.alloc o, h.own.there, fun b hb => ⟨by subst hb; simp, fun e => by subst hb; have := (h.own.own.lt _ e).2; omega⟩⟩
/-- Behind the store of the longer text. -/
theorem text_stored {K : Nat → Prop} {B tb n : Nat} {W w7 : World} {v v9 : Value} {acc : ByteArray} (hb : Blk W tb 54 #[v]) (h : Aq K B W v9 n (strC acc) w7) (hn : n = acc.size) (hB : B ≤ tb) :
    TxI B tb acc (w7.setCell ⟨tb, 0, none⟩ v9) ∧ KeepsOthers W (w7.setCell ⟨tb, 0, none⟩ v9) ∧ Below B W (w7.setCell ⟨tb, 0, none⟩ v9) ∧ (∀ g t cs, g ≠ tb → t ≠ 5 → Blk W g t cs → Blk (w7.setCell ⟨tb, 0, none⟩ v9) g t cs) := by
  have h7 : Blk w7 tb 54 #[v] := h.blk hb (by decide)
  have hne : ∀ g cap, v9 = .slice (some ⟨g, 0, none⟩) n cap → g ≠ tb := fun g cap e e2 => by
    obtain ⟨_, cur, fz, hgg⟩ := own_kind h.own.own g (by rw [e]; rfl)
    rw [e2, show w7.heap[tb]? = _ from h7] at hgg
    simp at hgg
  subst hn
  refine ⟨⟨v9, h7.set_ 0 _, ?_⟩, (keeps_kept h.go.kept h.below.size).trans (KeepsOthers.setCell _ _ _), h.below.setCell hB _, fun g t cs h1 h2 h3 => (Below.heap_setCell _ _ _ _ h1).trans (h.blk h3 h2)⟩
  obtain ⟨g, cap, e⟩ := h.own.form
  refine ⟨ownsRow_setCell_other h.own.own (fun e2 => ?_) _, h.own.there, fun b hk => hk.elim⟩
  rw [e] at e2
  exact hne g cap e (by simpa [Value.ownBlock] using e2)

set_option maxRecDepth 100000 in
set_option maxHeartbeats 8000000 in
theorem implVaultsText_any {ks : Ks} (d : Nat) (F : Nat → Prop) (kv vl : Value) (xs : List KepR) (w : World) (hks : Cod.recs.Sl F w kv ks) (h : (Cod.kept (Cod.val d)).Sl F w vl xs) (hF : ∀ b, F b → b < w.heap.size) (htab : Lib.TabBelow Tryd.prog w.heap.size w tabN .u64 Lib.pow10Tab) :
    Calls Tryd.prog 9 #[kv, vl] w fun e w' => e = .returned (.string (vText ks d xs)) ∧ Below w.heap.size w w' := by
  have HV0 := Lib.hid h
  have HFo := Lib.hid hF
  have HTb := Lib.hid htab
  have HOk := Lib.hid (implVaultsOk_any d F kv vl xs w hks h hF)
  obtain ⟨Ak, ck, rfl, _⟩ := hks
  obtain ⟨Al, cap, rfl, hlc, hcm, _⟩ := h
  unfold maxLen at hcm
  clear hF htab
  refine (callsIn_wide (n := 6)).1 ?_
  refine callsIn_of_wp_marks Tryd.func9 rfl trivial ?_ rfl
  simp only [Tryd.ntmps9, List.size_toArray, List.length_cons, List.length_nil, Nat.reduceAdd, Nat.reduceSub, Array.replicate_succ, Array.replicate_zero, List.push_toArray, List.append_toArray, List.nil_append, List.cons_append]
  cases hok : vOk ks d xs with
  | false =>
    have HN := Lib.hid (show vText ks d xs = ⟨#[]⟩ by unfold vText; rw [hok]; rfl)
    rw [hok] at HOk
    clear hok
    gi_wp2_with (refine ⟨trivial, ?_⟩; gi_at_call 19; refine (callsIn_wide.2 HOk.out).mono ?_; rintro e w1 ⟨rfl, hb1⟩)
    exact ⟨_, results_tmp rfl _ _ _, by rw [HN.out]; rfl, hb1⟩
  | true =>
    have HGd := Lib.hid (good_line hok)
    have h36 := (vOk_ables hok).2
    have HN := Lib.hid (show linesK d xs ⟨#[]⟩ = vText ks d xs by unfold vText; rw [hok]; rfl)
    rw [hok] at HOk
    clear hok
    gi_wp2_with (first | (refine ⟨trivial, ?_⟩; gi_at_call 19; refine (callsIn_wide.2 HOk.out).mono ?_; rintro e w1 ⟨rfl, hb1⟩) | (refine ⟨trivial, ?_⟩; gi_at_call 20; refine (keptIn_any _ _ _ _ _).mono ?_; rintro e w' ⟨rfl, rfl⟩))
    have hs1 := hb1.size
    obtain ⟨w5, hw5⟩ : ∃ u, u = (((w1.alloc (.cells #[] 5)).alloc (.cells #[.slice (some ⟨w1.heap.size, 0, none⟩) 0 0] 54)).alloc (.cells #[.slice Al xs.length cap] 29)).alloc (.cells #[.slice (some ⟨w1.heap.size + 1 + 1, 0, none⟩) 1 1] 76) := ⟨_, rfl⟩
    rw [← hw5]
    have hs5 : w5.heap.size = w1.heap.size + 4 := by rw [hw5]; simp
    have hb15 : Below w1.heap.size w1 w5 := by rw [hw5]; exact ((((Below.refl _ _).alloc (Nat.le_refl _) _).alloc (by simp) _).alloc (by simp; omega) _).alloc (by simp; omega) _
    have hb5 : Below w.heap.size w w5 := hb1.trans (hb15.mono hs1)
    have e0 : Blk w5 w1.heap.size 5 #[] := by rw [hw5]; exact (((Blk.new w1 _ _).alloc _).alloc _).alloc _
    have e1 : Blk w5 (w1.heap.size + 1) 54 #[.slice (some ⟨w1.heap.size, 0, none⟩) 0 0] := by
      rw [hw5]
      have := ((Blk.new (w1.alloc (.cells #[] 5)) 54 #[.slice (some ⟨w1.heap.size, 0, none⟩) 0 0]).alloc (.cells #[.slice Al xs.length cap] 29)).alloc (.cells #[.slice (some ⟨w1.heap.size + 1 + 1, 0, none⟩) 1 1] 76)
      simpa using this
    have e2 : Blk w5 (w1.heap.size + 1 + 1) 29 #[.slice Al xs.length cap] := by
      rw [hw5]
      have := (Blk.new ((w1.alloc (.cells #[] 5)).alloc (.cells #[.slice (some ⟨w1.heap.size, 0, none⟩) 0 0] 54)) 29 #[.slice Al xs.length cap]).alloc (.cells #[.slice (some ⟨w1.heap.size + 1 + 1, 0, none⟩) 1 1] 76)
      simpa using this
    have e3 : Blk w5 (w1.heap.size + 1 + 1 + 1) 76 #[.slice (some ⟨w1.heap.size + 1 + 1, 0, none⟩) 1 1] := by
      rw [hw5]
      have := Blk.new (((w1.alloc (.cells #[] 5)).alloc (.cells #[.slice (some ⟨w1.heap.size, 0, none⟩) 0 0] 54)).alloc (.cells #[.slice Al xs.length cap] 29)) 76 #[.slice (some ⟨w1.heap.size + 1 + 1, 0, none⟩) 1 1]
      simpa using this
    have hT5 : TxI w.heap.size (w1.heap.size + 1) ⟨#[]⟩ w5 := ⟨_, e1, ⟨⟨rfl, .inr ⟨w1.heap.size, 0, #[], rfl, hs1, e0, Nat.le_refl _, Nat.zero_le _, rfl, rfl⟩⟩, by simp, fun b hk => hk.elim⟩⟩
    have hF5 : ∀ b, F b → b < w5.heap.size := fun b hb => by have := HFo.out b hb; omega
    have hP5 : Pieces d F w5 (w1.heap.size + 1 + 1) [xs] := pieces_one e2 (HV0.out.keep (below_keeps hb5 HFo.out))
    refine wpIn_rangeFunc_ownH rfl (by omega) (gf := 33) (lb := #[.pointer (some ⟨w1.heap.size + 1 + 1 + 1, 0, none⟩)]) rfl trivial (enters_of Tryd.func33 (by kernel_rfl) rfl)
      (keptIn_stops 5 d (by omega) F (fun x => GoodLn d x ∧ okV ks (d + 1) x.v = true) w5 (w1.heap.size + 1 + 1 + 1) (w1.heap.size + 1 + 1) 1 [xs] (by simp) hP5 (fun x hx => HGd.out x (by simpa using hx)) hF5 (by omega) (by omega) (e3.cell 0))
      (fun h k => KeepsIt.trans h k) (keeps_put (fun b hb => by rcases hb with h | h | h; exact hF5 b h; omega; omega)) (Below.refl _ _) (fun _ => rfl)
      (fun pre W => (TxI w.heap.size (w1.heap.size + 1) (linesK d (pre.map KEl.k) ⟨#[]⟩) W ∧ (Blk W (w1.heap.size + 1 + 1) 29 #[.slice Al xs.length cap] ∧ Blk W (w1.heap.size + 1 + 1 + 1) 76 #[.slice (some ⟨w1.heap.size + 1 + 1, 0, none⟩) 1 1])) ∧ (Below w.heap.size w W ∧ w5.heap.size ≤ W.heap.size))
      (fun _ _ _ => False)
      (OwnFrom.and (OwnFrom.and (fun s W W' row ⟨v, h1, h2⟩ hg hr => ⟨v, blk_own _ _ (fun _ : Unit => _) () W W' row h1 hg (fun r e => (hr r e).2), h2.turn hg (fun r e => (hr r e).2)⟩) (OwnFrom.and (Own.from (blk_own _ _ _) _) (Own.from (blk_own _ _ _) _))) (OwnFrom.and (ownFrom_below (Nat.le_refl _) (by omega)) from_size))
      (fun c _ _ _ _ h _ _ => h)
      ⟨⟨hT5, e2, e3⟩, hb5, Nat.le_refl _⟩
      (fun x a' W => ∃ Bx, w1.heap.size + 1 + 1 + 1 < Bx ∧ Blk W Bx 49 #[.int .i64 x.k.o, .string x.k.v.ty, .int .i64 x.k.v.n, .slice x.A x.k.v.parts.length x.cA, .slice x.B x.k.v.path.length x.cB] ∧ a' = { tmps := #[.slice Ak ks.length ck, .slice Al xs.length cap, undef, undef, .string ⟨#[]⟩, .pointer (some ⟨w1.heap.size + 1, 0, none⟩), .pointer (some ⟨Bx, 0, none⟩), .slice Ak ks.length ck, .slice Al xs.length cap, .bool true, .bool false, .slice (some ⟨w1.heap.size, 0, none⟩) 0 0, .slice Al xs.length cap, .slice (some ⟨w1.heap.size + 1 + 1, 0, none⟩) 1 1, .func (.func 33) #[] #[.pointer (some ⟨w1.heap.size + 1 + 1 + 1, 0, none⟩)], x.val, undef, undef, undef, undef, undef, undef, undef, undef, undef, undef, undef, undef, undef, undef, undef, undef], defers := [] })
      ?hax ?assign ?body ?done ?stop
    case hax =>
      rintro x a' _ W W' row ⟨Bx, h1, h2, h3⟩ hg' hr
      exact ⟨Bx, h1, blk_own Bx _ (fun _ : Unit => _) () W W' row h2 hg' (fun r e => (hr r e).2), h3⟩
    case assign =>
      rintro l pre ⟨k, Aa, ca, Ba, cb, ho, hv, hgd⟩ W K ⟨⟨⟨v, h1, h2⟩, h3, h4⟩, h5, h6⟩ hK
      dsimp only [KEl.val] at hK ⊢
      gi_wp2
      have hb := (Below.refl W.heap.size W).alloc (Nat.le_refl _) (.cells #[.int .i64 k.o, .string k.v.ty, .int .i64 k.v.n, .slice Aa k.v.parts.length ca, .slice Ba k.v.path.length cb] 49)
      exact hK _ _ ((keeps_below hb).from _) (keeps_it hb (fun b hb => by rcases hb with h | h | h; have := hF5 b h; omega; omega; omega)) ⟨⟨⟨v, h1.alloc _, h2.alloc _⟩, h3.alloc _, h4.alloc _⟩, h5.trans (hb.mono h5.size), Nat.le_trans h6 hb.size⟩ ⟨W.heap.size, by omega, Blk.new _ _ _, rfl⟩
    case body =>
      rintro l pre ⟨k, Aa, ca, Ba, cb, ho, hv, hgd⟩ a' W hl ⟨r, hr⟩ ⟨⟨⟨v, hbox, hq⟩, hrb, hib⟩, hB, hsz⟩ ⟨Bx, hBx, hx, rfl⟩ hlt
      dsimp only [KEl.val] at hx ⊢
      obtain ⟨acc, hacc⟩ : ∃ acc, acc = linesK d (pre.map KEl.k) ⟨#[]⟩ := ⟨_, rfl⟩
      have hal := lines_le d (pre.map KEl.k) ⟨#[]⟩ (fun y hy => by obtain ⟨z, _, rfl⟩ := List.mem_map.1 hy; exact z.hg.1)
      have hpl : pre.length ≤ 36 := by
        have h1 : pre.length < ([xs] : List (List KepR)).flatten.length := hlt
        simp at h1
        omega
      have h00 : (⟨#[]⟩ : ByteArray).size = 0 := rfl
      have hSn := lines_snoc d (pre.map KEl.k) k ⟨#[]⟩
      rw [← hacc] at hq hal hSn
      have hMp : (pre ++ [⟨k, Aa, ca, Ba, cb, ho, hv, hgd⟩] : List (KEl d F w5 (fun x => GoodLn d x ∧ okV ks (d + 1) x.v = true))).map KEl.k = pre.map KEl.k ++ [k] := by rw [List.map_append]; rfl
      rw [← hMp] at hSn
      rw [List.length_map, h00] at hal
      have haz : acc.size ≤ 20000000 := by
        have : pre.length * 413360 ≤ 36 * 413360 := Nat.mul_le_mul_right _ hpl
        omega
      have ko0 := hgd.1.1.1
      have ko3 := hgd.1.1.2
      have hts := hgd.1.2
      have hokv := hgd.2
      obtain ⟨g0, c0, rfl⟩ := hq.form
      have hBt : Bx ≠ w1.heap.size + 1 := by omega
      have hB0 : w.heap.size ≤ W.heap.size := hB.size
      have hbl : w1.heap.size + 1 < W.heap.size := hbox.lt
      have hxl : Bx < W.heap.size := hx.lt
      have hFW : ∀ b, F b ∨ b = w1.heap.size + 1 + 1 + 1 ∨ b = w1.heap.size + 1 + 1 → b < W.heap.size := fun b hb => by rcases hb with h | h | h; have := hF5 b h; omega; omega; omega
      -- '@' and the owner's number
      have hA1 := ((Aq.start hq).drew).alloc hB0 (.cells #[.int .u8 64] 5)
      obtain ⟨v2, w2, happ2, hA2, hs2⟩ := hA1.byte hA1.own.base 64 (by omega) W.heap.size 1 (Blk.new W.drew _ _)
      obtain ⟨g2, c2, rfl⟩ := hA2.own.form
      have hds := size_decBy 8 k.o.toNat (by omega)
      have hnn : k.o = (k.o.toNat : Int) := by omega
      obtain ⟨acc1, hacc1⟩ : ∃ a, a = acc ++ ⟨#[64]⟩ ++ decBy k.o.toNat := ⟨_, rfl⟩
      have ha1z : acc1.size = acc.size + 1 + (decBy k.o.toNat).size := by rw [hacc1]; simp only [ByteArray.size_append]; rfl
      have HC6 : Hid (Calls Tryd.prog 21 #[.slice (some ⟨g2, 0, none⟩) (acc.size + 1) c2, .int .i64 k.o, .int .i64 10] w2 fun e w3 => ∃ g3 c3, e = .returned (.slice (some ⟨g3, 0, none⟩) acc1.size c3) ∧ (w3.cell? ⟨w1.heap.size + 1, 0, none⟩ = some (.slice (some ⟨g0, 0, none⟩) acc.size c0) ∧ w3.frozen? ⟨w1.heap.size + 1, 0, none⟩ = false) ∧ Hid (Aq (fun _ => False) w.heap.size W (.slice (some ⟨g3, 0, none⟩) acc1.size c3) acc1.size (strC acc1) w3)) := Lib.hid ((appendIntQ_any hA2.own hA2.own.base k.o ho (by omega) (HTb.out.on (hB.trans hA2.below))).mono fun e w3 ⟨v3, he, hq3, hg3⟩ => by
        have h3 := aq_int hnn hA2 hq3 hg3
        rw [← strC_append, ← strC_append, ← hacc1, ← ha1z] at h3
        obtain ⟨g3, c3, rfl⟩ := h3.own.form
        have hb3 := h3.blk hbox (by decide)
        exact ⟨g3, c3, he, ⟨hb3.cell 0, hb3.frozen 0⟩, Lib.hid h3⟩)
      have ha1le : acc1.size ≤ 20001000 := by omega
      have HA2 := Lib.hid hA2
      have HS6 := Lib.hid (fun (X : World) (h : Blk X Bx 49 #[.int .i64 k.o, .string k.v.ty, .int .i64 k.v.n, .slice Aa k.v.parts.length ca, .slice Ba k.v.path.length cb]) => show X.cell? ⟨Bx, 0, none⟩ = some (.int .i64 k.o) from h.c5.1)
      have b0 : W.cell? ⟨w1.heap.size + 1, 0, none⟩ = some (.slice (some ⟨g0, 0, none⟩) acc.size c0) := hbox.cell 0
      have hmx : Tryd.prog.follows .mixedOrders = true := by kernel_rfl
      have HV5 := Lib.hid hv
      have HBW := Lib.hid hB
      have HF5 := Lib.hid hF5
      have HBt := Lib.hid (show Below w.heap.size w w5 from hb5)
      have hszW := hsz
      have HOb := Lib.hid hbox
      have HSn := Lib.hid hSn
      have HAc1 := Lib.hid hacc1
      have HFl := Lib.hid hFW
      have HRb := Lib.hid hrb
      have HIb := Lib.hid hib
      clear hq hA1 hA2 hr hal hacc hSn hMp hB hacc1 hbox hP5 hT5 hw5 e0 e1 e2 e3 hb15 hb5 hF5 hFW ko0 hs2 hnn hb1 ha1z hds hrb hib
      gi_wp2
      rename_i K7 hK7
      have HK7 : Hid (∀ (z16 z17 z18 z19 z20 z21 : Value) (w3 : World) (g3 c3 : Nat), Aq (fun _ => False) w.heap.size W (.slice (some ⟨g3, 0, none⟩) acc1.size c3) acc1.size (strC acc1) w3 → K7 { tmps := #[.slice Ak ks.length ck, .slice Al xs.length cap, undef, undef, .string ⟨#[]⟩, .pointer (some ⟨w1.heap.size + 1, 0, none⟩), .pointer (some ⟨Bx, 0, none⟩), .slice Ak ks.length ck, .slice Al xs.length cap, .bool true, .bool false, .slice (some ⟨w1.heap.size, 0, none⟩) 0 0, .slice Al xs.length cap, .slice (some ⟨w1.heap.size + 1 + 1, 0, none⟩) 1 1, .func (.func 33) #[] #[.pointer (some ⟨w1.heap.size + 1 + 1 + 1, 0, none⟩)], .agg #[.int .i64 k.o, .string k.v.ty, .int .i64 k.v.n, .slice Aa k.v.parts.length ca, .slice Ba k.v.path.length cb], z16, z17, z18, z19, z20, z21, undef, undef, undef, undef, undef, undef, undef, undef, undef, undef], defers := [] } (w3.setCell ⟨w1.heap.size + 1, 0, none⟩ (.slice (some ⟨g3, 0, none⟩) acc1.size c3))) := by
        refine Lib.hid fun z16 z17 z18 z19 z20 z21 w3 g3 c3 hA3 => ?_
        obtain ⟨⟨v6, hbox6, hq6⟩, hO6, hB6, hK6⟩ := text_stored HOb.out hA3 rfl (by omega)
        have hx6 := hK6 Bx _ _ hBt (by decide) hx
        have hI6 : KeepsIt F (w1.heap.size + 1 + 1 + 1) (w1.heap.size + 1 + 1) W (w3.setCell ⟨w1.heap.size + 1, 0, none⟩ (.slice (some ⟨g3, 0, none⟩) acc1.size c3)) := fun b hb => by
          rcases hb with h | rfl | rfl
          · exact hB6.block b (HFo.out b h)
          · exact (hK6 _ _ _ (by omega) (by decide) HIb.out).trans HIb.out.symm
          · exact (hK6 _ _ _ (by omega) (by decide) HRb.out).trans HRb.out.symm
        have hr6 := hK6 _ _ _ (by omega) (by decide) HRb.out
        have hi6 := hK6 _ _ _ (by omega) (by decide) HIb.out
        obtain ⟨W6, hW6⟩ : ∃ u, u = w3.setCell ⟨w1.heap.size + 1, 0, none⟩ (.slice (some ⟨g3, 0, none⟩) acc1.size c3) := ⟨_, rfl⟩
        rw [← hW6] at hbox6 hq6 hO6 hB6 hx6 hI6 hr6 hi6 ⊢
        obtain ⟨g6, c6, rfl⟩ := hq6.form
        have hBW6 := HBW.out.trans hB6
        have HCall := Lib.hid (fun (K : Nat → Prop) (w0 X : World) (sv : Value) (n' : Nat) (ys : List Value) (hA : Aq K w.heap.size w0 sv n' ys X) (hb : Below w.heap.size W6 X) (hn : n' + (textOf (textV d) k.v).size ≤ 100000000) => show Calls Tryd.prog 22 #[sv, .agg #[.string k.v.ty, .int .i64 k.v.n, .slice Aa k.v.parts.length ca, .slice Ba k.v.path.length cb]] X fun e w' => ∃ g c, e = .returned (.slice (some ⟨g, 0, none⟩) (n' + (textOf (textV d) k.v).size) c) ∧ Aq K w.heap.size w0 (.slice (some ⟨g, 0, none⟩) (n' + (textOf (textV d) k.v).size) c) (n' + (textOf (textV d) k.v).size) (ys ++ strC (textOf (textV d) k.v)) w' from
          (appendValueQ_any ks d K F w.heap.size Aa Ba _ _ ca cb k.v sv n' ys X (HV5.out.keep fun b hb' => ((hBW6.trans hb).block b (HFo.out b hb')).trans (HBt.out.block b (HFo.out b hb')).symm) HFo.out hA.own.base hA.own hokv hn (HTb.out.on (hBW6.trans hb))).mono fun e w' ⟨v', he, hA'⟩ => by
            obtain ⟨g, c, rfl⟩ := hA'.own.form
            exact ⟨g, c, he, hA.on hA'⟩)
        have HEnd := Lib.hid (fun (v7 : Value) (w7 : World) (hE : Aq (fun _ => False) w.heap.size W6 v7 (acc1.size + 1 + (textOf (textV d) k.v).size + 1) (strC acc1 ++ strC ⟨#[32]⟩ ++ strC (textOf (textV d) k.v) ++ strC ⟨#[10]⟩) w7) => show KeepsFrom w5.heap.size W (w7.setCell ⟨w1.heap.size + 1, 0, none⟩ v7) ∧ KeepsIt F (w1.heap.size + 1 + 1 + 1) (w1.heap.size + 1 + 1) W (w7.setCell ⟨w1.heap.size + 1, 0, none⟩ v7) ∧ (TxI w.heap.size (w1.heap.size + 1) (linesK d ((pre ++ [⟨k, Aa, ca, Ba, cb, ho, hv, hgd⟩] : List (KEl d F w5 (fun x => GoodLn d x ∧ okV ks (d + 1) x.v = true))).map KEl.k) ⟨#[]⟩) (w7.setCell ⟨w1.heap.size + 1, 0, none⟩ v7) ∧ (Blk (w7.setCell ⟨w1.heap.size + 1, 0, none⟩ v7) (w1.heap.size + 1 + 1) 29 #[.slice Al xs.length cap] ∧ Blk (w7.setCell ⟨w1.heap.size + 1, 0, none⟩ v7) (w1.heap.size + 1 + 1 + 1) 76 #[.slice (some ⟨w1.heap.size + 1 + 1, 0, none⟩) 1 1])) ∧ (Below w.heap.size w (w7.setCell ⟨w1.heap.size + 1, 0, none⟩ v7) ∧ w5.heap.size ≤ (w7.setCell ⟨w1.heap.size + 1, 0, none⟩ v7).heap.size) from by
          rw [← strC_append, ← strC_append, ← strC_append] at hE
          obtain ⟨hT, hO, hBl, hK⟩ := text_stored hbox6 hE (by simp only [ByteArray.size_append]; rfl) (by omega)
          refine ⟨(hO6.trans hO).from _, hI6.trans fun b hb => ?_, ⟨?_, hK _ _ _ (by omega) (by decide) hr6, hK _ _ _ (by omega) (by decide) hi6⟩, hBW6.trans hBl, Nat.le_trans hszW (Nat.le_trans hO6.size hO.size)⟩
          · rcases hb with h | rfl | rfl
            · exact hBl.block b (HFo.out b h)
            · exact (hK _ _ _ (by omega) (by decide) hi6).trans hi6.symm
            · exact (hK _ _ _ (by omega) (by decide) hr6).trans hr6.symm
          · rw [HSn.out]
            unfold addLine
            rw [← HAc1.out]
            exact hT)
        have HS7 := Lib.hid (fun (X : World) (h : Blk X Bx 49 #[.int .i64 k.o, .string k.v.ty, .int .i64 k.v.n, .slice Aa k.v.parts.length ca, .slice Ba k.v.path.length cb]) => show (X.cell? ⟨Bx, 1, none⟩ = some (.string k.v.ty) ∧ X.cell? ⟨Bx, 2, none⟩ = some (.int .i64 k.v.n)) ∧ X.cell? ⟨Bx, 3, none⟩ = some (.slice Aa k.v.parts.length ca) ∧ X.cell? ⟨Bx, 4, none⟩ = some (.slice Ba k.v.path.length cb) from by obtain ⟨x0, x1, x2, x3, x4⟩ := h.c5; exact ⟨⟨x1, x2⟩, x3, x4⟩)
        have b6 : W6.cell? ⟨w1.heap.size + 1, 0, none⟩ = some (.slice (some ⟨g6, 0, none⟩) acc1.size c6) := hbox6.cell 0
        have hbl6 : w1.heap.size + 1 < W6.heap.size := hbox6.lt
        have hxl6 : Bx < W6.heap.size := hx6.lt
        have hA0 := (Aq.start hq6).drew
        clear hW6 hA3 hO6 hB6 hI6 hK6 hBW6 hr6 hi6
        refine hK7 _ _ ?_
        clear hK7
        generalize textOf (textV d) k.v = T at *
        gi_wp2
        refine Small.wpIn_region_round (S := fun w' => (w'.cell? ⟨Bx, 1, none⟩ = some (.string k.v.ty) ∧ w'.cell? ⟨Bx, 2, none⟩ = some (.int .i64 k.v.n)) ∧ w'.cell? ⟨Bx, 3, none⟩ = some (.slice Aa k.v.parts.length ca) ∧ w'.cell? ⟨Bx, 4, none⟩ = some (.slice Ba k.v.path.length cb)) hmx (by kernel_rfl) (fun ⟨a, w, h⟩ => (show False from h)) (HS7.out _ (show Blk W6.drew Bx _ _ from hx6)) (fun hHeld => ?_)
        refine wpAnyH_take (i := 3) (v := .pointer (some ⟨Bx, 1, none⟩)) rfl (by kernel_rfl) (by kernel_rfl) (by kernel_rfl) (fun _ _ _ h => h) (Or.inl ⟨by rfl, ?_⟩) (by assumption) ?_
        · intro w hSw
          go_simp
        simp only [Act.put, List.setIfInBounds_toArray, List.set_cons_zero, List.set_cons_succ]
        refine wpAnyH_take (i := 4) (v := .agg #[.string k.v.ty, .int .i64 k.v.n, .slice Aa k.v.parts.length ca, .slice Ba k.v.path.length cb]) rfl (by kernel_rfl) (by kernel_rfl) (by kernel_rfl) (fun _ _ _ h => h) (Or.inl ⟨by rfl, ?_⟩) (by assumption) ?_
        · rintro w' ⟨⟨s1, s2⟩, s3, s4⟩
          go_simp
        simp only [Act.put, List.setIfInBounds_toArray, List.set_cons_zero, List.set_cons_succ]
        refine wpAnyH_ready (rs := [0, 1, 6]) (by kernel_rfl) (by simp) ?_
        refine AllReadyH.cons rfl (fun K hK => ?_) (AllReadyH.cons rfl (fun K hK => ?_) (AllReadyH.cons rfl (fun K hK => ?_) AllReadyH.nil))
        · go_simp
          refine hK.out _ _ (HS7.out _ (show Blk W6.drew Bx _ _ from hx6)) (fun hHeld => ?_)
          clear hK K
          try simp only [Act.put, List.setIfInBounds_toArray, List.set_cons_zero, List.set_cons_succ]
          refine wpAnyH_ready (rs := [1, 6]) (by kernel_rfl) (by simp) ?_
          refine AllReadyH.cons rfl (fun K hK => ?_) (AllReadyH.cons rfl (fun K hK => ?_) AllReadyH.nil)
          · go_simp
            refine hK.out _ _ (HS7.out _ ((show Blk W6.drew Bx _ _ from hx6).alloc (.cells #[.int .u8 32] 5))) (fun hHeld => ?_)
            clear hK K
            try simp only [Act.put, List.setIfInBounds_toArray, List.set_cons_zero, List.set_cons_succ]
            have hA1 := hA0.alloc hA0.own.base (.cells #[.int .u8 32] 5)
            have hbs := Blk.new W6.drew 5 #[.int .u8 32]
            refine wpAnyH_ready (rs := [2, 6]) (by kernel_rfl) (by simp) ?_
            refine AllReadyH.cons rfl (fun K hK => ?_) (AllReadyH.cons rfl (fun K hK => ?_) AllReadyH.nil)
            · obtain ⟨v2, w2b, happ2, hA2, hs2⟩ := hA1.byte hA1.own.base 32 (by omega) (W6.heap.size) 1 hbs
              obtain ⟨g2, c2, rfl⟩ := hA2.own.form
              with_reducible refine step_append_at (.tmp 22) (.tmp 23) happ2 (by kernel_rfl) (by kernel_rfl) (by kernel_rfl) (by kernel_rfl) (by kernel_rfl) ?_
              refine hK.out _ _ (HS7.out _ (hA2.blk hx6 (by decide))) (fun hHeld => ?_)
              clear hK K
              try simp only [Act.put, List.setIfInBounds_toArray, List.set_cons_zero, List.set_cons_succ]
              refine wpAnyH_ready (rs := [5, 6]) (by kernel_rfl) (by simp) ?_
              refine AllReadyH.cons rfl (fun K hK => ?_) (AllReadyH.cons rfl (fun K hK => ?_) AllReadyH.nil)
              · go_simp
                with_reducible refine (HCall.out _ _ _ _ _ _ hA2 (hA2.below) (by omega)).mono ?_
                rintro e w5b ⟨g5, c5, rfl, hA5⟩
                refine hK.out _ _ (HS7.out _ (hA5.blk hx6 (by decide))) (fun hHeld => ?_)
                clear hK K
                try simp only [Act.put, List.setIfInBounds_toArray, List.set_cons_zero, List.set_cons_succ]
                refine wpAnyH_ready (rs := [6]) (by kernel_rfl) (by simp) ?_
                refine AllReadyH.cons rfl (fun K hK => ?_) AllReadyH.nil
                go_simp
                refine hK.out _ _ (HS7.out _ ((hA5.blk hx6 (by decide)).alloc (.cells #[.int .u8 10] 5))) (fun hHeld => ?_)
                clear hK K
                try simp only [Act.put, List.setIfInBounds_toArray, List.set_cons_zero, List.set_cons_succ]
                have hA6 := hA5.alloc hA5.own.base (.cells #[.int .u8 10] 5)
                have hbn := Blk.new w5b 5 #[.int .u8 10]
                refine wpAnyH_ready (rs := [7]) (by kernel_rfl) (by simp) ?_
                refine AllReadyH.cons rfl (fun K hK => ?_) AllReadyH.nil
                obtain ⟨v7, w7b, happ7, hA7, hs7⟩ := hA6.byte hA6.own.base 10 (by omega) (w5b.heap.size) 1 (hbn)
                obtain ⟨g7, c7, rfl⟩ := hA7.own.form
                with_reducible refine step_append_at (.tmp 27) (.tmp 28) happ7 (by kernel_rfl) (by kernel_rfl) (by kernel_rfl) (by kernel_rfl) (by kernel_rfl) ?_
                have hE := hA7
                have hb7 := hE.blk hbox6 (by decide)
                have q0 : w7b.cell? ⟨w1.heap.size + 1, 0, none⟩ = _ := hb7.cell 0
                have q1 : w7b.frozen? ⟨w1.heap.size + 1, 0, none⟩ = false := hb7.frozen 0
                refine hK.out _ _ (HS7.out _ (hE.blk hx6 (by decide))) (fun hHeld => ?_)
                clear hK K
                try simp only [Act.put, List.setIfInBounds_toArray, List.set_cons_zero, List.set_cons_succ]
                refine wpAnyH_ready (rs := [8]) (by kernel_rfl) (by simp) ?_
                refine AllReadyH.cons rfl (fun K hK => ?_) AllReadyH.nil
                go_simp
                refine hK.out _ _ (HS7.out _ ((Below.heap_setCell _ _ _ _ hBt).trans (hE.blk hx6 (by decide)))) (fun hHeld => ?_)
                clear hK K
                try simp only [Act.put, List.setIfInBounds_toArray, List.set_cons_zero, List.set_cons_succ]
                refine wpAnyH_done (by kernel_rfl) ?_ _
                exact HEnd.out _ _ hE
              · go_simp
                refine hK.out _ _ (HS7.out _ ((hA2.blk hx6 (by decide)).alloc (.cells #[.int .u8 10] 5))) (fun hHeld => ?_)
                clear hK K
                try simp only [Act.put, List.setIfInBounds_toArray, List.set_cons_zero, List.set_cons_succ]
                have hF := hA2.fence (.cells #[.int .u8 10] 5)
                have hE0 := hA2.alloc hA2.own.base (.cells #[.int .u8 10] 5)
                have hbn := Blk.new w2b 5 #[.int .u8 10]
                have hxF : Blk _ Bx _ _ := (hA2.blk hx6 (by decide)).alloc (.cells #[.int .u8 10] 5)
                refine wpAnyH_ready (rs := [5]) (by kernel_rfl) (by simp) ?_
                refine AllReadyH.cons rfl (fun K hK => ?_) AllReadyH.nil
                go_simp
                with_reducible refine (HCall.out _ _ _ _ _ _ hF (hE0.below.trans hF.below) (by omega)).mono ?_
                rintro e w5b ⟨g5, c5, rfl, hA5⟩
                refine hK.out _ _ (HS7.out _ (hA5.blk hxF (by decide))) (fun hHeld => ?_)
                clear hK K
                try simp only [Act.put, List.setIfInBounds_toArray, List.set_cons_zero, List.set_cons_succ]
                refine wpAnyH_ready (rs := [7]) (by kernel_rfl) (by simp) ?_
                refine AllReadyH.cons rfl (fun K hK => ?_) AllReadyH.nil
                obtain ⟨v7, w7b, happ7, hA7, hs7⟩ := hA5.byte hA5.own.base 10 (by omega) (w2b.heap.size) 1 ((hA5.go.same _ (by simp)).trans hbn)
                obtain ⟨g7, c7, rfl⟩ := hA7.own.form
                with_reducible refine step_append_at (.tmp 27) (.tmp 28) happ7 (by kernel_rfl) (by kernel_rfl) (by kernel_rfl) (by kernel_rfl) (by kernel_rfl) ?_
                have hE := hE0.on hA7.weak
                have hb7 := hE.blk hbox6 (by decide)
                have q0 : w7b.cell? ⟨w1.heap.size + 1, 0, none⟩ = _ := hb7.cell 0
                have q1 : w7b.frozen? ⟨w1.heap.size + 1, 0, none⟩ = false := hb7.frozen 0
                refine hK.out _ _ (HS7.out _ (hE.blk hx6 (by decide))) (fun hHeld => ?_)
                clear hK K
                try simp only [Act.put, List.setIfInBounds_toArray, List.set_cons_zero, List.set_cons_succ]
                refine wpAnyH_ready (rs := [8]) (by kernel_rfl) (by simp) ?_
                refine AllReadyH.cons rfl (fun K hK => ?_) AllReadyH.nil
                go_simp
                refine hK.out _ _ (HS7.out _ ((Below.heap_setCell _ _ _ _ hBt).trans (hE.blk hx6 (by decide)))) (fun hHeld => ?_)
                clear hK K
                try simp only [Act.put, List.setIfInBounds_toArray, List.set_cons_zero, List.set_cons_succ]
                refine wpAnyH_done (by kernel_rfl) ?_ _
                exact HEnd.out _ _ hE
            · go_simp
              refine hK.out _ _ (HS7.out _ (((show Blk W6.drew Bx _ _ from hx6).alloc (.cells #[.int .u8 32] 5)).alloc (.cells #[.int .u8 10] 5))) (fun hHeld => ?_)
              clear hK K
              try simp only [Act.put, List.setIfInBounds_toArray, List.set_cons_zero, List.set_cons_succ]
              have hF := hA1.fence (.cells #[.int .u8 10] 5)
              have hE0 := hA1.alloc hA1.own.base (.cells #[.int .u8 10] 5)
              have hbn := Blk.new (W6.drew.alloc (.cells #[.int .u8 32] 5)) 5 #[.int .u8 10]
              simp only [World.size_alloc, World.size_drew] at hbn
              have hxF : Blk _ Bx _ _ := ((show Blk W6.drew Bx _ _ from hx6).alloc (.cells #[.int .u8 32] 5)).alloc (.cells #[.int .u8 10] 5)
              have hbs := hbs.alloc (.cells #[.int .u8 10] 5)
              refine wpAnyH_ready (rs := [2]) (by kernel_rfl) (by simp) ?_
              refine AllReadyH.cons rfl (fun K hK => ?_) AllReadyH.nil
              obtain ⟨v2, w2b, happ2, hA2, hs2⟩ := hF.byte hF.own.base 32 (by omega) (W6.heap.size) 1 hbs
              obtain ⟨g2, c2, rfl⟩ := hA2.own.form
              with_reducible refine step_append_at (.tmp 22) (.tmp 23) happ2 (by kernel_rfl) (by kernel_rfl) (by kernel_rfl) (by kernel_rfl) (by kernel_rfl) ?_
              refine hK.out _ _ (HS7.out _ (hA2.blk hxF (by decide))) (fun hHeld => ?_)
              clear hK K
              try simp only [Act.put, List.setIfInBounds_toArray, List.set_cons_zero, List.set_cons_succ]
              refine wpAnyH_ready (rs := [5]) (by kernel_rfl) (by simp) ?_
              refine AllReadyH.cons rfl (fun K hK => ?_) AllReadyH.nil
              go_simp
              with_reducible refine (HCall.out _ _ _ _ _ _ hA2 (hE0.below.trans hA2.below) (by omega)).mono ?_
              rintro e w5b ⟨g5, c5, rfl, hA5⟩
              refine hK.out _ _ (HS7.out _ (hA5.blk hxF (by decide))) (fun hHeld => ?_)
              clear hK K
              try simp only [Act.put, List.setIfInBounds_toArray, List.set_cons_zero, List.set_cons_succ]
              refine wpAnyH_ready (rs := [7]) (by kernel_rfl) (by simp) ?_
              refine AllReadyH.cons rfl (fun K hK => ?_) AllReadyH.nil
              obtain ⟨v7, w7b, happ7, hA7, hs7⟩ := hA5.byte hA5.own.base 10 (by omega) (W6.heap.size + 1) 1 ((hA5.go.same _ (by simp)).trans hbn)
              obtain ⟨g7, c7, rfl⟩ := hA7.own.form
              with_reducible refine step_append_at (.tmp 27) (.tmp 28) happ7 (by kernel_rfl) (by kernel_rfl) (by kernel_rfl) (by kernel_rfl) (by kernel_rfl) ?_
              have hE := hE0.on hA7.weak
              have hb7 := hE.blk hbox6 (by decide)
              have q0 : w7b.cell? ⟨w1.heap.size + 1, 0, none⟩ = _ := hb7.cell 0
              have q1 : w7b.frozen? ⟨w1.heap.size + 1, 0, none⟩ = false := hb7.frozen 0
              refine hK.out _ _ (HS7.out _ (hE.blk hx6 (by decide))) (fun hHeld => ?_)
              clear hK K
              try simp only [Act.put, List.setIfInBounds_toArray, List.set_cons_zero, List.set_cons_succ]
              refine wpAnyH_ready (rs := [8]) (by kernel_rfl) (by simp) ?_
              refine AllReadyH.cons rfl (fun K hK => ?_) AllReadyH.nil
              go_simp
              refine hK.out _ _ (HS7.out _ ((Below.heap_setCell _ _ _ _ hBt).trans (hE.blk hx6 (by decide)))) (fun hHeld => ?_)
              clear hK K
              try simp only [Act.put, List.setIfInBounds_toArray, List.set_cons_zero, List.set_cons_succ]
              refine wpAnyH_done (by kernel_rfl) ?_ _
              exact HEnd.out _ _ hE
          · go_simp
            refine hK.out _ _ (HS7.out _ ((show Blk W6.drew Bx _ _ from hx6).alloc (.cells #[.int .u8 10] 5))) (fun hHeld => ?_)
            clear hK K
            try simp only [Act.put, List.setIfInBounds_toArray, List.set_cons_zero, List.set_cons_succ]
            have hF := hA0.fence (.cells #[.int .u8 10] 5)
            have hE0 := hA0.alloc hA0.own.base (.cells #[.int .u8 10] 5)
            have hbn := Blk.new W6.drew 5 #[.int .u8 10]
            have hxF : Blk _ Bx _ _ := (show Blk W6.drew Bx _ _ from hx6).alloc (.cells #[.int .u8 10] 5)
            refine wpAnyH_ready (rs := [1]) (by kernel_rfl) (by simp) ?_
            refine AllReadyH.cons rfl (fun K hK => ?_) AllReadyH.nil
            go_simp
            refine hK.out _ _ (HS7.out _ (((show Blk W6.drew Bx _ _ from hx6).alloc (.cells #[.int .u8 10] 5)).alloc (.cells #[.int .u8 32] 5))) (fun hHeld => ?_)
            clear hK K
            try simp only [Act.put, List.setIfInBounds_toArray, List.set_cons_zero, List.set_cons_succ]
            have hA1 := hF.alloc hF.own.base (.cells #[.int .u8 32] 5)
            have hbs := Blk.new (W6.drew.alloc (.cells #[.int .u8 10] 5)) 5 #[.int .u8 32]
            simp only [World.size_alloc, World.size_drew] at hbs
            refine wpAnyH_ready (rs := [2]) (by kernel_rfl) (by simp) ?_
            refine AllReadyH.cons rfl (fun K hK => ?_) AllReadyH.nil
            obtain ⟨v2, w2b, happ2, hA2, hs2⟩ := hA1.byte hA1.own.base 32 (by omega) (W6.heap.size + 1) 1 hbs
            obtain ⟨g2, c2, rfl⟩ := hA2.own.form
            with_reducible refine step_append_at (.tmp 22) (.tmp 23) happ2 (by kernel_rfl) (by kernel_rfl) (by kernel_rfl) (by kernel_rfl) (by kernel_rfl) ?_
            refine hK.out _ _ (HS7.out _ (hA2.blk hxF (by decide))) (fun hHeld => ?_)
            clear hK K
            try simp only [Act.put, List.setIfInBounds_toArray, List.set_cons_zero, List.set_cons_succ]
            refine wpAnyH_ready (rs := [5]) (by kernel_rfl) (by simp) ?_
            refine AllReadyH.cons rfl (fun K hK => ?_) AllReadyH.nil
            go_simp
            with_reducible refine (HCall.out _ _ _ _ _ _ hA2 (hE0.below.trans hA2.below) (by omega)).mono ?_
            rintro e w5b ⟨g5, c5, rfl, hA5⟩
            refine hK.out _ _ (HS7.out _ (hA5.blk hxF (by decide))) (fun hHeld => ?_)
            clear hK K
            try simp only [Act.put, List.setIfInBounds_toArray, List.set_cons_zero, List.set_cons_succ]
            refine wpAnyH_ready (rs := [7]) (by kernel_rfl) (by simp) ?_
            refine AllReadyH.cons rfl (fun K hK => ?_) AllReadyH.nil
            obtain ⟨v7, w7b, happ7, hA7, hs7⟩ := hA5.byte hA5.own.base 10 (by omega) (W6.heap.size) 1 ((hA5.go.same _ (by simp)).trans hbn)
            obtain ⟨g7, c7, rfl⟩ := hA7.own.form
            with_reducible refine step_append_at (.tmp 27) (.tmp 28) happ7 (by kernel_rfl) (by kernel_rfl) (by kernel_rfl) (by kernel_rfl) (by kernel_rfl) ?_
            have hE := hE0.on hA7.weak
            have hb7 := hE.blk hbox6 (by decide)
            have q0 : w7b.cell? ⟨w1.heap.size + 1, 0, none⟩ = _ := hb7.cell 0
            have q1 : w7b.frozen? ⟨w1.heap.size + 1, 0, none⟩ = false := hb7.frozen 0
            refine hK.out _ _ (HS7.out _ (hE.blk hx6 (by decide))) (fun hHeld => ?_)
            clear hK K
            try simp only [Act.put, List.setIfInBounds_toArray, List.set_cons_zero, List.set_cons_succ]
            refine wpAnyH_ready (rs := [8]) (by kernel_rfl) (by simp) ?_
            refine AllReadyH.cons rfl (fun K hK => ?_) AllReadyH.nil
            go_simp
            refine hK.out _ _ (HS7.out _ ((Below.heap_setCell _ _ _ _ hBt).trans (hE.blk hx6 (by decide)))) (fun hHeld => ?_)
            clear hK K
            try simp only [Act.put, List.setIfInBounds_toArray, List.set_cons_zero, List.set_cons_succ]
            refine wpAnyH_done (by kernel_rfl) ?_ _
            exact HEnd.out _ _ hE
        · go_simp
          refine hK.out _ _ (HS7.out _ ((show Blk W6.drew Bx _ _ from hx6).alloc (.cells #[.int .u8 32] 5))) (fun hHeld => ?_)
          clear hK K
          try simp only [Act.put, List.setIfInBounds_toArray, List.set_cons_zero, List.set_cons_succ]
          have hA1 := hA0.alloc hA0.own.base (.cells #[.int .u8 32] 5)
          have hbs := Blk.new W6.drew 5 #[.int .u8 32]
          refine wpAnyH_ready (rs := [0, 6]) (by kernel_rfl) (by simp) ?_
          refine AllReadyH.cons rfl (fun K hK => ?_) (AllReadyH.cons rfl (fun K hK => ?_) AllReadyH.nil)
          · go_simp
            refine hK.out _ _ (HS7.out _ ((show Blk W6.drew Bx _ _ from hx6).alloc (.cells #[.int .u8 32] 5))) (fun hHeld => ?_)
            clear hK K
            try simp only [Act.put, List.setIfInBounds_toArray, List.set_cons_zero, List.set_cons_succ]
            refine wpAnyH_ready (rs := [2, 6]) (by kernel_rfl) (by simp) ?_
            refine AllReadyH.cons rfl (fun K hK => ?_) (AllReadyH.cons rfl (fun K hK => ?_) AllReadyH.nil)
            · obtain ⟨v2, w2b, happ2, hA2, hs2⟩ := hA1.byte hA1.own.base 32 (by omega) (W6.heap.size) 1 hbs
              obtain ⟨g2, c2, rfl⟩ := hA2.own.form
              with_reducible refine step_append_at (.tmp 22) (.tmp 23) happ2 (by kernel_rfl) (by kernel_rfl) (by kernel_rfl) (by kernel_rfl) (by kernel_rfl) ?_
              refine hK.out _ _ (HS7.out _ (hA2.blk hx6 (by decide))) (fun hHeld => ?_)
              clear hK K
              try simp only [Act.put, List.setIfInBounds_toArray, List.set_cons_zero, List.set_cons_succ]
              refine wpAnyH_ready (rs := [5, 6]) (by kernel_rfl) (by simp) ?_
              refine AllReadyH.cons rfl (fun K hK => ?_) (AllReadyH.cons rfl (fun K hK => ?_) AllReadyH.nil)
              · go_simp
                with_reducible refine (HCall.out _ _ _ _ _ _ hA2 (hA2.below) (by omega)).mono ?_
                rintro e w5b ⟨g5, c5, rfl, hA5⟩
                refine hK.out _ _ (HS7.out _ (hA5.blk hx6 (by decide))) (fun hHeld => ?_)
                clear hK K
                try simp only [Act.put, List.setIfInBounds_toArray, List.set_cons_zero, List.set_cons_succ]
                refine wpAnyH_ready (rs := [6]) (by kernel_rfl) (by simp) ?_
                refine AllReadyH.cons rfl (fun K hK => ?_) AllReadyH.nil
                go_simp
                refine hK.out _ _ (HS7.out _ ((hA5.blk hx6 (by decide)).alloc (.cells #[.int .u8 10] 5))) (fun hHeld => ?_)
                clear hK K
                try simp only [Act.put, List.setIfInBounds_toArray, List.set_cons_zero, List.set_cons_succ]
                have hA6 := hA5.alloc hA5.own.base (.cells #[.int .u8 10] 5)
                have hbn := Blk.new w5b 5 #[.int .u8 10]
                refine wpAnyH_ready (rs := [7]) (by kernel_rfl) (by simp) ?_
                refine AllReadyH.cons rfl (fun K hK => ?_) AllReadyH.nil
                obtain ⟨v7, w7b, happ7, hA7, hs7⟩ := hA6.byte hA6.own.base 10 (by omega) (w5b.heap.size) 1 (hbn)
                obtain ⟨g7, c7, rfl⟩ := hA7.own.form
                with_reducible refine step_append_at (.tmp 27) (.tmp 28) happ7 (by kernel_rfl) (by kernel_rfl) (by kernel_rfl) (by kernel_rfl) (by kernel_rfl) ?_
                have hE := hA7
                have hb7 := hE.blk hbox6 (by decide)
                have q0 : w7b.cell? ⟨w1.heap.size + 1, 0, none⟩ = _ := hb7.cell 0
                have q1 : w7b.frozen? ⟨w1.heap.size + 1, 0, none⟩ = false := hb7.frozen 0
                refine hK.out _ _ (HS7.out _ (hE.blk hx6 (by decide))) (fun hHeld => ?_)
                clear hK K
                try simp only [Act.put, List.setIfInBounds_toArray, List.set_cons_zero, List.set_cons_succ]
                refine wpAnyH_ready (rs := [8]) (by kernel_rfl) (by simp) ?_
                refine AllReadyH.cons rfl (fun K hK => ?_) AllReadyH.nil
                go_simp
                refine hK.out _ _ (HS7.out _ ((Below.heap_setCell _ _ _ _ hBt).trans (hE.blk hx6 (by decide)))) (fun hHeld => ?_)
                clear hK K
                try simp only [Act.put, List.setIfInBounds_toArray, List.set_cons_zero, List.set_cons_succ]
                refine wpAnyH_done (by kernel_rfl) ?_ _
                exact HEnd.out _ _ hE
              · go_simp
                refine hK.out _ _ (HS7.out _ ((hA2.blk hx6 (by decide)).alloc (.cells #[.int .u8 10] 5))) (fun hHeld => ?_)
                clear hK K
                try simp only [Act.put, List.setIfInBounds_toArray, List.set_cons_zero, List.set_cons_succ]
                have hF := hA2.fence (.cells #[.int .u8 10] 5)
                have hE0 := hA2.alloc hA2.own.base (.cells #[.int .u8 10] 5)
                have hbn := Blk.new w2b 5 #[.int .u8 10]
                have hxF : Blk _ Bx _ _ := (hA2.blk hx6 (by decide)).alloc (.cells #[.int .u8 10] 5)
                refine wpAnyH_ready (rs := [5]) (by kernel_rfl) (by simp) ?_
                refine AllReadyH.cons rfl (fun K hK => ?_) AllReadyH.nil
                go_simp
                with_reducible refine (HCall.out _ _ _ _ _ _ hF (hE0.below.trans hF.below) (by omega)).mono ?_
                rintro e w5b ⟨g5, c5, rfl, hA5⟩
                refine hK.out _ _ (HS7.out _ (hA5.blk hxF (by decide))) (fun hHeld => ?_)
                clear hK K
                try simp only [Act.put, List.setIfInBounds_toArray, List.set_cons_zero, List.set_cons_succ]
                refine wpAnyH_ready (rs := [7]) (by kernel_rfl) (by simp) ?_
                refine AllReadyH.cons rfl (fun K hK => ?_) AllReadyH.nil
                obtain ⟨v7, w7b, happ7, hA7, hs7⟩ := hA5.byte hA5.own.base 10 (by omega) (w2b.heap.size) 1 ((hA5.go.same _ (by simp)).trans hbn)
                obtain ⟨g7, c7, rfl⟩ := hA7.own.form
                with_reducible refine step_append_at (.tmp 27) (.tmp 28) happ7 (by kernel_rfl) (by kernel_rfl) (by kernel_rfl) (by kernel_rfl) (by kernel_rfl) ?_
                have hE := hE0.on hA7.weak
                have hb7 := hE.blk hbox6 (by decide)
                have q0 : w7b.cell? ⟨w1.heap.size + 1, 0, none⟩ = _ := hb7.cell 0
                have q1 : w7b.frozen? ⟨w1.heap.size + 1, 0, none⟩ = false := hb7.frozen 0
                refine hK.out _ _ (HS7.out _ (hE.blk hx6 (by decide))) (fun hHeld => ?_)
                clear hK K
                try simp only [Act.put, List.setIfInBounds_toArray, List.set_cons_zero, List.set_cons_succ]
                refine wpAnyH_ready (rs := [8]) (by kernel_rfl) (by simp) ?_
                refine AllReadyH.cons rfl (fun K hK => ?_) AllReadyH.nil
                go_simp
                refine hK.out _ _ (HS7.out _ ((Below.heap_setCell _ _ _ _ hBt).trans (hE.blk hx6 (by decide)))) (fun hHeld => ?_)
                clear hK K
                try simp only [Act.put, List.setIfInBounds_toArray, List.set_cons_zero, List.set_cons_succ]
                refine wpAnyH_done (by kernel_rfl) ?_ _
                exact HEnd.out _ _ hE
            · go_simp
              refine hK.out _ _ (HS7.out _ (((show Blk W6.drew Bx _ _ from hx6).alloc (.cells #[.int .u8 32] 5)).alloc (.cells #[.int .u8 10] 5))) (fun hHeld => ?_)
              clear hK K
              try simp only [Act.put, List.setIfInBounds_toArray, List.set_cons_zero, List.set_cons_succ]
              have hF := hA1.fence (.cells #[.int .u8 10] 5)
              have hE0 := hA1.alloc hA1.own.base (.cells #[.int .u8 10] 5)
              have hbn := Blk.new (W6.drew.alloc (.cells #[.int .u8 32] 5)) 5 #[.int .u8 10]
              simp only [World.size_alloc, World.size_drew] at hbn
              have hxF : Blk _ Bx _ _ := ((show Blk W6.drew Bx _ _ from hx6).alloc (.cells #[.int .u8 32] 5)).alloc (.cells #[.int .u8 10] 5)
              have hbs := hbs.alloc (.cells #[.int .u8 10] 5)
              refine wpAnyH_ready (rs := [2]) (by kernel_rfl) (by simp) ?_
              refine AllReadyH.cons rfl (fun K hK => ?_) AllReadyH.nil
              obtain ⟨v2, w2b, happ2, hA2, hs2⟩ := hF.byte hF.own.base 32 (by omega) (W6.heap.size) 1 hbs
              obtain ⟨g2, c2, rfl⟩ := hA2.own.form
              with_reducible refine step_append_at (.tmp 22) (.tmp 23) happ2 (by kernel_rfl) (by kernel_rfl) (by kernel_rfl) (by kernel_rfl) (by kernel_rfl) ?_
              refine hK.out _ _ (HS7.out _ (hA2.blk hxF (by decide))) (fun hHeld => ?_)
              clear hK K
              try simp only [Act.put, List.setIfInBounds_toArray, List.set_cons_zero, List.set_cons_succ]
              refine wpAnyH_ready (rs := [5]) (by kernel_rfl) (by simp) ?_
              refine AllReadyH.cons rfl (fun K hK => ?_) AllReadyH.nil
              go_simp
              with_reducible refine (HCall.out _ _ _ _ _ _ hA2 (hE0.below.trans hA2.below) (by omega)).mono ?_
              rintro e w5b ⟨g5, c5, rfl, hA5⟩
              refine hK.out _ _ (HS7.out _ (hA5.blk hxF (by decide))) (fun hHeld => ?_)
              clear hK K
              try simp only [Act.put, List.setIfInBounds_toArray, List.set_cons_zero, List.set_cons_succ]
              refine wpAnyH_ready (rs := [7]) (by kernel_rfl) (by simp) ?_
              refine AllReadyH.cons rfl (fun K hK => ?_) AllReadyH.nil
              obtain ⟨v7, w7b, happ7, hA7, hs7⟩ := hA5.byte hA5.own.base 10 (by omega) (W6.heap.size + 1) 1 ((hA5.go.same _ (by simp)).trans hbn)
              obtain ⟨g7, c7, rfl⟩ := hA7.own.form
              with_reducible refine step_append_at (.tmp 27) (.tmp 28) happ7 (by kernel_rfl) (by kernel_rfl) (by kernel_rfl) (by kernel_rfl) (by kernel_rfl) ?_
              have hE := hE0.on hA7.weak
              have hb7 := hE.blk hbox6 (by decide)
              have q0 : w7b.cell? ⟨w1.heap.size + 1, 0, none⟩ = _ := hb7.cell 0
              have q1 : w7b.frozen? ⟨w1.heap.size + 1, 0, none⟩ = false := hb7.frozen 0
              refine hK.out _ _ (HS7.out _ (hE.blk hx6 (by decide))) (fun hHeld => ?_)
              clear hK K
              try simp only [Act.put, List.setIfInBounds_toArray, List.set_cons_zero, List.set_cons_succ]
              refine wpAnyH_ready (rs := [8]) (by kernel_rfl) (by simp) ?_
              refine AllReadyH.cons rfl (fun K hK => ?_) AllReadyH.nil
              go_simp
              refine hK.out _ _ (HS7.out _ ((Below.heap_setCell _ _ _ _ hBt).trans (hE.blk hx6 (by decide)))) (fun hHeld => ?_)
              clear hK K
              try simp only [Act.put, List.setIfInBounds_toArray, List.set_cons_zero, List.set_cons_succ]
              refine wpAnyH_done (by kernel_rfl) ?_ _
              exact HEnd.out _ _ hE
          · go_simp
            refine hK.out _ _ (HS7.out _ (((show Blk W6.drew Bx _ _ from hx6).alloc (.cells #[.int .u8 32] 5)).alloc (.cells #[.int .u8 10] 5))) (fun hHeld => ?_)
            clear hK K
            try simp only [Act.put, List.setIfInBounds_toArray, List.set_cons_zero, List.set_cons_succ]
            have hF := hA1.fence (.cells #[.int .u8 10] 5)
            have hE0 := hA1.alloc hA1.own.base (.cells #[.int .u8 10] 5)
            have hbn := Blk.new (W6.drew.alloc (.cells #[.int .u8 32] 5)) 5 #[.int .u8 10]
            simp only [World.size_alloc, World.size_drew] at hbn
            have hxF : Blk _ Bx _ _ := ((show Blk W6.drew Bx _ _ from hx6).alloc (.cells #[.int .u8 32] 5)).alloc (.cells #[.int .u8 10] 5)
            have hbs := hbs.alloc (.cells #[.int .u8 10] 5)
            refine wpAnyH_ready (rs := [0]) (by kernel_rfl) (by simp) ?_
            refine AllReadyH.cons rfl (fun K hK => ?_) AllReadyH.nil
            have b6b : ((W6.alloc (.cells #[.int .u8 32] 5)).alloc (.cells #[.int .u8 10] 5)).cell? ⟨w1.heap.size + 1, 0, none⟩ = some (.slice (some ⟨g6, 0, none⟩) acc1.size c6) := ((hbox6.alloc _).alloc _).cell 0
            go_simp
            refine hK.out _ _ (HS7.out _ (((show Blk W6.drew Bx _ _ from hx6).alloc (.cells #[.int .u8 32] 5)).alloc (.cells #[.int .u8 10] 5))) (fun hHeld => ?_)
            clear hK K
            try simp only [Act.put, List.setIfInBounds_toArray, List.set_cons_zero, List.set_cons_succ]
            refine wpAnyH_ready (rs := [2]) (by kernel_rfl) (by simp) ?_
            refine AllReadyH.cons rfl (fun K hK => ?_) AllReadyH.nil
            obtain ⟨v2, w2b, happ2, hA2, hs2⟩ := hF.byte hF.own.base 32 (by omega) (W6.heap.size) 1 hbs
            obtain ⟨g2, c2, rfl⟩ := hA2.own.form
            with_reducible refine step_append_at (.tmp 22) (.tmp 23) happ2 (by kernel_rfl) (by kernel_rfl) (by kernel_rfl) (by kernel_rfl) (by kernel_rfl) ?_
            refine hK.out _ _ (HS7.out _ (hA2.blk hxF (by decide))) (fun hHeld => ?_)
            clear hK K
            try simp only [Act.put, List.setIfInBounds_toArray, List.set_cons_zero, List.set_cons_succ]
            refine wpAnyH_ready (rs := [5]) (by kernel_rfl) (by simp) ?_
            refine AllReadyH.cons rfl (fun K hK => ?_) AllReadyH.nil
            go_simp
            with_reducible refine (HCall.out _ _ _ _ _ _ hA2 (hE0.below.trans hA2.below) (by omega)).mono ?_
            rintro e w5b ⟨g5, c5, rfl, hA5⟩
            refine hK.out _ _ (HS7.out _ (hA5.blk hxF (by decide))) (fun hHeld => ?_)
            clear hK K
            try simp only [Act.put, List.setIfInBounds_toArray, List.set_cons_zero, List.set_cons_succ]
            refine wpAnyH_ready (rs := [7]) (by kernel_rfl) (by simp) ?_
            refine AllReadyH.cons rfl (fun K hK => ?_) AllReadyH.nil
            obtain ⟨v7, w7b, happ7, hA7, hs7⟩ := hA5.byte hA5.own.base 10 (by omega) (W6.heap.size + 1) 1 ((hA5.go.same _ (by simp)).trans hbn)
            obtain ⟨g7, c7, rfl⟩ := hA7.own.form
            with_reducible refine step_append_at (.tmp 27) (.tmp 28) happ7 (by kernel_rfl) (by kernel_rfl) (by kernel_rfl) (by kernel_rfl) (by kernel_rfl) ?_
            have hE := hE0.on hA7.weak
            have hb7 := hE.blk hbox6 (by decide)
            have q0 : w7b.cell? ⟨w1.heap.size + 1, 0, none⟩ = _ := hb7.cell 0
            have q1 : w7b.frozen? ⟨w1.heap.size + 1, 0, none⟩ = false := hb7.frozen 0
            refine hK.out _ _ (HS7.out _ (hE.blk hx6 (by decide))) (fun hHeld => ?_)
            clear hK K
            try simp only [Act.put, List.setIfInBounds_toArray, List.set_cons_zero, List.set_cons_succ]
            refine wpAnyH_ready (rs := [8]) (by kernel_rfl) (by simp) ?_
            refine AllReadyH.cons rfl (fun K hK => ?_) AllReadyH.nil
            go_simp
            refine hK.out _ _ (HS7.out _ ((Below.heap_setCell _ _ _ _ hBt).trans (hE.blk hx6 (by decide)))) (fun hHeld => ?_)
            clear hK K
            try simp only [Act.put, List.setIfInBounds_toArray, List.set_cons_zero, List.set_cons_succ]
            refine wpAnyH_done (by kernel_rfl) ?_ _
            exact HEnd.out _ _ hE
        · go_simp
          refine hK.out _ _ (HS7.out _ ((show Blk W6.drew Bx _ _ from hx6).alloc (.cells #[.int .u8 10] 5))) (fun hHeld => ?_)
          clear hK K
          try simp only [Act.put, List.setIfInBounds_toArray, List.set_cons_zero, List.set_cons_succ]
          have hF := hA0.fence (.cells #[.int .u8 10] 5)
          have hE0 := hA0.alloc hA0.own.base (.cells #[.int .u8 10] 5)
          have hbn := Blk.new W6.drew 5 #[.int .u8 10]
          have hxF : Blk _ Bx _ _ := (show Blk W6.drew Bx _ _ from hx6).alloc (.cells #[.int .u8 10] 5)
          refine wpAnyH_ready (rs := [0, 1]) (by kernel_rfl) (by simp) ?_
          refine AllReadyH.cons rfl (fun K hK => ?_) (AllReadyH.cons rfl (fun K hK => ?_) AllReadyH.nil)
          · go_simp
            refine hK.out _ _ (HS7.out _ ((show Blk W6.drew Bx _ _ from hx6).alloc (.cells #[.int .u8 10] 5))) (fun hHeld => ?_)
            clear hK K
            try simp only [Act.put, List.setIfInBounds_toArray, List.set_cons_zero, List.set_cons_succ]
            refine wpAnyH_ready (rs := [1]) (by kernel_rfl) (by simp) ?_
            refine AllReadyH.cons rfl (fun K hK => ?_) AllReadyH.nil
            go_simp
            refine hK.out _ _ (HS7.out _ (((show Blk W6.drew Bx _ _ from hx6).alloc (.cells #[.int .u8 10] 5)).alloc (.cells #[.int .u8 32] 5))) (fun hHeld => ?_)
            clear hK K
            try simp only [Act.put, List.setIfInBounds_toArray, List.set_cons_zero, List.set_cons_succ]
            have hA1 := hF.alloc hF.own.base (.cells #[.int .u8 32] 5)
            have hbs := Blk.new (W6.drew.alloc (.cells #[.int .u8 10] 5)) 5 #[.int .u8 32]
            simp only [World.size_alloc, World.size_drew] at hbs
            refine wpAnyH_ready (rs := [2]) (by kernel_rfl) (by simp) ?_
            refine AllReadyH.cons rfl (fun K hK => ?_) AllReadyH.nil
            obtain ⟨v2, w2b, happ2, hA2, hs2⟩ := hA1.byte hA1.own.base 32 (by omega) (W6.heap.size + 1) 1 hbs
            obtain ⟨g2, c2, rfl⟩ := hA2.own.form
            with_reducible refine step_append_at (.tmp 22) (.tmp 23) happ2 (by kernel_rfl) (by kernel_rfl) (by kernel_rfl) (by kernel_rfl) (by kernel_rfl) ?_
            refine hK.out _ _ (HS7.out _ (hA2.blk hxF (by decide))) (fun hHeld => ?_)
            clear hK K
            try simp only [Act.put, List.setIfInBounds_toArray, List.set_cons_zero, List.set_cons_succ]
            refine wpAnyH_ready (rs := [5]) (by kernel_rfl) (by simp) ?_
            refine AllReadyH.cons rfl (fun K hK => ?_) AllReadyH.nil
            go_simp
            with_reducible refine (HCall.out _ _ _ _ _ _ hA2 (hE0.below.trans hA2.below) (by omega)).mono ?_
            rintro e w5b ⟨g5, c5, rfl, hA5⟩
            refine hK.out _ _ (HS7.out _ (hA5.blk hxF (by decide))) (fun hHeld => ?_)
            clear hK K
            try simp only [Act.put, List.setIfInBounds_toArray, List.set_cons_zero, List.set_cons_succ]
            refine wpAnyH_ready (rs := [7]) (by kernel_rfl) (by simp) ?_
            refine AllReadyH.cons rfl (fun K hK => ?_) AllReadyH.nil
            obtain ⟨v7, w7b, happ7, hA7, hs7⟩ := hA5.byte hA5.own.base 10 (by omega) (W6.heap.size) 1 ((hA5.go.same _ (by simp)).trans hbn)
            obtain ⟨g7, c7, rfl⟩ := hA7.own.form
            with_reducible refine step_append_at (.tmp 27) (.tmp 28) happ7 (by kernel_rfl) (by kernel_rfl) (by kernel_rfl) (by kernel_rfl) (by kernel_rfl) ?_
            have hE := hE0.on hA7.weak
            have hb7 := hE.blk hbox6 (by decide)
            have q0 : w7b.cell? ⟨w1.heap.size + 1, 0, none⟩ = _ := hb7.cell 0
            have q1 : w7b.frozen? ⟨w1.heap.size + 1, 0, none⟩ = false := hb7.frozen 0
            refine hK.out _ _ (HS7.out _ (hE.blk hx6 (by decide))) (fun hHeld => ?_)
            clear hK K
            try simp only [Act.put, List.setIfInBounds_toArray, List.set_cons_zero, List.set_cons_succ]
            refine wpAnyH_ready (rs := [8]) (by kernel_rfl) (by simp) ?_
            refine AllReadyH.cons rfl (fun K hK => ?_) AllReadyH.nil
            go_simp
            refine hK.out _ _ (HS7.out _ ((Below.heap_setCell _ _ _ _ hBt).trans (hE.blk hx6 (by decide)))) (fun hHeld => ?_)
            clear hK K
            try simp only [Act.put, List.setIfInBounds_toArray, List.set_cons_zero, List.set_cons_succ]
            refine wpAnyH_done (by kernel_rfl) ?_ _
            exact HEnd.out _ _ hE
          · go_simp
            refine hK.out _ _ (HS7.out _ (((show Blk W6.drew Bx _ _ from hx6).alloc (.cells #[.int .u8 10] 5)).alloc (.cells #[.int .u8 32] 5))) (fun hHeld => ?_)
            clear hK K
            try simp only [Act.put, List.setIfInBounds_toArray, List.set_cons_zero, List.set_cons_succ]
            have hA1 := hF.alloc hF.own.base (.cells #[.int .u8 32] 5)
            have hbs := Blk.new (W6.drew.alloc (.cells #[.int .u8 10] 5)) 5 #[.int .u8 32]
            simp only [World.size_alloc, World.size_drew] at hbs
            refine wpAnyH_ready (rs := [0]) (by kernel_rfl) (by simp) ?_
            refine AllReadyH.cons rfl (fun K hK => ?_) AllReadyH.nil
            have b6b : ((W6.alloc (.cells #[.int .u8 10] 5)).alloc (.cells #[.int .u8 32] 5)).cell? ⟨w1.heap.size + 1, 0, none⟩ = some (.slice (some ⟨g6, 0, none⟩) acc1.size c6) := ((hbox6.alloc _).alloc _).cell 0
            go_simp
            refine hK.out _ _ (HS7.out _ (((show Blk W6.drew Bx _ _ from hx6).alloc (.cells #[.int .u8 10] 5)).alloc (.cells #[.int .u8 32] 5))) (fun hHeld => ?_)
            clear hK K
            try simp only [Act.put, List.setIfInBounds_toArray, List.set_cons_zero, List.set_cons_succ]
            refine wpAnyH_ready (rs := [2]) (by kernel_rfl) (by simp) ?_
            refine AllReadyH.cons rfl (fun K hK => ?_) AllReadyH.nil
            obtain ⟨v2, w2b, happ2, hA2, hs2⟩ := hA1.byte hA1.own.base 32 (by omega) (W6.heap.size + 1) 1 hbs
            obtain ⟨g2, c2, rfl⟩ := hA2.own.form
            with_reducible refine step_append_at (.tmp 22) (.tmp 23) happ2 (by kernel_rfl) (by kernel_rfl) (by kernel_rfl) (by kernel_rfl) (by kernel_rfl) ?_
            refine hK.out _ _ (HS7.out _ (hA2.blk hxF (by decide))) (fun hHeld => ?_)
            clear hK K
            try simp only [Act.put, List.setIfInBounds_toArray, List.set_cons_zero, List.set_cons_succ]
            refine wpAnyH_ready (rs := [5]) (by kernel_rfl) (by simp) ?_
            refine AllReadyH.cons rfl (fun K hK => ?_) AllReadyH.nil
            go_simp
            with_reducible refine (HCall.out _ _ _ _ _ _ hA2 (hE0.below.trans hA2.below) (by omega)).mono ?_
            rintro e w5b ⟨g5, c5, rfl, hA5⟩
            refine hK.out _ _ (HS7.out _ (hA5.blk hxF (by decide))) (fun hHeld => ?_)
            clear hK K
            try simp only [Act.put, List.setIfInBounds_toArray, List.set_cons_zero, List.set_cons_succ]
            refine wpAnyH_ready (rs := [7]) (by kernel_rfl) (by simp) ?_
            refine AllReadyH.cons rfl (fun K hK => ?_) AllReadyH.nil
            obtain ⟨v7, w7b, happ7, hA7, hs7⟩ := hA5.byte hA5.own.base 10 (by omega) (W6.heap.size) 1 ((hA5.go.same _ (by simp)).trans hbn)
            obtain ⟨g7, c7, rfl⟩ := hA7.own.form
            with_reducible refine step_append_at (.tmp 27) (.tmp 28) happ7 (by kernel_rfl) (by kernel_rfl) (by kernel_rfl) (by kernel_rfl) (by kernel_rfl) ?_
            have hE := hE0.on hA7.weak
            have hb7 := hE.blk hbox6 (by decide)
            have q0 : w7b.cell? ⟨w1.heap.size + 1, 0, none⟩ = _ := hb7.cell 0
            have q1 : w7b.frozen? ⟨w1.heap.size + 1, 0, none⟩ = false := hb7.frozen 0
            refine hK.out _ _ (HS7.out _ (hE.blk hx6 (by decide))) (fun hHeld => ?_)
            clear hK K
            try simp only [Act.put, List.setIfInBounds_toArray, List.set_cons_zero, List.set_cons_succ]
            refine wpAnyH_ready (rs := [8]) (by kernel_rfl) (by simp) ?_
            refine AllReadyH.cons rfl (fun K hK => ?_) AllReadyH.nil
            go_simp
            refine hK.out _ _ (HS7.out _ ((Below.heap_setCell _ _ _ _ hBt).trans (hE.blk hx6 (by decide)))) (fun hHeld => ?_)
            clear hK K
            try simp only [Act.put, List.setIfInBounds_toArray, List.set_cons_zero, List.set_cons_succ]
            refine wpAnyH_done (by kernel_rfl) ?_ _
            exact HEnd.out _ _ hE
      refine Small.wpIn_region_round (S := fun w' => w'.cell? ⟨Bx, 0, none⟩ = some (.int .i64 k.o)) hmx (by kernel_rfl) (fun ⟨a, w, h⟩ => (show False from h)) (HS6.out _ (show Blk W.drew Bx _ _ from hx)) (fun hHeld => ?_)
      refine wpAnyH_take (i := 3) (v := .pointer (some ⟨Bx, 0, none⟩)) rfl (by kernel_rfl) (by kernel_rfl) (by kernel_rfl) (fun _ _ _ h => h) (Or.inl ⟨by rfl, ?_⟩) (by assumption) ?_
      · intro w hSw
        go_simp
      simp only [Act.put, List.setIfInBounds_toArray, List.set_cons_zero, List.set_cons_succ]
      refine wpAnyH_take (i := 4) (v := .int .i64 k.o) rfl (by kernel_rfl) (by kernel_rfl) (by kernel_rfl) (fun _ _ _ h => h) (Or.inl ⟨by rfl, ?_⟩) (by assumption) ?_
      · intro w' s0
        go_simp
      simp only [Act.put, List.setIfInBounds_toArray, List.set_cons_zero, List.set_cons_succ]
      refine wpAnyH_ready (rs := [0, 1]) (by kernel_rfl) (by simp) ?_
      refine AllReadyH.cons rfl (fun K hK => ?_) (AllReadyH.cons rfl (fun K hK => ?_) AllReadyH.nil)
      · go_simp
        refine hK.out _ _ (HS6.out _ (show Blk W.drew Bx _ _ from hx)) (fun hHeld => ?_)
        clear hK K
        try simp only [Act.put, List.setIfInBounds_toArray, List.set_cons_zero, List.set_cons_succ]
        refine wpAnyH_ready (rs := [1]) (by kernel_rfl) (by simp) ?_
        refine AllReadyH.cons rfl (fun K hK => ?_) AllReadyH.nil
        go_simp
        refine hK.out _ _ (HS6.out _ ((show Blk W.drew Bx _ _ from hx).alloc _)) (fun hHeld => ?_)
        clear hK K
        try simp only [Act.put, List.setIfInBounds_toArray, List.set_cons_zero, List.set_cons_succ]
        refine wpAnyH_ready (rs := [2]) (by kernel_rfl) (by simp) ?_
        refine AllReadyH.cons rfl (fun K hK => ?_) AllReadyH.nil
        with_reducible refine step_append_at (.tmp 16) (.tmp 17) happ2 (by kernel_rfl) (by kernel_rfl) (by kernel_rfl) (by kernel_rfl) (by kernel_rfl) ?_
        refine hK.out _ _ (HS6.out _ (HA2.out.blk hx (by decide))) (fun hHeld => ?_)
        clear hK K
        try simp only [Act.put, List.setIfInBounds_toArray, List.set_cons_zero, List.set_cons_succ]
        refine wpAnyH_ready (rs := [5]) (by kernel_rfl) (by simp) ?_
        refine AllReadyH.cons rfl (fun K hK => ?_) AllReadyH.nil
        go_simp
        with_reducible refine HC6.out.mono ?_
        rintro e w3 ⟨g3, c3, rfl, ⟨q0, q1⟩, hA3⟩
        refine hK.out _ _ (HS6.out _ (hA3.out.blk hx (by decide))) (fun hHeld => ?_)
        clear hK K
        try simp only [Act.put, List.setIfInBounds_toArray, List.set_cons_zero, List.set_cons_succ]
        refine wpAnyH_ready (rs := [6]) (by kernel_rfl) (by simp) ?_
        refine AllReadyH.cons rfl (fun K hK => ?_) AllReadyH.nil
        go_simp
        refine hK.out _ _ (HS6.out _ ((Below.heap_setCell _ _ _ _ hBt).trans (hA3.out.blk hx (by decide)))) (fun hHeld => ?_)
        clear hK K
        try simp only [Act.put, List.setIfInBounds_toArray, List.set_cons_zero, List.set_cons_succ]
        refine wpAnyH_done (by kernel_rfl) ?_ _
        exact HK7.out _ _ _ _ _ _ _ g3 c3 hA3.out
      · go_simp
        refine hK.out _ _ (HS6.out _ ((show Blk W.drew Bx _ _ from hx).alloc _)) (fun hHeld => ?_)
        clear hK K
        try simp only [Act.put, List.setIfInBounds_toArray, List.set_cons_zero, List.set_cons_succ]
        refine wpAnyH_ready (rs := [0]) (by kernel_rfl) (by simp) ?_
        refine AllReadyH.cons rfl (fun K hK => ?_) AllReadyH.nil
        go_simp
        refine hK.out _ _ (HS6.out _ ((show Blk W.drew Bx _ _ from hx).alloc _)) (fun hHeld => ?_)
        clear hK K
        try simp only [Act.put, List.setIfInBounds_toArray, List.set_cons_zero, List.set_cons_succ]
        refine wpAnyH_ready (rs := [2]) (by kernel_rfl) (by simp) ?_
        refine AllReadyH.cons rfl (fun K hK => ?_) AllReadyH.nil
        with_reducible refine step_append_at (.tmp 16) (.tmp 17) happ2 (by kernel_rfl) (by kernel_rfl) (by kernel_rfl) (by kernel_rfl) (by kernel_rfl) ?_
        refine hK.out _ _ (HS6.out _ (HA2.out.blk hx (by decide))) (fun hHeld => ?_)
        clear hK K
        try simp only [Act.put, List.setIfInBounds_toArray, List.set_cons_zero, List.set_cons_succ]
        refine wpAnyH_ready (rs := [5]) (by kernel_rfl) (by simp) ?_
        refine AllReadyH.cons rfl (fun K hK => ?_) AllReadyH.nil
        go_simp
        with_reducible refine HC6.out.mono ?_
        rintro e w3 ⟨g3, c3, rfl, ⟨q0, q1⟩, hA3⟩
        refine hK.out _ _ (HS6.out _ (hA3.out.blk hx (by decide))) (fun hHeld => ?_)
        clear hK K
        try simp only [Act.put, List.setIfInBounds_toArray, List.set_cons_zero, List.set_cons_succ]
        refine wpAnyH_ready (rs := [6]) (by kernel_rfl) (by simp) ?_
        refine AllReadyH.cons rfl (fun K hK => ?_) AllReadyH.nil
        go_simp
        refine hK.out _ _ (HS6.out _ ((Below.heap_setCell _ _ _ _ hBt).trans (hA3.out.blk hx (by decide)))) (fun hHeld => ?_)
        clear hK K
        try simp only [Act.put, List.setIfInBounds_toArray, List.set_cons_zero, List.set_cons_succ]
        refine wpAnyH_done (by kernel_rfl) ?_ _
        exact HK7.out _ _ _ _ _ _ _ g3 c3 hA3.out
    case done =>
      rintro D ys W hD hS ⟨⟨⟨v, hbox, hq⟩, -, -⟩, hB, hsz⟩ hK
      have hys : ys.map KEl.k = xs := by rw [hS]; simp
      rw [hys, HN.out] at hq
      have b0 : W.cell? ⟨w1.heap.size + 1, 0, none⟩ = some v := hbox.cell 0
      have hcv := run_convert_own (P := Tryd.prog) 54 5 9 Tryd.underlying54 Tryd.underlying5 Tryd.underlying9 hq.own
      obtain ⟨g, cp, rfl⟩ := hq.form
      clear hbox hq
      gi_wp2
      refine ⟨by simp, .inl ⟨_, _, rfl, run_takeDeferred hK, ?_⟩⟩
      exact ⟨_, results_tmp rfl _ _ _, rfl, hB.trans (belowK_b (w := w) (Nat.le_refl _) W D _ _ (by omega) hK rfl rfl)⟩
    case stop =>
      rintro D c pre W _ _ h _
      exact h.elim
end Go.Proofs.YtemlpiokdoeeeaaDoor
