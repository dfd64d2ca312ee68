/- What is drawn: records. -/
import Derived.Test.YtmomdflfjcboiaaDrawc
import Derived.Test.YtmomdflfjcboiaaApp
import Derived.Test.YtmomdflfjcboiaaTo
namespace Go.Proofs.Ytmomdflfjcboiaa
open Go.RowKit

/-- A row of the call's own that holds texts. -/
def OwnT (ks : Ks) (base : Nat) (w : World) (v : Value) (fs : List ByteArray) : Prop := w.ownsRow base 9 1 v fs.length (fs.map Value.string) ∧ ∀ s ∈ fs, Near ks s

theorem own_keep {base e size n g : Nat} {w w' : World} {v : Value} {xs : List Value} (h : w.ownsRow base e size v n xs) (hg : w.grownBy w' (some g)) (hb : g < base) : w'.ownsRow base e size v n xs := by
  refine h.kept hg ?_
  rcases h.2 with ⟨rfl, _⟩ | ⟨g', cap, cur, rfl, hg', _⟩
  · exact .inl rfl
  · right
    simp [Value.ownBlock]
    omega
theorem OwnT.keep {ks : Ks} {base g : Nat} {w w' : World} {v : Value} {fs : List ByteArray} (h : OwnT ks base w v fs) (hg : w.grownBy w' (some g)) (hb : g < base) : OwnT ks base w' v fs := ⟨own_keep h.1 hg hb, h.2⟩
theorem OwnT.nil {ks : Ks} {base : Nat} {w : World} : OwnT ks base w (.slice none 0 0) [] := ⟨World.ownsRow_nil _ _ _ _, fun _ h => by simp at h⟩
theorem OwnT.sl {ks : Ks} {base : Nat} {w : World} {v : Value} {fs : List ByteArray} (h : OwnT ks base w v fs) : Cod.str.Sl (fun b => base ≤ b ∧ b < w.heap.size) w v fs := by
  obtain ⟨h, hs⟩ := h
  rcases h.2 with ⟨rfl, h0⟩ | ⟨g, cap, cur, rfl, hg, hh, hn, hc, hcs, ht⟩
  · have : fs = [] := List.eq_nil_of_length_eq_zero h0
    subst this
    exact Cod.Sl.nil_
  · have hB : Blk w g 9 cur := hh
    refine ⟨_, cap, rfl, hn, hc, fun _ => ⟨g, 0, rfl, ⟨hg, hB.lt⟩, fun i x hi => ⟨[.string x], fun j u hu => ?_, rfl, by have := (hs x (List.mem_of_getElem? hi)).1; unfold maxLen; omega⟩⟩⟩
    have hj : j = 0 := by
      have := (List.getElem?_eq_some_iff.1 hu).1
      simp at this; exact this
    subst hj
    simp at hu
    subst hu
    have hil : i < fs.length := (List.getElem?_eq_some_iff.1 hi).1
    rw [hB.cell, Nat.zero_add]
    have : (cur.toList.take (fs.length * 1))[i]? = some (.string x) := by rw [ht]; simp [hi]
    rw [List.getElem?_take] at this
    simp at this
    simpa [Cod.str] using this.2

/-- x.Fields = append(x.Fields, s), the texts so far in a row of the call's own. -/
theorem OwnT.push {ks : Ks} {base : Nat} {w : World} {v : Value} {fs : List ByteArray} (h : OwnT ks base w v fs) (hn : fs.length ≤ 1000) (hb : base ≤ w.heap.size) (s : ByteArray) (hs : Near ks s) (c : Nat) :
    ∃ g cap w', (Builtin.append_ #[37, 37] 37 #[v, .slice (some ⟨w.heap.size, 0, none⟩) 1 c]).run Try.prog (w.alloc (.cells #[.string s] 9)) = .ok (.slice (some ⟨g, 0, none⟩) (fs.length + 1) cap) w' ∧
      OwnT ks base w' (.slice (some ⟨g, 0, none⟩) (fs.length + 1) cap) (fs ++ [s]) ∧ (∀ i, i < base → w'.heap[i]? = w.heap[i]?) ∧ Below base w w' ∧ base ≤ g := by
  have ho : (w.alloc (.cells #[.string s] 9)).ownsRow base 9 1 v fs.length (fs.map Value.string) := h.1.alloc _
  obtain ⟨g, cap, w', hr, ho', hg, hbg⟩ := append_one (P := Try.prog) base 37 37 9 _ 1 16 Try.underlying37 info_str rfl (by omega) (by omega) v fs.length _ ho (by omega) w.heap.size c [.string s] rfl (Blk.new w 9 #[.string s]) (fun u hu => by simp at hu; subst hu; rfl) (by simp; omega)
  have hB : Below base w w' := ((Below.refl base w).alloc hb _).trans ⟨hg.os, hg.tape, hg.output, hg.size, fun i hi => hg.block i (by simp; omega) (by
    rcases h.1.2 with ⟨rfl, _⟩ | ⟨g', _, _, rfl, hg', _⟩
    · simp [Value.ownBlock]
    · simp [Value.ownBlock]; omega)⟩
  refine ⟨g, cap, w', hr, ⟨?_, fun x hx => ?_⟩, fun i hi => hB.block i hi, hB, hbg⟩
  · have e : (fs ++ [s]).length = fs.length + 1 := by simp
    rw [e, List.map_append]
    exact ho'
  · rcases List.mem_append.1 hx with hx | hx
    · exact h.2 x hx
    · simp at hx; subst hx; exact hs

/-- A drawn record. -/
def RecD (g p N : Nat) (ks : Ks) (W : World) (e : Ending) (w' : World) : Prop :=
  ∃ (able : Int) (v : Value) (fs : List ByteArray), e = .returned (.agg #[.int .i64 able, v]) ∧ I64 able ∧ fs.length ≤ 4 ∧ Cod.str.Sl (Fresh W w') w' v fs ∧ (∀ f ∈ fs, Near ks f) ∧ Step g p N W w'

theorem lit_ints (w : World) (cs : Array Value) (xs : List Int) (hn : xs.length ≤ 1000) (hcs : cs = (xs.map (Value.int .i64)).toArray) :
    Cod.int.Sl (fun b => b = w.heap.size) (w.alloc (.cells cs 3)) (.slice (some ⟨w.heap.size, 0, none⟩) xs.length xs.length) xs := (Blk.new w 3 cs).ints xs hn fun i x hi => by rw [hcs]; simp [hi]
theorem lit_texts (w : World) (cs : Array Value) (xs : List ByteArray) (hn : xs.length ≤ 1000) (hcs : cs = (xs.map Value.string).toArray) (hs : ∀ x ∈ xs, x.size ≤ 50) :
    Cod.str.Sl (fun b => b = w.heap.size) (w.alloc (.cells cs 9)) (.slice (some ⟨w.heap.size, 0, none⟩) xs.length xs.length) xs := (Blk.new w 9 cs).strs xs hn fun i x hi => by
  rw [hcs]
  refine ⟨by simp [hi], ?_⟩
  have := hs x (List.mem_of_getElem? hi)
  unfold maxLen; omega

theorem grown_drew {w w' : World} {r : Option Nat} (h : w.drew.grownBy w' r) : w.grownBy w' r := ⟨h.os, h.tape, h.output, h.size, h.block⟩

def NumS (xs : List Int) (g p N : Nat) (W0 W : World) (e : Ending) (w' : World) : Prop := ∃ s, s ∈ xs ∧ e = .returned (.int .i64 s) ∧ Step g p (N + 1) W0 w' ∧ W.grownBy w' (some g)
def OfS (xs : List ByteArray) (g p N : Nat) (W0 W : World) (e : Ending) (w' : World) : Prop := ∃ s, s ∈ xs ∧ e = .returned (.string s) ∧ Step g p (N + 1) W0 w' ∧ W.grownBy w' (some g)
def TypeS (g p N : Nat) (ks : Ks) (W0 W : World) (e : Ending) (w' : World) : Prop := ∃ t : ByteArray, Near ks t ∧ e = .returned (.string t) ∧ Step g p (N + 6) W0 w' ∧ W.grownBy w' (some g)
/-- As PickS, and what the call itself has turned. -/
def PickT (g p N : Nat) (n : Int) (W0 W : World) (e : Ending) (w' : World) : Prop := ∃ k : Nat, e = .returned (.int .i64 (k : Int)) ∧ ((k : Int) < n ∨ k = 0) ∧ Step g p (N + 1) W0 w' ∧ W.grownBy w' (some g)
theorem pick_at {g p N : Nat} {n : Int} {w0 w : World} (h : Step g p N w0 w) (hp : p + N ≤ 100000000) (hn : n ≤ 100000) :
    Calls Try.prog 38 #[.pointer (some ⟨g, 0, none⟩), .int .i64 n] w (PickT g p N n w0 w) := by
  obtain ⟨⟨q, hq, hr⟩, hg⟩ := h
  refine (pick_any g q n w hr (by omega) hn).mono ?_
  rintro e w' ⟨k, rfl, hk, hr', hg', _⟩
  exact ⟨k, rfl, hk, ⟨⟨q + 1, by omega, hr'⟩, grown_trans hg hg'⟩, hg'⟩

/-- A literal's row of numbers, and one of them. -/
theorem num_step {g p N : Nat} {w0 w : World} {cs : Array Value} {xs : List Int} {b : Nat} (h : Step g p N w0 w) (hp : p + N ≤ 100000000) (hb : b = w.heap.size) (hcs : cs = (xs.map (Value.int .i64)).toArray) (h0 : 0 < xs.length) (hn : xs.length ≤ 1000) :
    Calls Try.prog 57 #[.pointer (some ⟨g, 0, none⟩), .slice (some ⟨b, 0, none⟩) xs.length xs.length] (w.alloc (.cells cs 3)) (NumS xs g p N w0 (w.alloc (.cells cs 3))) := by
  subst hb
  obtain ⟨⟨q, hq, hr⟩, hg⟩ := h
  have hl := hr.lt
  refine (num_any (fun b => b = w.heap.size) g q _ xs _ (hr.keep (fun i hi => Below.heap_alloc _ _ _ hi) (by simp)) (by omega) (lit_ints w cs xs hn hcs) (fun b hb => by subst hb; simp; omega) h0 hn).mono ?_
  rintro e w' ⟨s, hs, rfl, ⟨⟨q', hq', hr'⟩, hg'⟩, _⟩
  exact ⟨s, hs, rfl, ⟨⟨q', by omega, hr'⟩, grown_trans hg (grown_trans (World.grownBy_alloc w _ _) hg')⟩, hg'⟩
theorem of_step {g p N : Nat} {w0 w : World} {cs : Array Value} {xs : List ByteArray} {b : Nat} (h : Step g p N w0 w) (hp : p + N ≤ 100000000) (hb : b = w.heap.size) (hcs : cs = (xs.map Value.string).toArray) (h0 : 0 < xs.length) (hn : xs.length ≤ 1000) (hs : ∀ x ∈ xs, x.size ≤ 50) :
    Calls Try.prog 65 #[.pointer (some ⟨g, 0, none⟩), .slice (some ⟨b, 0, none⟩) xs.length xs.length] (w.alloc (.cells cs 9)) (OfS xs g p N w0 (w.alloc (.cells cs 9))) := by
  subst hb
  obtain ⟨⟨q, hq, hr⟩, hg⟩ := h
  have hl := hr.lt
  refine (of_any (fun b => b = w.heap.size) g q _ xs _ (hr.keep (fun i hi => Below.heap_alloc _ _ _ hi) (by simp)) (by omega) (lit_texts w cs xs hn hcs hs) (fun b hb => by subst hb; simp; omega) h0 hn).mono ?_
  rintro e w' ⟨s, hs, rfl, ⟨⟨q', hq', hr'⟩, hg'⟩, _⟩
  exact ⟨s, hs, rfl, ⟨⟨q', by omega, hr'⟩, grown_trans hg (grown_trans (World.grownBy_alloc w _ _) hg')⟩, hg'⟩
theorem type_step {F : Nat → Prop} {g p N : Nat} {v : Value} {ks : Ks} {refs : Bool} {w0 w : World} (h : Step g p N w0 w) (hp : p + N ≤ 90000000) (hv : Cod.recs.Sl F w0 v ks) (hF : ∀ b, F b → b < w0.heap.size ∧ b ≠ g) (h1 : ks.length ≤ 10) (h2 : ∀ r ∈ ks, r.length ≤ 10) :
    Calls Try.prog 78 #[.pointer (some ⟨g, 0, none⟩), v, .bool refs] w (TypeS g p N ks w0 w) := by
  obtain ⟨q, hq, hr⟩ := h.rdr
  refine (type_any F g q v ks refs w hr (by omega) (hv.keep (h.keeps hF)) (h.ups hF) h1 h2).mono ?_
  rintro e w' ⟨t, ht, rfl, ⟨⟨q', hq', hr'⟩, hg'⟩⟩
  exact ⟨t, ht, rfl, ⟨⟨q', by omega, hr'⟩, grown_trans h.grown hg'⟩, hg'⟩
theorem Step.blk {g p N b : Nat} {a w : World} {t : TypeId} {cs : Array Value} (h : Step g p N a w) (hB : Blk a b t cs) (hb : b ≠ g) : Blk w b t cs := (h.grown.block b hB.lt (by simp; omega)).trans hB
theorem Step.size {g p N : Nat} {a w : World} (h : Step g p N a w) : a.heap.size ≤ w.heap.size := h.grown.size
/-- A store into a block that is new. -/
theorem Step.set_ {g p N b o : Nat} {a w : World} {u : Value} (h : Step g p N a w) (hb : a.heap.size ≤ b) (hg : g < a.heap.size) : Step g p N a (w.setCell ⟨b, o, none⟩ u) := by
  obtain ⟨⟨q, hq, hr⟩, hgr⟩ := h
  exact ⟨⟨q, hq, hr.keep' fun i hi => Below.heap_setCell _ _ _ _ (by simp; omega)⟩, ⟨hgr.os, hgr.tape, hgr.output, by simpa [World.setCell] using hgr.size, fun i hi hn => (Below.heap_setCell _ _ _ _ (by simp; omega)).trans (hgr.block i hi hn)⟩⟩
theorem Step.far {g p N B : Nat} {a w w' : World} (h : Step g p N a w) (hB : a.heap.size ≤ B) (hg : g < a.heap.size) (hb : Below B w w') : Step g p N a w' := by
  obtain ⟨⟨q, hq, hr⟩, hgr⟩ := h
  exact ⟨⟨q, hq, hr.keep' fun i hi => hb.block i (by omega)⟩, ⟨hb.os.trans hgr.os, hb.tape.trans hgr.tape, hb.output.trans hgr.output, Nat.le_trans hgr.size hb.size, fun i hi hn => (hb.block i (by omega)).trans (hgr.block i hi hn)⟩⟩

/-- What is known while a record is drawn: its two variables, and the row of its fields. -/
structure Drawing (ks : Ks) (g p N : Nat) (w : World) (x : Nat) (able : Int) (v : Value) (fs : List ByteArray) (wr : World) : Prop where
  step : Step g p N w wr
  res : Blk wr w.heap.size 67 #[.int .i64 0, .slice none 0 0]
  var : Blk wr x 67 #[.int .i64 able, v]
  own : OwnT ks (x + 1) wr v fs
theorem Drawing.go {ks : Ks} {g p N M x : Nat} {w wr w' : World} {able : Int} {v : Value} {fs : List ByteArray} (h : Drawing ks g p N w x able v fs wr) (hg : g < w.heap.size) (hx : w.heap.size < x) (hs : Step g p M w w') (hb : wr.grownBy w' (some g)) : Drawing ks g p M w x able v fs w' :=
  ⟨hs, (hb.block _ h.res.lt (by simp; omega)).trans h.res, (hb.block _ h.var.lt (by simp; omega)).trans h.var, h.own.keep hb (by omega)⟩

theorem val_int {k : IntKind} {a b : Int} (h : a = b) : Value.int k a = Value.int k b := by rw [h]
theorem Drawing.more {ks : Ks} {g p N M x : Nat} {w wr : World} {able : Int} {v : Value} {fs : List ByteArray} (h : Drawing ks g p N w x able v fs wr) (hm : N ≤ M) : Drawing ks g p M w x able v fs wr := ⟨h.step.more hm, h.res, h.var, h.own⟩
/-- A field has been appended. -/
theorem Drawing.put {ks : Ks} {g p N x : Nat} {w wa w4 : World} {able : Int} {v v' : Value} {fs fs' : List ByteArray} (h : Drawing ks g p N w x able v fs wa) (hg : g < w.heap.size) (hx : w.heap.size < x) (hb : Below (x + 1) wa w4) (ho : OwnT ks (x + 1) w4 v' fs') : Drawing ks g p N w x able v' fs' (w4.setCell ⟨x, 1, none⟩ v') := by
  have hs : Step g p N w w4 := h.step.far (by omega) hg hb
  refine ⟨hs.set_ (by omega) hg, ?_, ?_, ⟨ownsRow_setCell_below ho.1 (by simp) _, ho.2⟩⟩
  · exact (Below.heap_setCell _ _ _ _ (by simp; omega)).trans ((hb.block _ (by omega)).trans h.res)
  · have hv : Blk w4 x 67 #[.int .i64 able, v] := (hb.block _ (by omega)).trans h.var
    exact hv.set_ 1 v'
/-- The abilities have been set. -/
theorem Drawing.turn {ks : Ks} {g p N x : Nat} {w wa : World} {able able' : Int} {v : Value} {fs : List ByteArray} (h : Drawing ks g p N w x able v fs wa) (hg : g < w.heap.size) (hx : w.heap.size < x) : Drawing ks g p N w x able' v fs (wa.setCell ⟨x, 0, none⟩ (.int .i64 able')) := by
  refine ⟨h.step.set_ (by omega) hg, ?_, ?_, ⟨ownsRow_setCell_below h.own.1 (by simp) _, h.own.2⟩⟩
  · exact (Below.heap_setCell _ _ _ _ (by simp; omega)).trans h.res
  · exact h.var.set_ 0 (.int .i64 able')

theorem near_odd {ks : Ks} {s : ByteArray} (h : s ∈ ([⟨#[120]⟩, ⟨#[]⟩, ⟨#[83, 48, 57]⟩, ⟨#[38, 110]⟩, ⟨#[83]⟩] : List ByteArray)) : Near ks s := by
  have h9 : kindOf ⟨#[83, 48, 57]⟩ = some (0, 9) := by decide +kernel
  simp only [List.mem_cons, List.not_mem_nil, or_false] at h
  rcases h with rfl | rfl | rfl | rfl | rfl
  · exact near_small (by decide) (by decide)
  · exact near_small (by decide) (by decide)
  · exact ⟨by decide, fun m k hk => by rw [h9] at hk; cases hk; exact .inl rfl⟩
  · exact near_small (by decide) (by decide)
  · exact near_small (by decide) (by decide)

set_option maxRecDepth 100000 in
set_option maxHeartbeats 1000000 in
theorem record_any (F : Nat → Prop) (g p : Nat) (v : Value) (ks : Ks) (w : World) (h : Rdr g p w) (hp : p ≤ 80000000) (hv : Cod.recs.Sl F w v ks) (hF : ∀ b, F b → b < w.heap.size ∧ b ≠ g) (h1 : ks.length ≤ 10) (h2 : ∀ r ∈ ks, r.length ≤ 10) :
    Calls Try.prog 56 #[.pointer (some ⟨g, 0, none⟩), v] w (RecD g p 30 ks w) := by
  have HR := Lib.hid h
  have hgl := h.lt
  clear h
  have HV := Lib.hid hv
  have H2 := Lib.hid h2
  clear h2
  obtain ⟨A, cap, rfl, hlc, hcm, _⟩ := hv
  unfold maxLen at hcm
  have S0 := Lib.hid (show Step g p 0 w (w.alloc (.cells #[.int .i64 0, .slice none 0 0] 67)) from (Step.start (N := 0) HR.out).below ((Below.refl _ _).alloc (Nat.le_refl _) _))
  go_enter Try.func56, Try.ntmps56
  go_wp2_with fail
  refine (num_step (xs := [0, 4, 8, 12, 12, 7, 15, 3, 6, 2]) S0.out (by omega) (by simp) rfl (by simp) (by simp)).mono ?_
  rintro e w2 ⟨able, hab, rfl, hS2, hg2⟩
  have HI := Lib.hid (show I64 able by simp at hab; unfold I64; omega)
  have hx2 : w.heap.size < w2.heap.size := by have := hg2.size; simp at this; omega
  have HD := Lib.hid (show Drawing ks g p 1 w w2.heap.size able (.slice none 0 0) [] (w2.alloc (.cells #[.int .i64 able, .slice none 0 0] 67)) from by
    have hb2 : Blk w2 w.heap.size 67 #[.int .i64 0, .slice none 0 0] := (hg2.block _ (by simp; omega) (by simp; omega)).trans ((Blk.new w 67 #[.int .i64 0, .slice none 0 0]).alloc _)
    exact ⟨hS2.below ((Below.refl _ _).alloc (Nat.le_refl _) _), hb2.alloc _, Blk.new _ _ _, OwnT.nil⟩)
  clear hab hS2 hg2
  go_wp2_with fail
  refine (pick_at HD.out.step (by omega) (by omega)).mono ?_
  rintro e w3 ⟨k, rfl, hk, hS3, hg3⟩
  have HD3 := Lib.hid (HD.out.go hgl hx2 hS3 hg3)
  have hk3 : k ≤ 3 := by omega
  clear hS3 hg3 hk HD
  go_wp2_with fail
  go_loopw [6] (fun i wr => ∃ (k : Nat) (vf : Value) (fs : List ByteArray), i = .int .i64 k ∧ fs.length + k ≤ 3 ∧ Hid (Drawing ks g p (2 + 6 * fs.length) w w2.heap.size able vf fs wr)) (fun i _ => (intOf i).toNat)
  case atStart => exact ⟨k, _, [], rfl, by simpa using hk3, HD3⟩
  case round =>
    obtain ⟨i, vf, fs, rfl, hfi, HDr⟩ := hrel
    have hxl := HDr.out.var.lt
    by_cases hi : 0 < i
    · have hc0 := HDr.out.var.cell1
      have hf0 := HDr.out.var.frozen 1
      have hSr : Step g p (2 + 6 * fs.length) w wr.drew := ⟨HDr.out.step.rdr, grown_trans HDr.out.step.grown ⟨rfl, rfl, rfl, Nat.le_refl _, fun _ _ _ => rfl⟩⟩
      go_wp2_with fail
      go_region_law (first | (refine step_append_run rfl _ _ _ rfl rfl rfl happ ?_) | (go_simp; go_at_call 78; refine (type_step (F := F) (by assumption) (by omega) HV.out hF h1 H2.out).mono ?_; rintro e wa ⟨s, hs, rfl, hSa, hga⟩; go_must (have HDa := Lib.hid (show Drawing ks g p (2 + 6 * fs.length + 6) w w2.heap.size able vf fs wa from HDr.out.go hgl hx2 hSa (grown_drew hga)); have hxa := HDa.out.var.lt; have ca := HDa.out.var.cell1; obtain ⟨g4, cap4, w4, happ, hO4, hk4, hb4, hge4⟩ := HDa.out.own.push (by omega) (by omega) s hs 1; have HX4 := Lib.hid (show Blk w4 w2.heap.size 67 #[.int .i64 able, vf] from (hk4 _ (by omega)).trans HDa.out.var); have c4 := HX4.out.cell1; have f4 := HX4.out.frozen 1; have HO4 := Lib.hid hO4; have Hk4 := Lib.hid hk4; have Hb4 := Lib.hid hb4; clear hO4 hk4 hb4)))
      all_goals
        go_wp2
        go_roundw
        case rel =>
          refine ⟨i - 1, .slice (some ⟨g4, 0, none⟩) (fs.length + 1) cap4, fs ++ [s], val_int (by omega), by simp; omega, ?_⟩
          have e : (fs ++ [s]).length = fs.length + 1 := by simp
          rw [e, Nat.mul_add, ← Nat.add_assoc]
          exact HDa.out.put hgl hx2 Hb4.out HO4.out
        case measure => simp [intOf]; omega
    · have HD4 := Lib.hid (HDr.out.more (M := 20) (by omega))
      have hf3 : fs.length ≤ 3 := by omega
      go_wp2_with fail
      refine (pick_at HD4.out.step (by omega) (by omega)).mono ?_
      rintro e w5 ⟨k5, rfl, hk5, hS5, hg5⟩
      have HD5 := Lib.hid (HD4.out.go hgl hx2 hS5 hg5)
      clear hS5 hg5 hk5 HD4
      go_upto_if 27 with fail
      go_cut [6] (fun s6 wx => ∃ able' : Int, Hid (I64 able') ∧ Hid (Drawing ks g p 22 w w2.heap.size able' vf fs wx))
      case first =>
        by_cases hk0 : (k5 : Int) = 0
        · have hb0 : ((k5 : Int) == 0) = true := by simpa using hk0
          clear hk0
          go_wp2_with fail
          refine (num_step (xs := [-1, 16, 1, 5]) HD5.out.step (by omega) (by simp) rfl (by simp) (by simp)).mono ?_
          rintro e w6 ⟨able', hab, rfl, hS6, hg6⟩
          have HI' := Lib.hid (show I64 able' by simp at hab; unfold I64; omega)
          have HD6 := Lib.hid (HD5.out.go hgl hx2 hS6 (grown_trans (World.grownBy_alloc w5 _ _) hg6))
          have c6 := HD6.out.var.cell0
          have f6 := HD6.out.var.frozen 0
          clear hS6 hg6 hab
          go_wp2_with fail
          go_meet
          exact ⟨able', HI', Lib.hid (HD6.out.turn hgl hx2)⟩
        · have hb0 : ((k5 : Int) == 0) = false := by simpa using hk0
          clear hk0
          go_wp2_with fail
          go_meet
          exact ⟨able, HI, Lib.hid (HD5.out.more (by omega))⟩
      case rest =>
        obtain ⟨able', HI7, HD7⟩ := hcut
        clear HI HD5
        go_wp2_with fail
        refine (pick_at HD7.out.step (by omega) (by omega)).mono ?_
        rintro e w8 ⟨k8, rfl, hk8, hS8, hg8⟩
        have HD8 := Lib.hid (HD7.out.go hgl hx2 hS8 hg8)
        clear hS8 hg8 hk8 HD7
        go_upto_if 34 with fail
        go_cut [6] (fun s6 wx => ∃ (vf' : Value) (fs' : List ByteArray), fs'.length ≤ 4 ∧ Hid (Drawing ks g p 30 w w2.heap.size able' vf' fs' wx))
        case first =>
          by_cases hk0 : (k8 : Int) = 0
          · have hb0 : ((k8 : Int) == 0) = true := by simpa using hk0
            clear hk0
            have hc0 := HD8.out.var.cell1
            have hf0 := HD8.out.var.frozen 1
            have hxl8 := HD8.out.var.lt
            have hS8 : Step g p 23 w w8.drew := ⟨HD8.out.step.rdr, grown_trans HD8.out.step.grown ⟨rfl, rfl, rfl, Nat.le_refl _, fun _ _ _ => rfl⟩⟩
            go_wp2_with fail
            go_region_law (first | (refine step_append_run rfl _ _ _ rfl rfl rfl happ ?_) | (go_simp; go_at_call 65; refine (of_step (w := w8.drew) (xs := [⟨#[120]⟩, ⟨#[]⟩, ⟨#[83, 48, 57]⟩, ⟨#[38, 110]⟩, ⟨#[83]⟩]) hS8 (by omega) (by simp) rfl (by simp) (by simp) (by intro x hx; simp at hx; rcases hx with rfl | rfl | rfl | rfl | rfl <;> decide)).mono ?_; rintro e wa ⟨s, hs, rfl, hSa, hga⟩; go_must (have hs50 : Near ks s := near_odd hs; have HDa := Lib.hid (show Drawing ks g p 24 w w2.heap.size able' vf fs wa from HD8.out.go hgl hx2 hSa (grown_drew (grown_trans (World.grownBy_alloc w8.drew _ _) hga))); have hxa := HDa.out.var.lt; have ca := HDa.out.var.cell1; obtain ⟨g4, cap4, w4, happ, hO4, hk4, hb4, hge4⟩ := HDa.out.own.push (by omega) (by omega) s hs50 1; have HX4 := Lib.hid (show Blk w4 w2.heap.size 67 #[.int .i64 able', vf] from (hk4 _ (by omega)).trans HDa.out.var); have c4 := HX4.out.cell1; have f4 := HX4.out.frozen 1; have HO4 := Lib.hid hO4; have Hk4 := Lib.hid hk4; have Hb4 := Lib.hid hb4; clear hO4 hk4 hb4)))
            all_goals
              go_wp2
              go_meet
              refine ⟨.slice (some ⟨g4, 0, none⟩) (fs.length + 1) cap4, fs ++ [s], by simp; omega, Lib.hid ?_⟩
              exact (HDa.out.put hgl hx2 Hb4.out HO4.out).more (by omega)
          · have hb0 : ((k8 : Int) == 0) = false := by simpa using hk0
            clear hk0
            go_wp2_with fail
            go_meet
            exact ⟨vf, fs, by omega, Lib.hid (HD8.out.more (by omega))⟩
        case rest =>
          obtain ⟨vf9, fs9, hfl9, HD9⟩ := hcut
          clear HD8
          obtain ⟨A9, c9, rfl, _⟩ := HD9.out.own.sl
          have hxl9 := HD9.out.var.lt
          have hrl9 := HD9.out.res.lt
          have r0 := HD9.out.var.cell0
          have r1 := HD9.out.var.cell1
          have q0 := HD9.out.res.cell0
          have q1 := HD9.out.res.cell1
          have fq := HD9.out.res.frozen 0
          have HQ1 := Lib.hid (HD9.out.res.set_ 0 (.int .i64 able'))
          have y1 : (wc.setCell ⟨w.heap.size, 0, none⟩ (.int .i64 able')).cell? ⟨w.heap.size, 1, none⟩ = some (.slice none 0 0) := HQ1.out.cell 1
          have fy1 := HQ1.out.frozen 1
          go_wp2_with fail
          have HQ := Lib.hid ((HD9.out.res.set_ 0 (.int .i64 able')).set_ 1 (.slice A9 fs9.length c9))
          have z0 : ((wc.setCell ⟨w.heap.size, 0, none⟩ (.int .i64 able')).setCell ⟨w.heap.size, 1, none⟩ (.slice A9 fs9.length c9)).cell? ⟨w.heap.size, 0, none⟩ = some (.int .i64 able') := HQ.out.cell 0
          have z1 : ((wc.setCell ⟨w.heap.size, 0, none⟩ (.int .i64 able')).setCell ⟨w.heap.size, 1, none⟩ (.slice A9 fs9.length c9)).cell? ⟨w.heap.size, 1, none⟩ = some (.slice A9 fs9.length c9) := HQ.out.cell 1
          refine bodyPost_ret (v := .agg #[.int .i64 able', .slice A9 fs9.length c9]) (by simp [results, Try.results56, go_sem, z0, z1]) rfl (show RecD g p 30 ks w _ _ from ⟨able', (.slice A9 fs9.length c9), fs9, rfl, HI7.out, hfl9, ?_, HD9.out.own.2, ?_⟩)
          · have ho : OwnT ks (w2.heap.size + 1) ((wc.setCell ⟨w.heap.size, 0, none⟩ (.int .i64 able')).setCell ⟨w.heap.size, 1, none⟩ (.slice A9 fs9.length c9)) (.slice A9 fs9.length c9) fs9 := ⟨ownsRow_setCell_below (ownsRow_setCell_below HD9.out.own.1 (by simp; omega) _) (by simp; omega) _, HD9.out.own.2⟩
            exact ho.sl.mono fun b hb => ⟨by omega, hb.2⟩
          · exact (HD9.out.step.set_ (by omega) hgl).set_ (by omega) hgl
end Go.Proofs.Ytmomdflfjcboiaa
