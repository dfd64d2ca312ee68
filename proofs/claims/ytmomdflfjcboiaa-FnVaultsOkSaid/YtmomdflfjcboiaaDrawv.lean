/- What is drawn: values of kinds. What is drawn: values of kinds, records among them. What is drawn: values that are spoilt, seldom. -/
import Derived.Test.YtmomdflfjcboiaaDrawe
import Derived.Test.YtmomdflfjcboiaaVn
import Derived.Test.YtmomdflfjcboiaaVsz
namespace Go.Proofs.Ytmomdflfjcboiaa
open Go.RowKit

/-- How many values there are at most, and numbers picked. -/
def vmax : Nat → Nat
  | 0 => 1
  | n + 1 => 1 + 4 * vmax n
theorem vmax_pos (n : Nat) : 1 ≤ vmax n := by cases n <;> simp [vmax]
theorem vmax_le : ∀ n, n ≤ 9 → vmax n ≤ 349525 := by decide +kernel
def rank3 (ks : Ks) (t : ByteArray) : Nat := match kindOf t with | some (m, k) => if hasB ks m k = true then 3 * m + k + 1 else 0 | none => 0
def Lens (ks : Ks) : Prop := ks.length ≤ 3 ∧ ∀ r ∈ ks, r.length ≤ 3
theorem Lens.has {ks : Ks} (h : Lens ks) {m k : Nat} (hh : hasB ks m k = true) : m ≤ 2 ∧ k ≤ 2 := by
  obtain ⟨hm, hk, _⟩ := has_at hh
  have h1 := h.1
  have h2 := h.2 _ (List.getElem_mem hm)
  omega
theorem rank3_kind {ks : Ks} {t : ByteArray} {m k : Nat} (h : kindOf t = some (m, k)) (hh : hasB ks m k = true) : rank3 ks t = 3 * m + k + 1 := by
  unfold rank3; rw [h]; exact if_pos hh
theorem rank3_le {ks : Ks} (h : Lens ks) (t : ByteArray) : rank3 ks t ≤ 9 := by
  unfold rank3
  cases hk : kindOf t with
  | none => simp
  | some mk =>
    obtain ⟨m, k⟩ := mk
    simp only
    split
    · rename_i hh
      have := h.has hh
      omega
    · omega
theorem rank3_field {ks : Ks} (h : Lens ks) (he : Early ks) {m k : Nat} (hh : hasB ks m k = true) {f : ByteArray} (hf : f ∈ (recAt ks m k).fields) : rank3 ks f < 3 * m + k + 1 := by
  obtain ⟨_, h2⟩ := (he m k hh).2 f hf
  unfold rank3
  cases hk : kindOf f with
  | none => simp
  | some mk =>
    obtain ⟨m', k'⟩ := mk
    simp only
    split
    · rename_i hh'
      have h3 := h.has hh'
      rcases h2 m' k' hk with h4 | ⟨_, h4⟩
      · omega
      · omega
    · omega

theorem sumL_nil (f : Val → Int) : sumL f [] = 0 := rfl
theorem sumL_push (f : Val → Int) (xs : List Val) (x : Val) : sumL f (xs ++ [x]) = sumL f xs + f x := by
  induction xs with
  | nil => simp [sumL]
  | cons y r ih => simp only [List.cons_append, sumL, ih]; omega

/-- A drawn value. -/
def ValueD (g p N d : Nat) (W : World) (e : Ending) (w' : World) : Prop :=
  ∃ (v : Val) (A : Option Addr) (c : Nat), e = .returned (.agg #[.string v.ty, .int .i64 v.n, .slice A v.parts.length c, .slice none 0 0]) ∧ v.path = [] ∧ v.parts.length ≤ 4 ∧
    VRd (Cod.val d) (Fresh W w') w' (.slice A v.parts.length c) (.slice none 0 0) v ∧ sizeOf' (fun _ => 1) (sizeV d) v ≤ (N : Nat) ∧ Step g p N W w' ∧ Smol (SmolD d) v

theorem value_plain {g p N d : Nat} {W w' : World} (ty : ByteArray) (n : Int) (hty : ty.size ≤ 50) (hn : I64 n) (hs : Step g p N W w') (h1 : 1 ≤ N) :
    ValueD g p N d W (.returned (.agg #[.string ty, .int .i64 n, .slice none 0 0, .slice none 0 0])) w' :=
  ⟨.mk ty n [] [], none, 0, rfl, rfl, Nat.zero_le _, ⟨by show ty.size ≤ maxLen; unfold maxLen; omega, hn, Cod.Sl.nil_, Cod.Sl.nil_⟩, by show (1 : Int) + sumL _ [] ≤ _; rw [sumL_nil]; omega, hs, Nat.zero_le _, Nat.zero_le _, fun _ h => by cases h⟩

theorem Step.setv {g p N b o : Nat} {a w : World} {u : Value} (h : Step g p N a w) (hb : a.heap.size ≤ b) (hg : g < a.heap.size) : Step g p N a (w.setCell ⟨b, o, none⟩ u) := h.set_ hb hg

theorem four_set {w : World} {b : Nat} {t : TypeId} {a0 a1 a2 a3 : Value} (h : Blk w b t #[a0, a1, a2, a3]) (v0 v1 v2 v3 : Value) :
    Blk ((((w.setCell ⟨b, 0, none⟩ v0).setCell ⟨b, 1, none⟩ v1).setCell ⟨b, 2, none⟩ v2).setCell ⟨b, 3, none⟩ v3) b t #[v0, v1, v2, v3] := (((h.set_ 0 v0).set_ 1 v1).set_ 2 v2).set_ 3 v3

set_option maxRecDepth 100000 in
set_option maxHeartbeats 4000000 in
/-- Of a type that is no kind. -/
theorem value_base (F : Nat → Prop) (g p d : Nat) (kv : Value) (ks : Ks) (t : ByteArray) (w : World) (h : Rdr g p w) (hp : p ≤ 50000000) (hv : Cod.recs.Sl F w kv ks) (hF : ∀ b, F b → b < w.heap.size ∧ b ≠ g) (h0 : rank3 ks t = 0) :
    Calls Try.prog 64 #[.pointer (some ⟨g, 0, none⟩), kv, .string t] w (ValueD g p 1 d w) := by
  have hgl := h.lt
  obtain ⟨w0, hw0⟩ : ∃ w0, w0 = w.alloc (.cells #[.string ⟨#[]⟩, .int .i64 0, .slice none 0 0, .slice none 0 0] 57) := ⟨_, rfl⟩
  have hb0 : Below w.heap.size w w0 := by rw [hw0]; exact (Below.refl _ _).alloc (Nat.le_refl _) _
  have HS0 := Lib.hid ((Step.start (N := 0) h).below hb0)
  have HR := Lib.hid (show Blk w0 w.heap.size 57 #[.string ⟨#[]⟩, .int .i64 0, .slice none 0 0, .slice none 0 0] by rw [hw0]; exact Blk.new _ _ _)
  have HV := Lib.hid (hv.keep fun b hb => hb0.block b (hF b hb).1)
  obtain ⟨Ak, ck, rfl, _⟩ := hv
  have Hw0 := Lib.hid hw0
  have hl0 : w.heap.size < w0.heap.size := HR.out.lt
  clear hw0 hb0 h
  by_cases hb : (t.toList == [98]) = true
  · clear h0
    have HC := Lib.hid (pick_at (n := 2) HS0.out (by omega) (by omega))
    go_enter Try.func64, Try.ntmps64
    go_wp2_with fail
    rw [← Hw0.out]
    with_reducible refine HC.out.mono ?_
    rintro e w1 ⟨k, rfl, hk, hS1, hg1⟩
    have HS1 := Lib.hid hS1
    have HI := Lib.hid (show I64 (k : Int) by unfold I64; omega)
    have HR1 := Lib.hid (show Blk w1 w.heap.size 57 #[.string ⟨#[]⟩, .int .i64 0, .slice none 0 0, .slice none 0 0] from (hg1.block _ hl0 (by simp; omega)).trans HR.out)
    clear hk hS1 hg1
    obtain ⟨x0, x1, x2, x3⟩ := HR1.out.c2
    obtain ⟨y0, y1, y2, y3⟩ := HR1.out.f4
    obtain ⟨wE, hwE⟩ : ∃ wE, wE = (((w1.setCell ⟨w.heap.size, 0, none⟩ (.string ⟨#[98]⟩)).setCell ⟨w.heap.size, 1, none⟩ (.int .i64 k)).setCell ⟨w.heap.size, 2, none⟩ (.slice none 0 0)).setCell ⟨w.heap.size, 3, none⟩ (.slice none 0 0) := ⟨_, rfl⟩
    have HRE := Lib.hid (show Blk wE w.heap.size 57 #[.string ⟨#[98]⟩, .int .i64 k, .slice none 0 0, .slice none 0 0] by rw [hwE]; exact four_set HR1.out _ _ _ _)
    have HQ := Lib.hid (show ValueD g p 1 d w (.returned (.agg #[.string ⟨#[98]⟩, .int .i64 k, .slice none 0 0, .slice none 0 0])) wE from value_plain _ _ (by decide) HI.out (by rw [hwE]; exact (((HS1.out.set_ (Nat.le_refl _) hgl).set_ (Nat.le_refl _) hgl).set_ (Nat.le_refl _) hgl).set_ (Nat.le_refl _) hgl) (Nat.le_refl _))
    have HwE := Lib.hid hwE
    clear hwE
    go_wp2
    rw [← HwE.out]
    obtain ⟨r0, r1, r2, r3⟩ := HRE.out.c2
    exact bodyPost_ret (v := .agg #[.string ⟨#[98]⟩, .int .i64 k, .slice none 0 0, .slice none 0 0]) (by simp [results, Try.results64, go_sem, r0, r1, r2, r3]) rfl HQ.out
  · have hb' : (t.toList == [98]) = false := by simpa using hb
    clear hb
    by_cases ho : (t.toList == [111]) = true
    · clear h0
      have HC := Lib.hid (pick_at (n := 4) HS0.out (by omega) (by omega))
      go_enter Try.func64, Try.ntmps64
      go_wp2_with fail
      rw [← Hw0.out]
      with_reducible refine HC.out.mono ?_
      rintro e w1 ⟨k, rfl, hk, hS1, hg1⟩
      have HS1 := Lib.hid hS1
      have HI := Lib.hid (show I64 (k : Int) by unfold I64; omega)
      have HR1 := Lib.hid (show Blk w1 w.heap.size 57 #[.string ⟨#[]⟩, .int .i64 0, .slice none 0 0, .slice none 0 0] from (hg1.block _ hl0 (by simp; omega)).trans HR.out)
      clear hk hS1 hg1
      obtain ⟨x0, x1, x2, x3⟩ := HR1.out.c2
      obtain ⟨y0, y1, y2, y3⟩ := HR1.out.f4
      obtain ⟨wE, hwE⟩ : ∃ wE, wE = (((w1.setCell ⟨w.heap.size, 0, none⟩ (.string ⟨#[111]⟩)).setCell ⟨w.heap.size, 1, none⟩ (.int .i64 k)).setCell ⟨w.heap.size, 2, none⟩ (.slice none 0 0)).setCell ⟨w.heap.size, 3, none⟩ (.slice none 0 0) := ⟨_, rfl⟩
      have HRE := Lib.hid (show Blk wE w.heap.size 57 #[.string ⟨#[111]⟩, .int .i64 k, .slice none 0 0, .slice none 0 0] by rw [hwE]; exact four_set HR1.out _ _ _ _)
      have HQ := Lib.hid (show ValueD g p 1 d w (.returned (.agg #[.string ⟨#[111]⟩, .int .i64 k, .slice none 0 0, .slice none 0 0])) wE from value_plain _ _ (by decide) HI.out (by rw [hwE]; exact (((HS1.out.set_ (Nat.le_refl _) hgl).set_ (Nat.le_refl _) hgl).set_ (Nat.le_refl _) hgl).set_ (Nat.le_refl _) hgl) (Nat.le_refl _))
      have HwE := Lib.hid hwE
      clear hwE
      go_wp2
      rw [← HwE.out]
      obtain ⟨r0, r1, r2, r3⟩ := HRE.out.c2
      exact bodyPost_ret (v := .agg #[.string ⟨#[111]⟩, .int .i64 k, .slice none 0 0, .slice none 0 0]) (by simp [results, Try.results64, go_sem, r0, r1, r2, r3]) rfl HQ.out
    · have ho' : (t.toList == [111]) = false := by simpa using ho
      clear ho
      cases hk : kindOf t with
      | none =>
        have HK := Lib.hid (l1Kind_no t w0 hk)
        clear hk h0
        go_enter Try.func64, Try.ntmps64
        go_wp2_with fail
        rw [← Hw0.out]
        with_reducible refine HK.out.mono ?_
        rintro e w1 ⟨rfl, n, rfl⟩
        go_wp2_with fail
        refine (num_step (xs := [0, 1, 2, 3, 7, 10, 100, 999999, 1000000]) (w := w0.drewN n) (HS0.out.below (below_drewN (Below.refl _ _) n)) (by omega) (by simp) rfl (by simp) (by simp)).mono ?_
        rintro e w1 ⟨x, hx, rfl, hS1, hg1⟩
        have HS1 := Lib.hid hS1
        have HI := Lib.hid (show I64 x by simp at hx; unfold I64; omega)
        have HR1 := Lib.hid (show Blk w1 w.heap.size 57 #[.string ⟨#[]⟩, .int .i64 0, .slice none 0 0, .slice none 0 0] from (hg1.block _ (by simp; omega) (by simp; omega)).trans ((show Blk (w0.drewN n) w.heap.size 57 #[.string ⟨#[]⟩, .int .i64 0, .slice none 0 0, .slice none 0 0] from HR.out).alloc _))
        clear hx hS1 hg1
        obtain ⟨x0, x1, x2, x3⟩ := HR1.out.c2
        obtain ⟨y0, y1, y2, y3⟩ := HR1.out.f4
        obtain ⟨wE, hwE⟩ : ∃ wE, wE = (((w1.setCell ⟨w.heap.size, 0, none⟩ (.string ⟨#[110]⟩)).setCell ⟨w.heap.size, 1, none⟩ (.int .i64 x)).setCell ⟨w.heap.size, 2, none⟩ (.slice none 0 0)).setCell ⟨w.heap.size, 3, none⟩ (.slice none 0 0) := ⟨_, rfl⟩
        have HRE := Lib.hid (show Blk wE w.heap.size 57 #[.string ⟨#[110]⟩, .int .i64 x, .slice none 0 0, .slice none 0 0] by rw [hwE]; exact four_set HR1.out _ _ _ _)
        have HQ := Lib.hid (show ValueD g p 1 d w (.returned (.agg #[.string ⟨#[110]⟩, .int .i64 x, .slice none 0 0, .slice none 0 0])) wE from value_plain _ _ (by decide) HI.out (by rw [hwE]; exact (((HS1.out.set_ (Nat.le_refl _) hgl).set_ (Nat.le_refl _) hgl).set_ (Nat.le_refl _) hgl).set_ (Nat.le_refl _) hgl) (Nat.le_refl _))
        have HwE := Lib.hid hwE
        clear hwE
        go_wp2
        rw [← HwE.out]
        obtain ⟨r0, r1, r2, r3⟩ := HRE.out.c2
        exact bodyPost_ret (v := .agg #[.string ⟨#[110]⟩, .int .i64 x, .slice none 0 0, .slice none 0 0]) (by simp [results, Try.results64, go_sem, r0, r1, r2, r3]) rfl HQ.out
      | some mk =>
        obtain ⟨m, k⟩ := mk
        have HK := Lib.hid (l1Kind_yes t m k w0 hk)
        have hh : hasB ks m k = false := by
          unfold rank3 at h0
          rw [hk] at h0
          simp only at h0
          split at h0
          · omega
          · rename_i hx; simpa using hx
        have HH := Lib.hid fun n => l1Has_any F _ ks m k (w0.drewN n) (HV.out.drewN n)
        rw [hh] at HH
        clear hk h0 hh
        go_enter Try.func64, Try.ntmps64
        go_wp2_with fail
        rw [← Hw0.out]
        with_reducible refine HK.out.mono ?_
        rintro e w1 ⟨rfl, n, rfl⟩
        go_wp2_with fail
        with_reducible refine (HH.out n).mono ?_
        rintro e w1 ⟨rfl, rfl⟩
        go_wp2_with fail
        refine (num_step (xs := [0, 1, 2, 3, 7, 10, 100, 999999, 1000000]) (w := w0.drewN n) (HS0.out.below (below_drewN (Below.refl _ _) n)) (by omega) (by simp) rfl (by simp) (by simp)).mono ?_
        rintro e w1 ⟨x, hx, rfl, hS1, hg1⟩
        have HS1 := Lib.hid hS1
        have HI := Lib.hid (show I64 x by simp at hx; unfold I64; omega)
        have HR1 := Lib.hid (show Blk w1 w.heap.size 57 #[.string ⟨#[]⟩, .int .i64 0, .slice none 0 0, .slice none 0 0] from (hg1.block _ (by simp; omega) (by simp; omega)).trans ((show Blk (w0.drewN n) w.heap.size 57 #[.string ⟨#[]⟩, .int .i64 0, .slice none 0 0, .slice none 0 0] from HR.out).alloc _))
        clear hx hS1 hg1
        obtain ⟨x0, x1, x2, x3⟩ := HR1.out.c2
        obtain ⟨y0, y1, y2, y3⟩ := HR1.out.f4
        obtain ⟨wE, hwE⟩ : ∃ wE, wE = (((w1.setCell ⟨w.heap.size, 0, none⟩ (.string ⟨#[110]⟩)).setCell ⟨w.heap.size, 1, none⟩ (.int .i64 x)).setCell ⟨w.heap.size, 2, none⟩ (.slice none 0 0)).setCell ⟨w.heap.size, 3, none⟩ (.slice none 0 0) := ⟨_, rfl⟩
        have HRE := Lib.hid (show Blk wE w.heap.size 57 #[.string ⟨#[110]⟩, .int .i64 x, .slice none 0 0, .slice none 0 0] by rw [hwE]; exact four_set HR1.out _ _ _ _)
        have HQ := Lib.hid (show ValueD g p 1 d w (.returned (.agg #[.string ⟨#[110]⟩, .int .i64 x, .slice none 0 0, .slice none 0 0])) wE from value_plain _ _ (by decide) HI.out (by rw [hwE]; exact (((HS1.out.set_ (Nat.le_refl _) hgl).set_ (Nat.le_refl _) hgl).set_ (Nat.le_refl _) hgl).set_ (Nat.le_refl _) hgl) (Nat.le_refl _))
        have HwE := Lib.hid hwE
        clear hwE
        go_wp2
        rw [← HwE.out]
        obtain ⟨r0, r1, r2, r3⟩ := HRE.out.c2
        exact bodyPost_ret (v := .agg #[.string ⟨#[110]⟩, .int .i64 x, .slice none 0 0, .slice none 0 0]) (by simp [results, Try.results64, go_sem, r0, r1, r2, r3]) rfl HQ.out
end Go.Proofs.Ytmomdflfjcboiaa

namespace Go.Proofs.Ytmomdflfjcboiaa
open Go.RowKit

theorem ValueD.more {g p N M d : Nat} {W w' : World} {e : Ending} (h : ValueD g p N d W e w') (hm : N ≤ M) : ValueD g p M d W e w' := by
  obtain ⟨v, A, c, h1, h2, h3, h4, h5, h6, h7⟩ := h
  exact ⟨v, A, c, h1, h2, h3, h4, by omega, h6.more hm, h7⟩

theorem four_one {a : ByteArray} {n : Int} {A B : Option Addr} {l c l' c' : Nat} : ∀ u ∈ ([.string a, .int .i64 n, .slice A l c, .slice B l' c'] : List Value), u.oneCell' = true := fun u hu => by
  simp only [List.mem_cons, List.not_mem_nil, or_false] at hu
  rcases hu with rfl | rfl | rfl | rfl <;> rfl

/-- What is known while the parts of a record are drawn. -/
structure DV (g p N n : Nat) (w : World) (x : Nat) (t : ByteArray) (v : Value) (xs : List Val) (wr : World) : Prop where
  step : Step g p N w wr
  res : Blk wr w.heap.size 57 #[.string ⟨#[]⟩, .int .i64 0, .slice none 0 0, .slice none 0 0]
  var : Blk wr x 57 #[.string t, .int .i64 0, v, .slice none 0 0]
  own : OwnRow (Cod.val (n + 1)) 57 (x + 1) (x + 1) wr v xs
  size : sumL (sizeV (n + 1)) xs ≤ (xs.length * vmax n : Nat)
  smol : ∀ x ∈ xs, SmolD (n + 1) x
theorem OwnRow.nil_ {α : Type} {c : Cod α} {e : TypeId} {base cb : Nat} {w : World} : OwnRow c e base cb w (.slice none 0 0) ([] : List α) :=
  ⟨[], World.ownsRow_nil _ _ _ _, fun _ h => by simp at h, fun _ _ h => by simp at h⟩
theorem OwnRow.own_lt {α : Type} {c : Cod α} {e : TypeId} {base cb : Nat} {w : World} {v : Value} {xs : List α} (h : OwnRow c e base cb w v xs) : ∀ b, v.ownBlock = some b → base ≤ b ∧ b < w.heap.size := by
  obtain ⟨us, h, _⟩ := h
  exact h.lt
theorem OwnRow.form {α : Type} {c : Cod α} {e : TypeId} {base cb : Nat} {w : World} {v : Value} {xs : List α} (h : OwnRow c e base cb w v xs) : ∃ A cap, v = .slice A xs.length cap := by
  obtain ⟨us, h, _⟩ := h
  rcases h.2 with ⟨rfl, h0⟩ | ⟨g, cap, cur, rfl, _⟩
  · exact ⟨none, 0, by rw [h0]⟩
  · exact ⟨_, cap, rfl⟩
theorem DV.go {g p N n M x : Nat} {w wr w' : World} {t : ByteArray} {v : Value} {xs : List Val} (h : DV g p N n w x t v xs wr) (hg : g < w.heap.size) (hx : w.heap.size < x) (hs : Step g p M w w') (hb : wr.grownBy w' (some g)) : DV g p M n w x t v xs w' :=
  ⟨hs, (hb.block _ h.res.lt (by simp; omega)).trans h.res, (hb.block _ h.var.lt (by simp; omega)).trans h.var, h.own.grow (Nat.le_refl _) hb (by omega), h.size, h.smol⟩

/-- A part has been appended. -/
theorem DV.put {g p N n x g4 cap4 : Nat} {w wa w4 : World} {t : ByteArray} {v : Value} {xs : List Val} {v1 : Val} (h : DV g p N n w x t v xs wa) (hg : g < w.heap.size) (hx : w.heap.size < x) (hgr : wa.grownBy w4 v.ownBlock) (ho : OwnRow (Cod.val (n + 1)) 57 (x + 1) (x + 1) w4 (.slice (some ⟨g4, 0, none⟩) (xs.length + 1) cap4) (xs ++ [v1]))
    (h1 : sizeOf' (fun _ => 1) (sizeV n) v1 ≤ (vmax n : Nat)) (h2 : Smol (SmolD n) v1) : DV g p N n w x t (.slice (some ⟨g4, 0, none⟩) (xs.length + 1) cap4) (xs ++ [v1]) (w4.setCell ⟨x, 2, none⟩ (.slice (some ⟨g4, 0, none⟩) (xs.length + 1) cap4)) := by
  have hne : ∀ b, b ≤ x → some b ≠ v.ownBlock := fun b hb he => by have := (h.own.own_lt b he.symm).1; omega
  have hst := h.step.grown.size
  have hvx := h.var.lt
  have hs4 : Step g p N w w4 := by
    obtain ⟨⟨q, hq, hr⟩, hgw⟩ := h.step
    refine ⟨⟨q, hq, hr.keep' fun i hi => hgr.block i (by omega) (hne i (by omega))⟩, ⟨hgr.os.trans hgw.os, hgr.tape.trans hgw.tape, hgr.output.trans hgw.output, Nat.le_trans hgw.size hgr.size, fun i hi hn => (hgr.block i (by omega) (hne i (by omega))).trans (hgw.block i hi hn)⟩⟩
  refine ⟨hs4.set_ (by omega) hg, (Below.heap_setCell _ _ _ _ (by simp; omega)).trans ((hgr.block _ h.res.lt (hne _ (by omega))).trans h.res), ?_, ?_, ?_, fun y hy => ?_⟩
  · have hv : Blk w4 x 57 #[.string t, .int .i64 0, v, .slice none 0 0] := (hgr.block _ hvx (hne _ (Nat.le_refl _))).trans h.var
    exact hv.set_ 2 _
  · exact ho.keep (Nat.le_refl _) (by simp [World.setCell]) fun i h1 _ => Below.heap_setCell _ _ _ _ (by simp; omega)
  · rw [sumL_push, List.length_append, List.length_singleton, Nat.add_mul, Nat.one_mul]
    have := h.size
    have e : sizeV (n + 1) v1 = sizeOf' (fun _ => 1) (sizeV n) v1 := rfl
    rw [e]
    omega
  · rcases List.mem_append.1 hy with hy | hy
    · exact h.smol y hy
    · simp at hy; subst hy; exact h2

set_option maxRecDepth 100000 in
set_option maxHeartbeats 8000000 in
theorem value_any {ks : Ks} (hl : Lens ks) (he : Early ks) (F : Nat → Prop) (g : Nat) (kv : Value) : ∀ (n : Nat) (t : ByteArray) (w : World) (p : Nat), rank3 ks t ≤ n → n ≤ 9 → Rdr g p w → p + vmax n ≤ 40000000 → t.size ≤ 50 → Cod.recs.Sl F w kv ks → (∀ b, F b → b < w.heap.size ∧ b ≠ g) →
    Calls Try.prog 64 #[.pointer (some ⟨g, 0, none⟩), kv, .string t] w (ValueD g p (vmax n) n w)
  | 0, t, w, p, hr, _, h, hp, _, hv, hF => value_base F g p 0 kv ks t w h (by simp [vmax] at hp; omega) hv hF (by omega)
  | n + 1, t, w, p, hr, hn, h, hp, ht, hv, hF => by
    have IH := Lib.hid (value_any hl he F g kv n)
    have hvp := vmax_pos n
    have hvm : vmax (n + 1) = 1 + 4 * vmax n := rfl
    by_cases h0 : rank3 ks t = 0
    · exact (value_base F g p (n + 1) kv ks t w h (by omega) hv hF h0).mono fun e w' hq => hq.more (vmax_pos _)
    · have hkk : ∃ m k, kindOf t = some (m, k) ∧ hasB ks m k = true := by
        unfold rank3 at h0
        cases hk : kindOf t with
        | none => rw [hk] at h0; simp at h0
        | some mk =>
          obtain ⟨m, k⟩ := mk
          rw [hk] at h0
          simp only at h0
          split at h0
          · exact ⟨m, k, rfl, by assumption⟩
          · omega
      obtain ⟨m, k, hk, hh⟩ := hkk
      have hrk := rank3_kind hk hh
      obtain ⟨hml, hkl, hat⟩ := has_at hh
      have hfl := (he m k hh).1
      have hrf : ∀ f ∈ (recAt ks m k).fields, rank3 ks f ≤ n ∧ f.size ≤ 50 := fun f hf => ⟨by have := rank3_field hl he hh hf; omega, ((he m k hh).2 f hf).1⟩
      rw [hat] at hfl hrf
      have hgl := h.lt
      obtain ⟨w0, hw0⟩ : ∃ w0, w0 = w.alloc (.cells #[.string ⟨#[]⟩, .int .i64 0, .slice none 0 0, .slice none 0 0] 57) := ⟨_, rfl⟩
      have hb0 : Below w.heap.size w w0 := by rw [hw0]; exact (Below.refl _ _).alloc (Nat.le_refl _) _
      have hs0 : w0.heap.size = w.heap.size + 1 := by rw [hw0]; simp
      have hR0 : Blk w0 w.heap.size 57 #[.string ⟨#[]⟩, .int .i64 0, .slice none 0 0, .slice none 0 0] := by rw [hw0]; exact Blk.new _ _ _
      have HV := Lib.hid hv
      have HK := Lib.hid (l1Kind_yes t m k w0 hk)
      have HH := Lib.hid fun a => l1Has_any F _ ks m k (w0.drewN a) ((hv.keep fun b hb => hb0.block b (hF b hb).1).drewN a)
      rw [hh] at HH
      have HDV := Lib.hid fun (w1 : World) (a : Nat) (hw1 : w1 = w0.drewN a) => (show w1.heap.size = w.heap.size + 1 ∧ DV g p 0 n w w1.heap.size t (.slice none 0 0) [] (w1.alloc (.cells #[.string t, .int .i64 0, .slice none 0 0, .slice none 0 0] 57)) by
        subst hw1
        exact ⟨hs0, (((Step.start (N := 0) h).below hb0).below (below_drewN (Below.refl _ _) a)).below ((Below.refl _ _).alloc (Nat.le_refl _) _), Blk.alloc (w := w0.drewN a) hR0 _, Blk.new (w0.drewN a) _ _, OwnRow.nil_, by simp [sumL], fun _ h => by cases h⟩)
      obtain ⟨bk, offk, ck, uk, rfl, hFk, hkc, hkm, hk0, huk⟩ := hv.sl_at hml
      obtain ⟨rb, ro, rc, ur, hve, hFr, hrc, hrm, hr0, hr1, _, hur⟩ := huk.rec_at hkl
      obtain ⟨Af, cf, rfl, hfc, hfm, _⟩ := id hur
      subst hve
      unfold maxLen at hkm hrm hfm
      generalize hr' : ks[m][k] = rec at *
      have HUR := Lib.hid hur
      have HRF := Lib.hid hrf
      have hx0 : w.heap.size < w0.heap.size := by omega
      have Hw0 := Lib.hid hw0
      have hm0 : (0 : Int) ≤ m := by omega
      have hm1 : (m : Int) < ks.length := by omega
      have hk0' : (0 : Int) ≤ k := by omega
      have hk1' : (k : Int) < ks[m].length := by omega
      have h3 : t.size = 3 := by
        rcases Nat.decEq t.size 3 with h | h
        · rw [kindOf_size h] at hk; cases hk
        · exact h
      have hb' : (t.toList == [98]) = false := by
        rw [beq_eq_false_iff_ne]; intro h; have := congrArg List.length h; rw [length_toList] at this; simp at this; omega
      have ho' : (t.toList == [111]) = false := by
        rw [beq_eq_false_iff_ne]; intro h; have := congrArg List.length h; rw [length_toList] at this; simp at this; omega
      have Hk0 := Lib.hid hk0
      have Hr1 := Lib.hid hr1
      have H3 := Lib.hid h3
      have HF := Lib.hid hF
      clear hr' hw0 hb0 hs0 hR0 h hk hh hrk hat hur huk hrf hk0 hr0 hr1 hr h0 hv hF h3
      go_enter Try.func64, Try.ntmps64
      go_wp2_with fail
      rw [← Hw0.out]
      with_reducible refine HK.out.mono ?_
      rintro e w1 ⟨rfl, a, hw1⟩
      obtain ⟨hs1_, hd0⟩ := HDV.out w1 a hw1
      have HD0 := Lib.hid hd0
      have HHc := Lib.hid (HH.out a)
      rw [← hw1] at HHc
      have hs1 : w.heap.size < w1.heap.size := by omega
      clear hw1 hs1_ hd0
      go_wp2_with fail
      with_reducible refine HHc.out.mono ?_
      rintro e w1 ⟨rfl, rfl⟩
      go_wp2
      go_loopw [11] (fun i wr => ∃ (j : Nat) (v : Value) (xs : List Val), j ≤ rec.fields.length ∧ xs.length = j ∧ i = .int .i64 j ∧ Hid (DV g p (xs.length * vmax n) n w w1.heap.size t v xs wr)) (fun i _ => rec.fields.length - (intOf i).toNat)
      case atStart => exact ⟨0, _, [], Nat.zero_le _, rfl, rfl, by rw [show ([] : List Val).length * vmax n = 0 by simp]; exact HD0⟩
      case round =>
        obtain ⟨j, v, xs, hj, hxl, rfl, HDr⟩ := hrel
        have hxl1 : xs.length ≤ j := by omega
        have hxl2 : j ≤ xs.length := by omega
        clear hxl
        obtain ⟨Av, cv, rfl⟩ := HDr.out.own.form
        have hst := HDr.out.step.grown.size
        have z1 : wr.cell? ⟨bk, offk + m, none⟩ = some (.slice (some ⟨rb, ro, none⟩) ks[m].length rc) := (World.cell?_of_block (a := ⟨bk, offk + m, none⟩) (HDr.out.step.keeps HF.out bk hFk)).trans Hk0.out
        have z2 : wr.cell? ⟨rb, ro + k * 2 + 1, none⟩ = some (.slice Af rec.fields.length cf) := (World.cell?_of_block (a := ⟨rb, ro + k * 2 + 1, none⟩) (HDr.out.step.keeps HF.out rb hFr)).trans Hr1.out
        by_cases hlt : j < rec.fields.length
        · obtain ⟨fb, fo, fc, hvf, hFf, _, _, hf0, _⟩ := HUR.out.str_at hlt
          obtain ⟨rfl, rfl⟩ : Af = some ⟨fb, fo, none⟩ ∧ cf = fc := by simpa using hvf
          have z3 : wr.cell? ⟨fb, fo + j, none⟩ = some (.string rec.fields[j]) := (World.cell?_of_block (a := ⟨fb, fo + j, none⟩) (HDr.out.step.keeps HF.out fb hFf)).trans hf0
          obtain ⟨hfr, hfs⟩ := HRF.out _ (List.getElem_mem hlt)
          generalize rec.fields[j] = f at *
          obtain ⟨_, _, z0, _⟩ := HDr.out.var.c2
          obtain ⟨_, _, y0, _⟩ := HDr.out.var.f4
          have hjm : xs.length * vmax n ≤ 3 * vmax n := Nat.mul_le_mul_right _ (by omega)
          obtain ⟨⟨q, hq, hrd⟩, _⟩ := HDr.out.step
          have HIH := Lib.hid (IH.out f wr.drew q hfr (by omega) (show Rdr g q wr.drew from hrd) (by omega) hfs ((HV.out.keep (w' := wr) (HDr.out.step.keeps HF.out)).drew) (fun b hb => HDr.out.step.ups HF.out b hb))
          have j0 : (0 : Int) ≤ j := by omega
          have j1 : (j : Int) < rec.fields.length := by omega
          have hxr : w1.heap.size < wr.heap.size := HDr.out.var.lt
          clear hvf hf0 hfr hfs hrd
          go_wp2_with fail
          go_region_law (first
            | (refine step_append_run rfl _ _ _ rfl rfl rfl happ ?_)
            | (go_simp; go_at_call 64; (with_reducible refine HIH.out.mono ?_); rintro e wa ⟨v1, A1, c1, rfl, hp1, hl1, hV1, hz1, hS1, hm1⟩; go_must (
                have HDa := Lib.hid (show DV g p (xs.length * vmax n + vmax n) n w w1.heap.size t (.slice Av xs.length cv) xs wa from HDr.out.go hgl hs1 ⟨(by obtain ⟨⟨q', hq', hr'⟩, _⟩ := hS1; exact ⟨q', by omega, hr'⟩), grown_trans HDr.out.step.grown (grown_drew hS1.grown)⟩ (grown_drew hS1.grown));
                have ca := HDa.out.var.c2.2.2.1;
                have hxa := HDa.out.var.lt;
                have hown := HDr.out.own.own_lt;
                obtain ⟨g4, cap4, w4, happ, hO4, hg4, hge4, _⟩ := OwnRow.push (P := Try.prog) (c := Cod.val (n + 1)) 55 55 _ 72 Try.underlying55 info_val rfl (by show 0 < 4; omega) (by omega) HDa.out.own (by omega) (Nat.le_refl _) hxa 1 [.string v1.ty, .int .i64 v1.n, .slice A1 v1.parts.length c1, .slice none 0 0] v1 four_one ⟨_, _, rfl, hV1.mono (fun b hb => ⟨(by have := hb.1; have e : wr.drew.heap.size = wr.heap.size := rfl; omega), hb.2, fun hc => by have := (hown b hc).2; have h2 := hb.1; have e : wr.drew.heap.size = wr.heap.size := rfl; omega⟩)⟩;
                have HDp := Lib.hid (HDa.out.put hgl hs1 hg4 hO4 hz1 hm1);
                have hB4 : Blk w4 w1.heap.size 57 #[.string t, .int .i64 0, .slice Av xs.length cv, .slice none 0 0] := (hg4.block _ hxa (fun he => by have := (hown _ he.symm).1; omega)).trans HDa.out.var;
                have c4 := hB4.c2.2.2.1;
                have f4 := hB4.frozen 2;
                clear hO4 hg4 hB4 hown)))
          all_goals
            go_wp2
            go_roundw
            case rel =>
              refine ⟨j + 1, .slice (some ⟨g4, 0, none⟩) (xs.length + 1) cap4, xs ++ [v1], by omega, by simp; omega, by go_num, ?_⟩
              have e : (xs ++ [v1]).length * vmax n = xs.length * vmax n + vmax n := by rw [List.length_append, List.length_singleton, Nat.add_mul, Nat.one_mul]
              rw [e]
              exact HDp
            case measure => simp [intOf]; omega
        · have hjm : xs.length * vmax n ≤ 4 * vmax n := Nat.mul_le_mul_right _ (by omega)
          obtain ⟨z4, z5, z6, z7⟩ := HDr.out.var.c2
          obtain ⟨x0, x1, x2, x3⟩ := HDr.out.res.c2
          obtain ⟨y0, y1, y2, y3⟩ := HDr.out.res.f4
          obtain ⟨wE, hwE⟩ : ∃ wE, wE = (((wr.setCell ⟨w.heap.size, 0, none⟩ (.string t)).setCell ⟨w.heap.size, 1, none⟩ (.int .i64 0)).setCell ⟨w.heap.size, 2, none⟩ (.slice Av xs.length cv)).setCell ⟨w.heap.size, 3, none⟩ (.slice none 0 0) := ⟨_, rfl⟩
          have HRE := Lib.hid (show Blk wE w.heap.size 57 #[.string t, .int .i64 0, .slice Av xs.length cv, .slice none 0 0] by rw [hwE]; exact four_set HDr.out.res _ _ _ _)
          have hsE : wE.heap.size = wr.heap.size := by rw [hwE]; simp [World.setCell]
          have hkE : ∀ b, b ≠ w.heap.size → wE.heap[b]? = wr.heap[b]? := fun b h1 => by rw [hwE, Below.heap_setCell _ _ _ _ h1, Below.heap_setCell _ _ _ _ h1, Below.heap_setCell _ _ _ _ h1, Below.heap_setCell _ _ _ _ h1]
          have HQ := Lib.hid (show ValueD g p (vmax (n + 1)) (n + 1) w (.returned (.agg #[.string t, .int .i64 0, .slice Av xs.length cv, .slice none 0 0])) wE from
            ⟨.mk t 0 xs [], Av, cv, rfl, rfl, by show xs.length ≤ 4; omega, ⟨by show t.size ≤ maxLen; unfold maxLen; omega, by show I64 0; unfold I64; omega,
              ((HDr.out.own.sl (Nat.le_refl _)).keep (w' := wE) fun b hb => hkE b (by omega)).mono fun b hb => ⟨by omega, by omega⟩, Cod.Sl.nil_⟩,
              by show (1 : Int) + sumL (sizeV (n + 1)) xs ≤ _; have := HDr.out.size; rw [hvm]; omega,
              (by rw [hwE]; exact ((((HDr.out.step.set_ (Nat.le_refl _) hgl).set_ (Nat.le_refl _) hgl).set_ (Nat.le_refl _) hgl).set_ (Nat.le_refl _) hgl).more (by omega)), by show xs.length ≤ 2000000; omega, Nat.zero_le _, HDr.out.smol⟩)
          have HwE := Lib.hid hwE
          have i0 : ¬ (j : Int) < rec.fields.length := by omega
          clear hwE hkE hsE
          go_wp2
          rw [← HwE.out]
          obtain ⟨r0, r1, r2, r3⟩ := HRE.out.c2
          exact bodyPost_ret (v := .agg #[.string t, .int .i64 0, .slice Av xs.length cv, .slice none 0 0]) (by simp [results, Try.results64, go_sem, r0, r1, r2, r3]) rfl HQ.out
end Go.Proofs.Ytmomdflfjcboiaa

namespace Go.Proofs.Ytmomdflfjcboiaa
open Go.RowKit

theorem Cod.Sl.tail_ {α : Type} {c : Cod α} {F : Nat → Prop} {w : World} {b off cap : Nat} {x : α} {xs : List α} (h : c.Sl F w (.slice (some ⟨b, off, none⟩) (x :: xs).length cap) (x :: xs)) : c.Sl F w (.slice (some ⟨b, off + c.size, none⟩) xs.length (cap - 1)) xs := by
  obtain ⟨A, cap', hv, h1, h2, h3⟩ := h
  cases hv
  rw [List.length_cons] at h1
  refine ⟨_, _, rfl, by omega, by omega, fun _ => ?_⟩
  obtain ⟨b', off', hA, hF, hx⟩ := h3 (by simp)
  cases hA
  refine ⟨b, off + c.size, rfl, hF, fun i y hy => ?_⟩
  obtain ⟨cs, hc, hr⟩ := hx (i + 1) y (by simpa using hy)
  refine ⟨cs, fun j u hu => ?_, hr⟩
  have := hc j u hu
  rw [Nat.add_mul, Nat.one_mul] at this
  rw [show off + c.size + i * c.size + j = off + (i * c.size + c.size) + j by omega]
  exact this
theorem Cod.Sl.none_len {α : Type} {c : Cod α} {F : Nat → Prop} {w : World} {A : Option Addr} {cap : Nat} (hc : cap ≤ maxLen) : c.Sl F w (.slice A 0 cap) ([] : List α) := ⟨A, cap, rfl, Nat.zero_le _, hc, fun h => absurd h (by simp)⟩

/-- What is known of a value that is being spoilt: its variable, and the result's. -/
structure Bx (g p N d : Nat) (M : Int) (F : Nat → Prop) (w : World) (v : Val) (A : Option Addr) (c : Nat) (B : Option Addr) (c' : Nat) (wx : World) : Prop where
  step : Step g p N w wx
  box : Blk wx w.heap.size 57 #[.string v.ty, .int .i64 v.n, .slice A v.parts.length c, .slice B v.path.length c']
  res : Blk wx (w.heap.size + 1) 57 #[.string ⟨#[]⟩, .int .i64 0, .slice none 0 0, .slice none 0 0]
  rd : VRd (Cod.val d) (fun b => F b ∨ (w.heap.size + 1 < b ∧ b < wx.heap.size)) wx (.slice A v.parts.length c) (.slice B v.path.length c') v
  size : sizeOf' (fun _ => 1) (sizeV d) v ≤ M
  len : v.parts.length ≤ 4
theorem Bx.go {g p N K d : Nat} {M : Int} {F : Nat → Prop} {w wx wy : World} {v : Val} {A B : Option Addr} {c c' : Nat} (h : Bx g p N d M F w v A c B c' wx) (hF : ∀ b, F b → b < w.heap.size ∧ b ≠ g) (hg : g < w.heap.size) (hs : Step g p K w wy) (hb : wx.grownBy wy (some g)) : Bx g p K d M F w v A c B c' wy := by
  have hsz := hb.size
  have hst := h.step.grown.size
  have hq : ∀ b, (F b ∨ (w.heap.size + 1 < b ∧ b < wx.heap.size)) → b < wx.heap.size ∧ b ≠ g := fun b hb' => by
    rcases hb' with h1 | h1
    · have := hF b h1; exact ⟨by omega, this.2⟩
    · exact ⟨h1.2, by omega⟩
  refine ⟨hs, (hb.block _ h.box.lt (by simp; omega)).trans h.box, (hb.block _ h.res.lt (by simp; omega)).trans h.res, (VRd.keep (w := wx) (w' := wy) (fun b hb' => hb.block b (hq b hb').1 (by have := (hq b hb').2; simp; omega)) h.rd).mono fun b hb' => ?_, h.size, h.len⟩
  rcases hb' with h1 | h1
  · exact .inl h1
  · exact .inr ⟨h1.1, by omega⟩

/-- What is handed back. -/
def BadD (g p N d : Nat) (M : Int) (F : Nat → Prop) (w : World) (e : Ending) (w' : World) : Prop :=
  ∃ (v : Val) (A : Option Addr) (c : Nat) (B : Option Addr) (c' : Nat), e = .returned (.agg #[.string v.ty, .int .i64 v.n, .slice A v.parts.length c, .slice B v.path.length c']) ∧
    VRd (Cod.val d) (fun b => F b ∨ Fresh w w' b) w' (.slice A v.parts.length c) (.slice B v.path.length c') v ∧ sizeOf' (fun _ => 1) (sizeV d) v ≤ M ∧ v.parts.length ≤ 4 ∧ Step g p N w w'
theorem Bx.end_ {g p N d : Nat} {M : Int} {F : Nat → Prop} {w wx : World} {v : Val} {A B : Option Addr} {c c' : Nat} (h : Bx g p N d M F w v A c B c' wx) (hF : ∀ b, F b → b < w.heap.size ∧ b ≠ g) (hg : g < w.heap.size) {wE : World}
    (hE : wE = (((wx.setCell ⟨w.heap.size + 1, 0, none⟩ (.string v.ty)).setCell ⟨w.heap.size + 1, 1, none⟩ (.int .i64 v.n)).setCell ⟨w.heap.size + 1, 2, none⟩ (.slice A v.parts.length c)).setCell ⟨w.heap.size + 1, 3, none⟩ (.slice B v.path.length c')) :
    Blk wE (w.heap.size + 1) 57 #[.string v.ty, .int .i64 v.n, .slice A v.parts.length c, .slice B v.path.length c'] ∧ BadD g p N d M F w (.returned (.agg #[.string v.ty, .int .i64 v.n, .slice A v.parts.length c, .slice B v.path.length c'])) wE := by
  have hsE : wE.heap.size = wx.heap.size := by rw [hE]; simp [World.setCell]
  have hkE : ∀ b, b ≠ w.heap.size + 1 → wE.heap[b]? = wx.heap[b]? := fun b h1 => by rw [hE, Below.heap_setCell _ _ _ _ h1, Below.heap_setCell _ _ _ _ h1, Below.heap_setCell _ _ _ _ h1, Below.heap_setCell _ _ _ _ h1]
  have hq : ∀ b, (F b ∨ (w.heap.size + 1 < b ∧ b < wx.heap.size)) → b ≠ w.heap.size + 1 := fun b hb' => by
    rcases hb' with h1 | h1
    · have := hF b h1; omega
    · omega
  refine ⟨by rw [hE]; exact four_set h.res _ _ _ _, v, A, c, B, c', rfl, (VRd.keep (w := wx) (w' := wE) (fun b hb => hkE b (hq b hb)) h.rd).mono fun b hb => ?_, h.size, h.len, ?_⟩
  · rcases hb with h1 | h1
    · exact .inl h1
    · exact .inr ⟨by omega, by omega⟩
  · rw [hE]
    exact ((((h.step.set_ (by omega) hg).set_ (by omega) hg).set_ (by omega) hg).set_ (by omega) hg)
theorem BadD.more {g p N K d : Nat} {M : Int} {F : Nat → Prop} {w : World} {e : Ending} {w' : World} (h : BadD g p N d M F w e w') (hm : N ≤ K) : BadD g p K d M F w e w' := by
  obtain ⟨v, A, c, B, c', h1, h2, h3, h4, h5⟩ := h
  exact ⟨v, A, c, B, c', h1, h2, h3, h4, h5.more hm⟩
section
variable {g p N d : Nat} {M : Int} {F : Nat → Prop} {w wx : World} {ty : ByteArray} {n : Int} {ps : List Val} {pa : List Int} {A B : Option Addr} {c c' : Nat}
/-- Another block's cells turn. -/
theorem Bx.keeps (h : Bx g p N d M F w (.mk ty n ps pa) A c B c' wx) (hF : ∀ b, F b → b < w.heap.size ∧ b ≠ g) (hg : g < w.heap.size) (o : Nat) (u : Value) :
    Step g p N w (wx.setCell ⟨w.heap.size, o, none⟩ u) ∧ Blk (wx.setCell ⟨w.heap.size, o, none⟩ u) (w.heap.size + 1) 57 #[.string ⟨#[]⟩, .int .i64 0, .slice none 0 0, .slice none 0 0] ∧
    ∀ b, (F b ∨ (w.heap.size + 1 < b ∧ b < wx.heap.size)) → (wx.setCell ⟨w.heap.size, o, none⟩ u).heap[b]? = wx.heap[b]? :=
  ⟨h.step.set_ (Nat.le_refl _) hg, (Below.heap_setCell _ _ _ _ (by simp)).trans h.res, fun b hb => Below.heap_setCell _ _ _ _ (by
    rcases hb with h1 | h1
    · have := hF b h1; simp; omega
    · simp; omega)⟩
theorem Bx.setN (h : Bx g p N d M F w (.mk ty n ps pa) A c B c' wx) (x : Int) (hx : I64 x) (hF : ∀ b, F b → b < w.heap.size ∧ b ≠ g) (hg : g < w.heap.size) : Bx g p N d M F w (.mk ty x ps pa) A c B c' (wx.setCell ⟨w.heap.size, 1, none⟩ (.int .i64 x)) := by
  obtain ⟨h1, h2, h3⟩ := h.keeps hF hg 1 (.int .i64 x)
  have hr := VRd.keep (w := wx) (w' := wx.setCell ⟨w.heap.size, 1, none⟩ (.int .i64 x)) h3 h.rd
  exact ⟨h1, h.box.set_ 1 _, h2, ⟨hr.ty, hx, by rw [size_setCell]; exact hr.parts, by rw [size_setCell]; exact hr.path⟩, h.size, h.len⟩
theorem Bx.setT (h : Bx g p N d M F w (.mk ty n ps pa) A c B c' wx) (x : ByteArray) (hx : x.size ≤ maxLen) (hF : ∀ b, F b → b < w.heap.size ∧ b ≠ g) (hg : g < w.heap.size) : Bx g p N d M F w (.mk x n ps pa) A c B c' (wx.setCell ⟨w.heap.size, 0, none⟩ (.string x)) := by
  obtain ⟨h1, h2, h3⟩ := h.keeps hF hg 0 (.string x)
  have hr := VRd.keep (w := wx) (w' := wx.setCell ⟨w.heap.size, 0, none⟩ (.string x)) h3 h.rd
  exact ⟨h1, h.box.set_ 0 _, h2, ⟨hx, hr.n, by rw [size_setCell]; exact hr.parts, by rw [size_setCell]; exact hr.path⟩, h.size, h.len⟩
theorem Bx.setP (h : Bx g p N d M F w (.mk ty n ps pa) A c B c' wx) (hF : ∀ b, F b → b < w.heap.size ∧ b ≠ g) (hg : g < w.heap.size) {wy : World} (hy : wy = wx.alloc (.cells #[.int .i64 0] 3)) :
    Bx g p N d M F w (.mk ty n ps [0]) A c (some ⟨wx.heap.size, 0, none⟩) 1 (wy.setCell ⟨w.heap.size, 3, none⟩ (.slice (some ⟨wx.heap.size, 0, none⟩) 1 1)) := by
  have hb : Below wx.heap.size wx wy := by rw [hy]; exact (Below.refl _ _).alloc (Nat.le_refl _) _
  have hB : Blk wy wx.heap.size 3 #[.int .i64 0] := by rw [hy]; exact Blk.new _ _ _
  have hs : wy.heap.size = wx.heap.size + 1 := by rw [hy]; simp
  have hx := h.go hF hg (h.step.below hb) (grown_below (Nat.le_refl _) hb)
  obtain ⟨h1, h2, h3⟩ := hx.keeps hF hg 3 (.slice (some ⟨wx.heap.size, 0, none⟩) 1 1)
  have hr := VRd.keep (w := wy) (w' := wy.setCell ⟨w.heap.size, 3, none⟩ (.slice (some ⟨wx.heap.size, 0, none⟩) 1 1)) h3 hx.rd
  have hst := h.step.grown.size
  have hrl := h.res.lt
  refine ⟨h1, hx.box.set_ 3 _, h2, ⟨hr.ty, hr.n, by rw [size_setCell]; exact hr.parts, ?_⟩, h.size, h.len⟩
  have hB2 : Blk (wy.setCell ⟨w.heap.size, 3, none⟩ (.slice (some ⟨wx.heap.size, 0, none⟩) 1 1)) wx.heap.size 3 #[.int .i64 0] := (Below.heap_setCell _ _ _ _ (by simp; omega)).trans hB
  refine ⟨_, 1, rfl, Nat.le_refl _, by unfold maxLen; omega, fun _ => ⟨wx.heap.size, 0, rfl, .inr ⟨by omega, by simp [World.setCell]; omega⟩, fun i x hi => ?_⟩⟩
  match i, hi with
  | 0, hi =>
    obtain rfl : (0 : Int) = x := Option.some.inj (show some (0 : Int) = some x from hi)
    exact ⟨[.int .i64 0], fun j u hu => by match j, hu with
                                           | 0, hu => cases hu; exact hB2.cell 0
                                           | j + 1, hu => simp at hu, rfl, by unfold I64; omega⟩
  | i + 1, hi => exact absurd (show ([] : List Int)[i]? = some x from hi) (by simp)
theorem Bx.setR (h : Bx g p N d M F w (.mk ty n ps pa) A c B c' wx) (hps : 0 < ps.length) {A2 : Option Addr} {c2 : Nat} (hs : (Cod.val d).Sl (fun b => F b ∨ (w.heap.size + 1 < b ∧ b < wx.heap.size)) wx (.slice A2 ps.tail.length c2) ps.tail) (hF : ∀ b, F b → b < w.heap.size ∧ b ≠ g) (hg : g < w.heap.size) :
    Bx g p N d M F w (.mk ty n ps.tail pa) A2 c2 B c' (wx.setCell ⟨w.heap.size, 2, none⟩ (.slice A2 ps.tail.length c2)) := by
  obtain ⟨h1, h2, h3⟩ := h.keeps hF hg 2 (.slice A2 ps.tail.length c2)
  have hr := VRd.keep (w := wx) (w' := wx.setCell ⟨w.heap.size, 2, none⟩ (.slice A2 ps.tail.length c2)) h3 h.rd
  have hs2 := hs.keep (w' := wx.setCell ⟨w.heap.size, 2, none⟩ (.slice A2 ps.tail.length c2)) h3
  refine ⟨h1, ?_, h2, ⟨hr.ty, hr.n, ?_, by rw [size_setCell]; exact hr.path⟩, ?_, ?_⟩
  · exact h.box.set_ 2 (.slice A2 ps.tail.length c2)
  · show (Cod.val d).Sl _ _ (.slice A2 ps.tail.length c2) ps.tail
    rw [size_setCell]; exact hs2
  · refine Int.le_trans ?_ h.size
    show (1 : Int) + sumL _ ps.tail ≤ 1 + sumL _ ps
    cases ps with
    | nil => simp at hps
    | cons a r =>
      show (1 : Int) + sumL _ r ≤ 1 + (sizeV d a + sumL _ r)
      have := sizeV_pos d a
      omega
  · show ps.tail.length ≤ 4
    have : ps.length ≤ 4 := h.len
    rw [List.length_tail]; omega
theorem Bx.tail1 {pb po : Nat} (h : Bx g p N d M F w (.mk ty n ps pa) (some ⟨pb, po, none⟩) 1 B c' wx) (hps : 0 < ps.length) : (Cod.val d).Sl (fun b => F b ∨ (w.heap.size + 1 < b ∧ b < wx.heap.size)) wx (.slice (some ⟨pb, po, none⟩) (ps.length - 1) 0) ps.tail := by
  have hp := h.rd.parts
  have hl : ps.length ≤ 1 := by
    obtain ⟨_, _, h1, h2, _⟩ := hp
    simp only [Value.slice.injEq] at h1
    have h2' : ps.length ≤ _ := h2
    omega
  have h0 : ps.length - 1 = 0 := by omega
  have ht : ps.tail = [] := List.eq_nil_of_length_eq_zero (by rw [List.length_tail]; omega)
  rw [h0, ht]
  exact Cod.Sl.none_len (Nat.zero_le _)
theorem Bx.tail4 {pb po : Nat} (h : Bx g p N d M F w (.mk ty n ps pa) (some ⟨pb, po, none⟩) c B c' wx) (hps : 0 < ps.length) : (Cod.val d).Sl (fun b => F b ∨ (w.heap.size + 1 < b ∧ b < wx.heap.size)) wx (.slice (some ⟨pb, po + 4, none⟩) (ps.length - 1) (c - 1)) ps.tail := by
  have hp := h.rd.parts
  have hz : (Cod.val d).size = 4 := by cases d <;> rfl
  cases ps with
  | nil => simp at hps
  | cons a r =>
    have := Cod.Sl.tail_ (show (Cod.val d).Sl _ wx (.slice (some ⟨pb, po, none⟩) (a :: r).length c) (a :: r) from hp)
    rw [hz] at this
    exact this
end

set_option maxRecDepth 100000 in
set_option maxHeartbeats 8000000 in
theorem bad_any (F : Nat → Prop) (g p d : Nat) (M : Int) (ty : ByteArray) (n : Int) (ps : List Val) (A : Option Addr) (c : Nat) (B : Option Addr) (cB : Nat) (w : World) (h : Rdr g p w) (hp : p ≤ 50000000)
    (hv : VRd (Cod.val d) F w (.slice A ps.length c) (.slice B 0 cB) (.mk ty n ps [])) (hF : ∀ b, F b → b < w.heap.size ∧ b ≠ g) (hlen : ps.length ≤ 4) (hsz : sizeOf' (fun _ => 1) (sizeV d) (.mk ty n ps []) ≤ M) :
    Calls Try.prog 46 #[.pointer (some ⟨g, 0, none⟩), .agg #[.string ty, .int .i64 n, .slice A ps.length c, .slice B 0 cB]] w (BadD g p 3 d M F w) := by
  have hgl := h.lt
  have hpc := hv.parts
  obtain ⟨w0, hw0⟩ : ∃ w0, w0 = (w.alloc (.cells #[.string ty, .int .i64 n, .slice A ps.length c, .slice B 0 cB] 57)).alloc (.cells #[.string ⟨#[]⟩, .int .i64 0, .slice none 0 0, .slice none 0 0] 57) := ⟨_, rfl⟩
  have hb0 : Below w.heap.size w w0 := by rw [hw0]; exact ((Below.refl _ _).alloc (Nat.le_refl _) _).alloc (by simp) _
  have hbx := Blk.alloc (Blk.new w 57 #[.string ty, .int .i64 n, .slice A ps.length c, .slice B 0 cB]) (.cells #[.string ⟨#[]⟩, .int .i64 0, .slice none 0 0, .slice none 0 0] 57)
  have hrs := Blk.new (w.alloc (.cells #[.string ty, .int .i64 n, .slice A ps.length c, .slice B 0 cB] 57)) 57 #[.string ⟨#[]⟩, .int .i64 0, .slice none 0 0, .slice none 0 0]
  simp only [World.size_alloc] at hrs
  rw [← hw0] at hbx hrs
  have HX0 := Lib.hid (show Bx g p 0 d M F w (.mk ty n ps []) A c B cB w0 from ⟨(Step.start (N := 0) h).below hb0, hbx, hrs, (VRd.keep (w := w) (w' := w0) (fun b hb => hb0.block b (hF b hb).1) hv).mono fun b hb => .inl hb, hsz, hlen⟩)
  have HF := Lib.hid hF
  have HC := Lib.hid (pick_at (n := 9) HX0.out.step (by omega) (by omega))
  have Hw0 := Lib.hid hw0
  have hl0 : w.heap.size + 1 < w0.heap.size := hrs.lt
  have HP := Lib.hid hpc
  have hcm : c ≤ maxLen ∧ ps.length ≤ c := by obtain ⟨_, _, h1, h2, h3, _⟩ := hpc; simp only [Value.slice.injEq] at h1; omega
  unfold maxLen at hcm
  obtain ⟨hcm1, hcm2⟩ := hcm
  clear hw0 hb0 hbx hrs h hv hF hpc
  go_enter Try.func46, Try.ntmps46
  go_wp2_with fail
  rw [← Hw0.out]
  with_reducible refine HC.out.mono ?_
  rintro e w1 ⟨k9, rfl, hk9, hS1, hg1⟩
  have HX1 := Lib.hid (HX0.out.go HF.out hgl hS1 hg1)
  clear hS1 hg1 hk9 HC
  by_cases h9 : 0 < k9
  · have t0 : decide ((0 : Int) < (k9 : Int)) = true := by rw [decide_eq_true_eq]; omega
    obtain ⟨b0, b1, b2, b3⟩ := (show Blk w1 w.heap.size 57 #[.string ty, .int .i64 n, .slice A ps.length c, .slice B 0 cB] from HX1.out.box).c2
    obtain ⟨x0, x1, x2, x3⟩ := HX1.out.res.c2
    obtain ⟨y0, y1, y2, y3⟩ := HX1.out.res.f4
    obtain ⟨wE, hwE⟩ : ∃ wE, wE = (((w1.setCell ⟨w.heap.size + 1, 0, none⟩ (.string ty)).setCell ⟨w.heap.size + 1, 1, none⟩ (.int .i64 n)).setCell ⟨w.heap.size + 1, 2, none⟩ (.slice A ps.length c)).setCell ⟨w.heap.size + 1, 3, none⟩ (.slice B 0 cB) := ⟨_, rfl⟩
    obtain ⟨hre, hq⟩ := HX1.out.end_ HF.out hgl hwE
    have HRE := Lib.hid (show Blk wE (w.heap.size + 1) 57 #[.string ty, .int .i64 n, .slice A ps.length c, .slice B 0 cB] from hre)
    have HQ := Lib.hid (show BadD g p 3 d M F w (.returned (.agg #[.string ty, .int .i64 n, .slice A ps.length c, .slice B 0 cB])) wE from hq.more (by omega))
    have HwE := Lib.hid hwE
    clear hwE hre hq
    go_wp2
    rw [← HwE.out]
    obtain ⟨r0, r1, r2, r3⟩ := HRE.out.c2
    exact bodyPost_ret (v := .agg #[.string ty, .int .i64 n, .slice A ps.length c, .slice B 0 cB]) (by simp [results, Try.results46, go_sem, r0, r1, r2, r3]) rfl HQ.out
  · have t0 : decide ((0 : Int) < (k9 : Int)) = false := by rw [decide_eq_false_iff_not]; omega
    have HC := Lib.hid (pick_at (n := 4) HX1.out.step (by omega) (by omega))
    go_wp2_with fail
    with_reducible refine HC.out.mono ?_
    rintro e w2 ⟨k, rfl, hk, hS2, hg2⟩
    have HX2 := Lib.hid (HX1.out.go HF.out hgl hS2 hg2)
    have hk3 : k ≤ 3 := by omega
    clear hS2 hg2 hk HC
    by_cases k0 : k = 0
    ·
      have t1 : ((k : Int) == 0) = true := by rw [beq_iff_eq]; omega
      go_wp2_with fail
      refine (num_step (xs := [-1, 2, 4, 1000001, 5]) (w := w2) HX2.out.step (by omega) (by simp) rfl (by simp) (by simp)).mono ?_
      rintro e w3 ⟨x, hx, rfl, hS3, hg3⟩
      have hI : I64 x := by simp at hx; unfold I64; omega
      have HX3 := Lib.hid (HX2.out.go HF.out hgl hS3 (grown_trans (World.grownBy_alloc w2 _ _) hg3))
      obtain ⟨_, q1, _, _⟩ := (show Blk w3 w.heap.size 57 #[.string ty, .int .i64 n, .slice A ps.length c, .slice B 0 cB] from HX3.out.box).c2
      obtain ⟨_, f1, _, _⟩ := HX3.out.box.f4
      have HX4 := Lib.hid (HX3.out.setN x hI HF.out hgl)
      clear hx hS3 hg3 hI
      obtain ⟨b0, b1, b2, b3⟩ := (show Blk (w3.setCell ⟨w.heap.size, 1, none⟩ (.int .i64 x)) w.heap.size 57 #[.string ty, .int .i64 x, .slice A ps.length c, .slice B 0 cB] from HX4.out.box).c2
      obtain ⟨x0, x1, x2, x3⟩ := HX4.out.res.c2
      obtain ⟨y0, y1, y2, y3⟩ := HX4.out.res.f4
      obtain ⟨wE, hwE⟩ : ∃ wE, wE = ((((w3.setCell ⟨w.heap.size, 1, none⟩ (.int .i64 x)).setCell ⟨w.heap.size + 1, 0, none⟩ (.string ty)).setCell ⟨w.heap.size + 1, 1, none⟩ (.int .i64 x)).setCell ⟨w.heap.size + 1, 2, none⟩ (.slice A ps.length c)).setCell ⟨w.heap.size + 1, 3, none⟩ (.slice B 0 cB) := ⟨_, rfl⟩
      obtain ⟨hre, hq⟩ := HX4.out.end_ HF.out hgl hwE
      have HRE := Lib.hid (show Blk wE (w.heap.size + 1) 57 #[.string ty, .int .i64 x, .slice A ps.length c, .slice B 0 cB] from hre)
      have HQ := Lib.hid (show BadD g p 3 d M F w (.returned (.agg #[.string ty, .int .i64 x, .slice A ps.length c, .slice B 0 cB])) wE from hq.more (by omega))
      have HwE := Lib.hid hwE
      clear hwE hre hq
      go_wp2
      rw [← HwE.out]
      obtain ⟨r0, r1, r2, r3⟩ := HRE.out.c2
      exact bodyPost_ret (v := .agg #[.string ty, .int .i64 x, .slice A ps.length c, .slice B 0 cB]) (by simp [results, Try.results46, go_sem, r0, r1, r2, r3]) rfl HQ.out
    · by_cases k1 : k = 1
      · skip
        have t1 : ((k : Int) == 0) = false := by rw [beq_eq_false_iff_ne]; omega
        have t2 : ((k : Int) == 1) = true := by rw [beq_iff_eq]; omega
        go_wp2_with fail
        refine (of_step (w := w2) (xs := [⟨#[110]⟩, ⟨#[98]⟩, ⟨#[111]⟩, ⟨#[83, 48, 48]⟩, ⟨#[83, 49, 49]⟩, ⟨#[38, 110]⟩, ⟨#[]⟩]) HX2.out.step (by omega) (by simp) rfl (by simp) (by simp) (by intro x hx; simp at hx; rcases hx with rfl | rfl | rfl | rfl | rfl | rfl | rfl <;> decide)).mono ?_
        rintro e w3 ⟨x, hx, rfl, hS3, hg3⟩
        have hI : x.size ≤ maxLen := by simp at hx; rcases hx with rfl | rfl | rfl | rfl | rfl | rfl | rfl <;> decide
        have HX3 := Lib.hid (HX2.out.go HF.out hgl hS3 (grown_trans (World.grownBy_alloc w2 _ _) hg3))
        obtain ⟨q0, _, _, _⟩ := (show Blk w3 w.heap.size 57 #[.string ty, .int .i64 n, .slice A ps.length c, .slice B 0 cB] from HX3.out.box).c2
        obtain ⟨f0, _, _, _⟩ := HX3.out.box.f4
        have HX4 := Lib.hid (HX3.out.setT x hI HF.out hgl)
        clear hx hS3 hg3 hI
        obtain ⟨b0, b1, b2, b3⟩ := (show Blk (w3.setCell ⟨w.heap.size, 0, none⟩ (.string x)) w.heap.size 57 #[.string x, .int .i64 n, .slice A ps.length c, .slice B 0 cB] from HX4.out.box).c2
        obtain ⟨x0, x1, x2, x3⟩ := HX4.out.res.c2
        obtain ⟨y0, y1, y2, y3⟩ := HX4.out.res.f4
        obtain ⟨wE, hwE⟩ : ∃ wE, wE = ((((w3.setCell ⟨w.heap.size, 0, none⟩ (.string x)).setCell ⟨w.heap.size + 1, 0, none⟩ (.string x)).setCell ⟨w.heap.size + 1, 1, none⟩ (.int .i64 n)).setCell ⟨w.heap.size + 1, 2, none⟩ (.slice A ps.length c)).setCell ⟨w.heap.size + 1, 3, none⟩ (.slice B 0 cB) := ⟨_, rfl⟩
        obtain ⟨hre, hq⟩ := HX4.out.end_ HF.out hgl hwE
        have HRE := Lib.hid (show Blk wE (w.heap.size + 1) 57 #[.string x, .int .i64 n, .slice A ps.length c, .slice B 0 cB] from hre)
        have HQ := Lib.hid (show BadD g p 3 d M F w (.returned (.agg #[.string x, .int .i64 n, .slice A ps.length c, .slice B 0 cB])) wE from hq.more (by omega))
        have HwE := Lib.hid hwE
        clear hwE hre hq
        go_wp2
        rw [← HwE.out]
        obtain ⟨r0, r1, r2, r3⟩ := HRE.out.c2
        exact bodyPost_ret (v := .agg #[.string x, .int .i64 n, .slice A ps.length c, .slice B 0 cB]) (by simp [results, Try.results46, go_sem, r0, r1, r2, r3]) rfl HQ.out
      · by_cases k2 : k = 2 ∧ 0 < ps.length
        · obtain ⟨k2e, hps⟩ := k2
          by_cases hc1 : c = 1
          · skip
            subst hc1
            have t1 : ((k : Int) == 0) = false := by rw [beq_eq_false_iff_ne]; omega
            have t2 : ((k : Int) == 1) = false := by rw [beq_eq_false_iff_ne]; omega
            have t3 : ((k : Int) == 2) = true := by rw [beq_iff_eq]; omega
            obtain ⟨a, r, rfl⟩ : ∃ a r, ps = a :: r := by
              cases ps with
              | nil => simp at hps
              | cons a r => exact ⟨a, r, rfl⟩
            have t4 : decide ((0 : Int) < (r.length : Int) + 1) = true := by rw [decide_eq_true_eq]; omega
            have t5 : (0 : Int) < (r.length : Int) + 1 := by omega
            obtain ⟨pb, po, pcap, _, hpv, -⟩ := HP.out.get (k := 0) hps
            obtain ⟨rfl, rfl⟩ : A = some ⟨pb, po, none⟩ ∧ 1 = pcap := by simpa [Val.parts] using hpv
            obtain ⟨q0, q1, q2, q3⟩ := (show Blk w2 w.heap.size 57 #[.string ty, .int .i64 n, .slice (some ⟨pb, po, none⟩) (r.length + 1) 1, .slice B 0 cB] from HX2.out.box).c2
            obtain ⟨_, _, f2, _⟩ := HX2.out.box.f4
            have i0 : (1 : Int) ≤ (r.length : Int) + 1 := by omega
            have hc2 : r.length + 1 ≤ 1 := hcm2
            clear hpv
            have hst : (Cod.val d).Sl (fun b => F b ∨ (w.heap.size + 1 < b ∧ b < w2.heap.size)) w2 (.slice (some ⟨pb, po, none⟩) r.length 0) r := HX2.out.tail1 hps
            have HX4 := Lib.hid (HX2.out.setR hps hst HF.out hgl)
            obtain ⟨w4, hw4⟩ : ∃ w4, w4 = w2.setCell ⟨w.heap.size, 2, none⟩ (.slice (some ⟨pb, po, none⟩) r.length 0) := ⟨_, rfl⟩
            have HX5 := Lib.hid (show Bx g p (0 + 1 + 1) d M F w (.mk ty n r []) (some ⟨pb, po, none⟩) 0 B cB w4 by rw [hw4]; exact HX4.out)
            have Hw4 := Lib.hid hw4
            clear hst hw4 HX4 hps hcm1 hcm2 hc2 hlen hsz
            go_upto_region 11 with fail
            rw [← Hw4.out]
            clear q0 q1 q2 q3 f2 i0 t4 t5
            obtain ⟨b0, b1, b2, b3⟩ := (show Blk w4 w.heap.size 57 #[.string ty, .int .i64 n, .slice (some ⟨pb, po, none⟩) r.length 0, .slice B 0 cB] from HX5.out.box).c2
            obtain ⟨x0, x1, x2, x3⟩ := HX5.out.res.c2
            obtain ⟨y0, y1, y2, y3⟩ := HX5.out.res.f4
            obtain ⟨wE, hwE⟩ : ∃ wE, wE = (((w4.setCell ⟨w.heap.size + 1, 0, none⟩ (.string ty)).setCell ⟨w.heap.size + 1, 1, none⟩ (.int .i64 n)).setCell ⟨w.heap.size + 1, 2, none⟩ (.slice (some ⟨pb, po, none⟩) r.length 0)).setCell ⟨w.heap.size + 1, 3, none⟩ (.slice B 0 cB) := ⟨_, rfl⟩
            obtain ⟨hre, hq⟩ := HX5.out.end_ HF.out hgl hwE
            have HRE := Lib.hid (show Blk wE (w.heap.size + 1) 57 #[.string ty, .int .i64 n, .slice (some ⟨pb, po, none⟩) r.length 0, .slice B 0 cB] from hre)
            have HQ := Lib.hid (show BadD g p 3 d M F w (.returned (.agg #[.string ty, .int .i64 n, .slice (some ⟨pb, po, none⟩) r.length 0, .slice B 0 cB])) wE from hq.more (by omega))
            have HwE := Lib.hid hwE
            clear hwE hre hq
            go_wp2
            rw [← HwE.out]
            obtain ⟨r0, r1, r2, r3⟩ := HRE.out.c2
            exact bodyPost_ret (v := .agg #[.string ty, .int .i64 n, .slice (some ⟨pb, po, none⟩) r.length 0, .slice B 0 cB]) (by simp [results, Try.results46, go_sem, r0, r1, r2, r3]) rfl HQ.out
          · skip
            have t1 : ((k : Int) == 0) = false := by rw [beq_eq_false_iff_ne]; omega
            have t2 : ((k : Int) == 1) = false := by rw [beq_eq_false_iff_ne]; omega
            have t3 : ((k : Int) == 2) = true := by rw [beq_iff_eq]; omega
            obtain ⟨a, r, rfl⟩ : ∃ a r, ps = a :: r := by
              cases ps with
              | nil => simp at hps
              | cons a r => exact ⟨a, r, rfl⟩
            have t4 : decide ((0 : Int) < (r.length : Int) + 1) = true := by rw [decide_eq_true_eq]; omega
            have t5 : (0 : Int) < (r.length : Int) + 1 := by omega
            obtain ⟨pb, po, pcap, _, hpv, -⟩ := HP.out.get (k := 0) hps
            obtain ⟨rfl, rfl⟩ : A = some ⟨pb, po, none⟩ ∧ c = pcap := by simpa [Val.parts] using hpv
            obtain ⟨q0, q1, q2, q3⟩ := (show Blk w2 w.heap.size 57 #[.string ty, .int .i64 n, .slice (some ⟨pb, po, none⟩) (r.length + 1) c, .slice B 0 cB] from HX2.out.box).c2
            obtain ⟨_, _, f2, _⟩ := HX2.out.box.f4
            have i0 : (1 : Int) ≤ (r.length : Int) + 1 := by omega
            have hc2 : r.length + 1 ≤ c := hcm2
            clear hpv
            have hst : (Cod.val d).Sl (fun b => F b ∨ (w.heap.size + 1 < b ∧ b < w2.heap.size)) w2 (.slice (some ⟨pb, po + 4, none⟩) r.length (c - 1)) r := HX2.out.tail4 hps
            have HX4 := Lib.hid (HX2.out.setR hps hst HF.out hgl)
            obtain ⟨w4, hw4⟩ : ∃ w4, w4 = w2.setCell ⟨w.heap.size, 2, none⟩ (.slice (some ⟨pb, po + 4, none⟩) r.length (c - 1)) := ⟨_, rfl⟩
            have HX5 := Lib.hid (show Bx g p (0 + 1 + 1) d M F w (.mk ty n r []) (some ⟨pb, po + 4, none⟩) (c - 1) B cB w4 by rw [hw4]; exact HX4.out)
            have Hw4 := Lib.hid hw4
            clear hst hw4 HX4 hps hcm1 hcm2 hc2 hlen hsz
            go_upto_region 11 with fail
            rw [← Hw4.out]
            clear q0 q1 q2 q3 f2 i0 t4 t5
            obtain ⟨b0, b1, b2, b3⟩ := (show Blk w4 w.heap.size 57 #[.string ty, .int .i64 n, .slice (some ⟨pb, po + 4, none⟩) r.length (c - 1), .slice B 0 cB] from HX5.out.box).c2
            obtain ⟨x0, x1, x2, x3⟩ := HX5.out.res.c2
            obtain ⟨y0, y1, y2, y3⟩ := HX5.out.res.f4
            obtain ⟨wE, hwE⟩ : ∃ wE, wE = (((w4.setCell ⟨w.heap.size + 1, 0, none⟩ (.string ty)).setCell ⟨w.heap.size + 1, 1, none⟩ (.int .i64 n)).setCell ⟨w.heap.size + 1, 2, none⟩ (.slice (some ⟨pb, po + 4, none⟩) r.length (c - 1))).setCell ⟨w.heap.size + 1, 3, none⟩ (.slice B 0 cB) := ⟨_, rfl⟩
            obtain ⟨hre, hq⟩ := HX5.out.end_ HF.out hgl hwE
            have HRE := Lib.hid (show Blk wE (w.heap.size + 1) 57 #[.string ty, .int .i64 n, .slice (some ⟨pb, po + 4, none⟩) r.length (c - 1), .slice B 0 cB] from hre)
            have HQ := Lib.hid (show BadD g p 3 d M F w (.returned (.agg #[.string ty, .int .i64 n, .slice (some ⟨pb, po + 4, none⟩) r.length (c - 1), .slice B 0 cB])) wE from hq.more (by omega))
            have HwE := Lib.hid hwE
            clear hwE hre hq
            go_wp2
            rw [← HwE.out]
            obtain ⟨r0, r1, r2, r3⟩ := HRE.out.c2
            exact bodyPost_ret (v := .agg #[.string ty, .int .i64 n, .slice (some ⟨pb, po + 4, none⟩) r.length (c - 1), .slice B 0 cB]) (by simp [results, Try.results46, go_sem, r0, r1, r2, r3]) rfl HQ.out
        · by_cases k3 : k = 2
          · skip
            have t1 : ((k : Int) == 0) = false := by rw [beq_eq_false_iff_ne]; omega
            have t2 : ((k : Int) == 1) = false := by rw [beq_eq_false_iff_ne]; omega
            have t3 : ((k : Int) == 2) = true := by rw [beq_iff_eq]; omega
            have t4 : decide ((0 : Int) < (ps.length : Int)) = false := by rw [decide_eq_false_iff_not]; omega
            obtain ⟨_, _, q2, q3⟩ := (show Blk w2 w.heap.size 57 #[.string ty, .int .i64 n, .slice A ps.length c, .slice B 0 cB] from HX2.out.box).c2
            obtain ⟨_, _, _, f3⟩ := HX2.out.box.f4
            have hbw : w.heap.size < w2.heap.size := HX2.out.box.lt
            obtain ⟨w3, hw3⟩ : ∃ w3, w3 = w2.alloc (.cells #[.int .i64 0] 3) := ⟨_, rfl⟩
            have hx4 := HX2.out.setP HF.out hgl hw3
            have hsw : (w2.alloc (.cells #[.int .i64 0] 3)).setCell ⟨w.heap.size, 3, none⟩ (.slice (some ⟨w2.heap.size, 0, none⟩) 1 1) = (w2.setCell ⟨w.heap.size, 3, none⟩ (.slice (some ⟨w2.heap.size, 0, none⟩) 1 1)).alloc (.cells #[.int .i64 0] 3) := World.setCell_alloc_past _ _ _ _ hbw
            rw [hw3, hsw] at hx4
            have HX4 := Lib.hid hx4
            clear hx4 hsw
            subst hw3
            obtain ⟨b0, b1, b2, b3⟩ := (show Blk ((w2.setCell ⟨w.heap.size, 3, none⟩ (.slice (some ⟨w2.heap.size, 0, none⟩) 1 1)).alloc (.cells #[.int .i64 0] 3)) w.heap.size 57 #[.string ty, .int .i64 n, .slice A ps.length c, .slice (some ⟨w2.heap.size, 0, none⟩) 1 1] from HX4.out.box).c2
            obtain ⟨x0, x1, x2, x3⟩ := HX4.out.res.c2
            obtain ⟨y0, y1, y2, y3⟩ := HX4.out.res.f4
            obtain ⟨wE, hwE⟩ : ∃ wE, wE = (((((w2.setCell ⟨w.heap.size, 3, none⟩ (.slice (some ⟨w2.heap.size, 0, none⟩) 1 1)).alloc (.cells #[.int .i64 0] 3)).setCell ⟨w.heap.size + 1, 0, none⟩ (.string ty)).setCell ⟨w.heap.size + 1, 1, none⟩ (.int .i64 n)).setCell ⟨w.heap.size + 1, 2, none⟩ (.slice A ps.length c)).setCell ⟨w.heap.size + 1, 3, none⟩ (.slice (some ⟨w2.heap.size, 0, none⟩) 1 1) := ⟨_, rfl⟩
            obtain ⟨hre, hq⟩ := HX4.out.end_ HF.out hgl hwE
            have HRE := Lib.hid (show Blk wE (w.heap.size + 1) 57 #[.string ty, .int .i64 n, .slice A ps.length c, .slice (some ⟨w2.heap.size, 0, none⟩) 1 1] from hre)
            have HQ := Lib.hid (show BadD g p 3 d M F w (.returned (.agg #[.string ty, .int .i64 n, .slice A ps.length c, .slice (some ⟨w2.heap.size, 0, none⟩) 1 1])) wE from hq.more (by omega))
            have HwE := Lib.hid hwE
            clear hwE hre hq
            go_wp2
            rw [← HwE.out]
            obtain ⟨r0, r1, r2, r3⟩ := HRE.out.c2
            exact bodyPost_ret (v := .agg #[.string ty, .int .i64 n, .slice A ps.length c, .slice (some ⟨w2.heap.size, 0, none⟩) 1 1]) (by simp [results, Try.results46, go_sem, r0, r1, r2, r3]) rfl HQ.out
          · skip
            have t1 : ((k : Int) == 0) = false := by rw [beq_eq_false_iff_ne]; omega
            have t2 : ((k : Int) == 1) = false := by rw [beq_eq_false_iff_ne]; omega
            have t3 : ((k : Int) == 2) = false := by rw [beq_eq_false_iff_ne]; omega
            obtain ⟨_, _, q2, q3⟩ := (show Blk w2 w.heap.size 57 #[.string ty, .int .i64 n, .slice A ps.length c, .slice B 0 cB] from HX2.out.box).c2
            obtain ⟨_, _, _, f3⟩ := HX2.out.box.f4
            have hbw : w.heap.size < w2.heap.size := HX2.out.box.lt
            obtain ⟨w3, hw3⟩ : ∃ w3, w3 = w2.alloc (.cells #[.int .i64 0] 3) := ⟨_, rfl⟩
            have hx4 := HX2.out.setP HF.out hgl hw3
            have hsw : (w2.alloc (.cells #[.int .i64 0] 3)).setCell ⟨w.heap.size, 3, none⟩ (.slice (some ⟨w2.heap.size, 0, none⟩) 1 1) = (w2.setCell ⟨w.heap.size, 3, none⟩ (.slice (some ⟨w2.heap.size, 0, none⟩) 1 1)).alloc (.cells #[.int .i64 0] 3) := World.setCell_alloc_past _ _ _ _ hbw
            rw [hw3, hsw] at hx4
            have HX4 := Lib.hid hx4
            clear hx4 hsw
            subst hw3
            obtain ⟨b0, b1, b2, b3⟩ := (show Blk ((w2.setCell ⟨w.heap.size, 3, none⟩ (.slice (some ⟨w2.heap.size, 0, none⟩) 1 1)).alloc (.cells #[.int .i64 0] 3)) w.heap.size 57 #[.string ty, .int .i64 n, .slice A ps.length c, .slice (some ⟨w2.heap.size, 0, none⟩) 1 1] from HX4.out.box).c2
            obtain ⟨x0, x1, x2, x3⟩ := HX4.out.res.c2
            obtain ⟨y0, y1, y2, y3⟩ := HX4.out.res.f4
            obtain ⟨wE, hwE⟩ : ∃ wE, wE = (((((w2.setCell ⟨w.heap.size, 3, none⟩ (.slice (some ⟨w2.heap.size, 0, none⟩) 1 1)).alloc (.cells #[.int .i64 0] 3)).setCell ⟨w.heap.size + 1, 0, none⟩ (.string ty)).setCell ⟨w.heap.size + 1, 1, none⟩ (.int .i64 n)).setCell ⟨w.heap.size + 1, 2, none⟩ (.slice A ps.length c)).setCell ⟨w.heap.size + 1, 3, none⟩ (.slice (some ⟨w2.heap.size, 0, none⟩) 1 1) := ⟨_, rfl⟩
            obtain ⟨hre, hq⟩ := HX4.out.end_ HF.out hgl hwE
            have HRE := Lib.hid (show Blk wE (w.heap.size + 1) 57 #[.string ty, .int .i64 n, .slice A ps.length c, .slice (some ⟨w2.heap.size, 0, none⟩) 1 1] from hre)
            have HQ := Lib.hid (show BadD g p 3 d M F w (.returned (.agg #[.string ty, .int .i64 n, .slice A ps.length c, .slice (some ⟨w2.heap.size, 0, none⟩) 1 1])) wE from hq.more (by omega))
            have HwE := Lib.hid hwE
            clear hwE hre hq
            go_wp2
            rw [← HwE.out]
            obtain ⟨r0, r1, r2, r3⟩ := HRE.out.c2
            exact bodyPost_ret (v := .agg #[.string ty, .int .i64 n, .slice A ps.length c, .slice (some ⟨w2.heap.size, 0, none⟩) 1 1]) (by simp [results, Try.results46, go_sem, r0, r1, r2, r3]) rfl HQ.out
end Go.Proofs.Ytmomdflfjcboiaa
