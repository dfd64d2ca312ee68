/- What is drawn: values of kinds. -/
import Derived.Test.YtelhjdccfomafaaDoorDrawe
import Derived.Test.YtelhjdccfomafaaDoorVn
import Derived.Test.YtelhjdccfomafaaDoorVsz
namespace Go.Proofs.YtelhjdccfomafaaDoor
open Go.RowKit

/-- How many values there are at most, and numbers picked. -/
def vmax : Nat → Nat
  | 0 => 1
  | n + 1 => 1 + 4 * vmax n
theorem vmax_pos (n : Nat) : 1 ≤ vmax n := by cases n <;> simp [vmax]
theorem vmax_le : ∀ n, n ≤ 9 → vmax n ≤ 349525 := by decide +kernel
def rank3 (ks : Ks) (t : ByteArray) : Nat := match kindOf t with | some (m, k) => if hasB ks m k = true then 3 * m + k + 1 else 0 | none => 0
def Lens (ks : Ks) : Prop := ks.length ≤ 3 ∧ ∀ r ∈ ks, r.length ≤ 3
theorem Lens.has {ks : Ks} (h : Lens ks) {m k : Nat} (hh : hasB ks m k = true) : m ≤ 2 ∧ k ≤ 2 := by
  obtain ⟨hm, hk, _⟩ := has_at hh
  have h1 := h.1
  have h2 := h.2 _ (List.getElem_mem hm)
  omega
theorem rank3_kind {ks : Ks} {t : ByteArray} {m k : Nat} (h : kindOf t = some (m, k)) (hh : hasB ks m k = true) : rank3 ks t = 3 * m + k + 1 := by
  unfold rank3; rw [h]; exact if_pos hh
theorem rank3_le {ks : Ks} (h : Lens ks) (t : ByteArray) : rank3 ks t ≤ 9 := by
  unfold rank3
  cases hk : kindOf t with
  | none => simp
  | some mk =>
    obtain ⟨m, k⟩ := mk
    simp only
    split
    · rename_i hh
      have := h.has hh
      omega
    · omega
theorem rank3_field {ks : Ks} (h : Lens ks) (he : Early ks) {m k : Nat} (hh : hasB ks m k = true) {f : ByteArray} (hf : f ∈ (recAt ks m k).fields) : rank3 ks f < 3 * m + k + 1 := by
  obtain ⟨_, h2⟩ := (he m k hh).2 f hf
  unfold rank3
  cases hk : kindOf f with
  | none => simp
  | some mk =>
    obtain ⟨m', k'⟩ := mk
    simp only
    split
    · rename_i hh'
      have h3 := h.has hh'
      rcases h2 m' k' hk with h4 | ⟨_, h4⟩
      · omega
      · omega
    · omega

theorem sumL_nil (f : Val → Int) : sumL f [] = 0 := rfl
theorem sumL_push (f : Val → Int) (xs : List Val) (x : Val) : sumL f (xs ++ [x]) = sumL f xs + f x := by
  induction xs with
  | nil => simp [sumL]
  | cons y r ih => simp only [List.cons_append, sumL, ih]; omega

/-- A drawn value. -/
def ValueD (g p N d : Nat) (W : World) (e : Ending) (w' : World) : Prop :=
  ∃ (v : Val) (A : Option Addr) (c : Nat), e = .returned (.agg #[.string v.ty, .int .i64 v.n, .slice A v.parts.length c, .slice none 0 0]) ∧ v.path = [] ∧ v.parts.length ≤ 4 ∧
    VRd (Cod.val d) (Fresh W w') w' (.slice A v.parts.length c) (.slice none 0 0) v ∧ sizeOf' (fun _ => 1) (sizeV d) v ≤ (N : Nat) ∧ Step g p N W w'

theorem value_plain {g p N d : Nat} {W w' : World} (ty : ByteArray) (n : Int) (hty : ty.size ≤ 50) (hn : I64 n) (hs : Step g p N W w') (h1 : 1 ≤ N) :
    ValueD g p N d W (.returned (.agg #[.string ty, .int .i64 n, .slice none 0 0, .slice none 0 0])) w' :=
  ⟨.mk ty n [] [], none, 0, rfl, rfl, Nat.zero_le _, ⟨by show ty.size ≤ maxLen; unfold maxLen; omega, hn, Cod.Sl.nil_, Cod.Sl.nil_⟩, by show (1 : Int) + sumL _ [] ≤ _; rw [sumL_nil]; omega, hs⟩

theorem Step.setv {g p N b o : Nat} {a w : World} {u : Value} (h : Step g p N a w) (hb : a.heap.size ≤ b) (hg : g < a.heap.size) : Step g p N a (w.setCell ⟨b, o, none⟩ u) := h.set_ hb hg

theorem four_set {w : World} {b : Nat} {t : TypeId} {a0 a1 a2 a3 : Value} (h : Blk w b t #[a0, a1, a2, a3]) (v0 v1 v2 v3 : Value) :
    Blk ((((w.setCell ⟨b, 0, none⟩ v0).setCell ⟨b, 1, none⟩ v1).setCell ⟨b, 2, none⟩ v2).setCell ⟨b, 3, none⟩ v3) b t #[v0, v1, v2, v3] := (((h.set_ 0 v0).set_ 1 v1).set_ 2 v2).set_ 3 v3

set_option maxRecDepth 100000 in
set_option maxHeartbeats 4000000 in
/-- Of a type that is no kind. -/
theorem value_base (F : Nat → Prop) (g p d : Nat) (kv : Value) (ks : Ks) (t : ByteArray) (w : World) (h : Rdr g p w) (hp : p ≤ 5000000) (hv : Cod.recs.Sl F w kv ks) (hF : ∀ b, F b → b < w.heap.size ∧ b ≠ g) (h0 : rank3 ks t = 0) :
    Calls Tryd.prog 19 #[.pointer (some ⟨g, 0, none⟩), kv, .string t] w (ValueD g p 1 d w) := by
  have hgl := h.lt
  obtain ⟨w0, hw0⟩ : ∃ w0, w0 = w.alloc (.cells #[.string ⟨#[]⟩, .int .i64 0, .slice none 0 0, .slice none 0 0] 27) := ⟨_, rfl⟩
  have hb0 : Below w.heap.size w w0 := by rw [hw0]; exact (Below.refl _ _).alloc (Nat.le_refl _) _
  have HS0 := Lib.hid ((Step.start (N := 0) h).below hb0)
  have HR := Lib.hid (show Blk w0 w.heap.size 27 #[.string ⟨#[]⟩, .int .i64 0, .slice none 0 0, .slice none 0 0] by rw [hw0]; exact Blk.new _ _ _)
  have HV := Lib.hid (hv.keep fun b hb => hb0.block b (hF b hb).1)
  obtain ⟨Ak, ck, rfl, _⟩ := hv
  have Hw0 := Lib.hid hw0
  have hl0 : w.heap.size < w0.heap.size := HR.out.lt
  clear hw0 hb0 h
  by_cases hb : (t.toList == [98]) = true
  · clear h0
    have HC := Lib.hid (pick_at (n := 2) HS0.out (by omega) (by omega))
    go_enter Tryd.func19, Tryd.ntmps19
    go_wp2_with fail
    rw [← Hw0.out]
    with_reducible refine HC.out.mono ?_
    rintro e w1 ⟨k, rfl, hk, hS1, hg1⟩
    have HS1 := Lib.hid hS1
    have HI := Lib.hid (show I64 (k : Int) by unfold I64; omega)
    have HR1 := Lib.hid (show Blk w1 w.heap.size 27 #[.string ⟨#[]⟩, .int .i64 0, .slice none 0 0, .slice none 0 0] from (hg1.block _ hl0 (by simp; omega)).trans HR.out)
    clear hk hS1 hg1
    obtain ⟨x0, x1, x2, x3⟩ := HR1.out.c2
    obtain ⟨y0, y1, y2, y3⟩ := HR1.out.f4
    obtain ⟨wE, hwE⟩ : ∃ wE, wE = (((w1.setCell ⟨w.heap.size, 0, none⟩ (.string ⟨#[98]⟩)).setCell ⟨w.heap.size, 1, none⟩ (.int .i64 k)).setCell ⟨w.heap.size, 2, none⟩ (.slice none 0 0)).setCell ⟨w.heap.size, 3, none⟩ (.slice none 0 0) := ⟨_, rfl⟩
    have HRE := Lib.hid (show Blk wE w.heap.size 27 #[.string ⟨#[98]⟩, .int .i64 k, .slice none 0 0, .slice none 0 0] by rw [hwE]; exact four_set HR1.out _ _ _ _)
    have HQ := Lib.hid (show ValueD g p 1 d w (.returned (.agg #[.string ⟨#[98]⟩, .int .i64 k, .slice none 0 0, .slice none 0 0])) wE from value_plain _ _ (by decide) HI.out (by rw [hwE]; exact (((HS1.out.set_ (Nat.le_refl _) hgl).set_ (Nat.le_refl _) hgl).set_ (Nat.le_refl _) hgl).set_ (Nat.le_refl _) hgl) (Nat.le_refl _))
    have HwE := Lib.hid hwE
    clear hwE
    go_wp2
    rw [← HwE.out]
    obtain ⟨r0, r1, r2, r3⟩ := HRE.out.c2
    exact bodyPost_ret (v := .agg #[.string ⟨#[98]⟩, .int .i64 k, .slice none 0 0, .slice none 0 0]) (by simp [results, Tryd.results19, go_sem, r0, r1, r2, r3]) rfl HQ.out
  · have hb' : (t.toList == [98]) = false := by simpa using hb
    clear hb
    by_cases ho : (t.toList == [111]) = true
    · clear h0
      have HC := Lib.hid (pick_at (n := 4) HS0.out (by omega) (by omega))
      go_enter Tryd.func19, Tryd.ntmps19
      go_wp2_with fail
      rw [← Hw0.out]
      with_reducible refine HC.out.mono ?_
      rintro e w1 ⟨k, rfl, hk, hS1, hg1⟩
      have HS1 := Lib.hid hS1
      have HI := Lib.hid (show I64 (k : Int) by unfold I64; omega)
      have HR1 := Lib.hid (show Blk w1 w.heap.size 27 #[.string ⟨#[]⟩, .int .i64 0, .slice none 0 0, .slice none 0 0] from (hg1.block _ hl0 (by simp; omega)).trans HR.out)
      clear hk hS1 hg1
      obtain ⟨x0, x1, x2, x3⟩ := HR1.out.c2
      obtain ⟨y0, y1, y2, y3⟩ := HR1.out.f4
      obtain ⟨wE, hwE⟩ : ∃ wE, wE = (((w1.setCell ⟨w.heap.size, 0, none⟩ (.string ⟨#[111]⟩)).setCell ⟨w.heap.size, 1, none⟩ (.int .i64 k)).setCell ⟨w.heap.size, 2, none⟩ (.slice none 0 0)).setCell ⟨w.heap.size, 3, none⟩ (.slice none 0 0) := ⟨_, rfl⟩
      have HRE := Lib.hid (show Blk wE w.heap.size 27 #[.string ⟨#[111]⟩, .int .i64 k, .slice none 0 0, .slice none 0 0] by rw [hwE]; exact four_set HR1.out _ _ _ _)
      have HQ := Lib.hid (show ValueD g p 1 d w (.returned (.agg #[.string ⟨#[111]⟩, .int .i64 k, .slice none 0 0, .slice none 0 0])) wE from value_plain _ _ (by decide) HI.out (by rw [hwE]; exact (((HS1.out.set_ (Nat.le_refl _) hgl).set_ (Nat.le_refl _) hgl).set_ (Nat.le_refl _) hgl).set_ (Nat.le_refl _) hgl) (Nat.le_refl _))
      have HwE := Lib.hid hwE
      clear hwE
      go_wp2
      rw [← HwE.out]
      obtain ⟨r0, r1, r2, r3⟩ := HRE.out.c2
      exact bodyPost_ret (v := .agg #[.string ⟨#[111]⟩, .int .i64 k, .slice none 0 0, .slice none 0 0]) (by simp [results, Tryd.results19, go_sem, r0, r1, r2, r3]) rfl HQ.out
    · have ho' : (t.toList == [111]) = false := by simpa using ho
      clear ho
      cases hk : kindOf t with
      | none =>
        have HK := Lib.hid (l1Kind_no t w0 hk)
        clear hk h0
        go_enter Tryd.func19, Tryd.ntmps19
        go_wp2_with fail
        rw [← Hw0.out]
        with_reducible refine HK.out.mono ?_
        rintro e w1 ⟨rfl, n, rfl⟩
        go_wp2_with fail
        refine (num_step (xs := [0, 1, 2, 3, 7, 10, 100, 999999, 1000000]) (w := w0.drewN n) (HS0.out.below (below_drewN (Below.refl _ _) n)) (by omega) (by simp) rfl (by simp) (by simp)).mono ?_
        rintro e w1 ⟨x, hx, rfl, hS1, hg1⟩
        have HS1 := Lib.hid hS1
        have HI := Lib.hid (show I64 x by simp at hx; unfold I64; omega)
        have HR1 := Lib.hid (show Blk w1 w.heap.size 27 #[.string ⟨#[]⟩, .int .i64 0, .slice none 0 0, .slice none 0 0] from (hg1.block _ (by simp; omega) (by simp; omega)).trans ((show Blk (w0.drewN n) w.heap.size 27 #[.string ⟨#[]⟩, .int .i64 0, .slice none 0 0, .slice none 0 0] from HR.out).alloc _))
        clear hx hS1 hg1
        obtain ⟨x0, x1, x2, x3⟩ := HR1.out.c2
        obtain ⟨y0, y1, y2, y3⟩ := HR1.out.f4
        obtain ⟨wE, hwE⟩ : ∃ wE, wE = (((w1.setCell ⟨w.heap.size, 0, none⟩ (.string ⟨#[110]⟩)).setCell ⟨w.heap.size, 1, none⟩ (.int .i64 x)).setCell ⟨w.heap.size, 2, none⟩ (.slice none 0 0)).setCell ⟨w.heap.size, 3, none⟩ (.slice none 0 0) := ⟨_, rfl⟩
        have HRE := Lib.hid (show Blk wE w.heap.size 27 #[.string ⟨#[110]⟩, .int .i64 x, .slice none 0 0, .slice none 0 0] by rw [hwE]; exact four_set HR1.out _ _ _ _)
        have HQ := Lib.hid (show ValueD g p 1 d w (.returned (.agg #[.string ⟨#[110]⟩, .int .i64 x, .slice none 0 0, .slice none 0 0])) wE from value_plain _ _ (by decide) HI.out (by rw [hwE]; exact (((HS1.out.set_ (Nat.le_refl _) hgl).set_ (Nat.le_refl _) hgl).set_ (Nat.le_refl _) hgl).set_ (Nat.le_refl _) hgl) (Nat.le_refl _))
        have HwE := Lib.hid hwE
        clear hwE
        go_wp2
        rw [← HwE.out]
        obtain ⟨r0, r1, r2, r3⟩ := HRE.out.c2
        exact bodyPost_ret (v := .agg #[.string ⟨#[110]⟩, .int .i64 x, .slice none 0 0, .slice none 0 0]) (by simp [results, Tryd.results19, go_sem, r0, r1, r2, r3]) rfl HQ.out
      | some mk =>
        obtain ⟨m, k⟩ := mk
        have HK := Lib.hid (l1Kind_yes t m k w0 hk)
        have hh : hasB ks m k = false := by
          unfold rank3 at h0
          rw [hk] at h0
          simp only at h0
          split at h0
          · omega
          · rename_i hx; simpa using hx
        have HH := Lib.hid fun n => l1Has_any F _ ks m k (w0.drewN n) (HV.out.drewN n)
        rw [hh] at HH
        clear hk h0 hh
        go_enter Tryd.func19, Tryd.ntmps19
        go_wp2_with fail
        rw [← Hw0.out]
        with_reducible refine HK.out.mono ?_
        rintro e w1 ⟨rfl, n, rfl⟩
        go_wp2_with fail
        with_reducible refine (HH.out n).mono ?_
        rintro e w1 ⟨rfl, rfl⟩
        go_wp2_with fail
        refine (num_step (xs := [0, 1, 2, 3, 7, 10, 100, 999999, 1000000]) (w := w0.drewN n) (HS0.out.below (below_drewN (Below.refl _ _) n)) (by omega) (by simp) rfl (by simp) (by simp)).mono ?_
        rintro e w1 ⟨x, hx, rfl, hS1, hg1⟩
        have HS1 := Lib.hid hS1
        have HI := Lib.hid (show I64 x by simp at hx; unfold I64; omega)
        have HR1 := Lib.hid (show Blk w1 w.heap.size 27 #[.string ⟨#[]⟩, .int .i64 0, .slice none 0 0, .slice none 0 0] from (hg1.block _ (by simp; omega) (by simp; omega)).trans ((show Blk (w0.drewN n) w.heap.size 27 #[.string ⟨#[]⟩, .int .i64 0, .slice none 0 0, .slice none 0 0] from HR.out).alloc _))
        clear hx hS1 hg1
        obtain ⟨x0, x1, x2, x3⟩ := HR1.out.c2
        obtain ⟨y0, y1, y2, y3⟩ := HR1.out.f4
        obtain ⟨wE, hwE⟩ : ∃ wE, wE = (((w1.setCell ⟨w.heap.size, 0, none⟩ (.string ⟨#[110]⟩)).setCell ⟨w.heap.size, 1, none⟩ (.int .i64 x)).setCell ⟨w.heap.size, 2, none⟩ (.slice none 0 0)).setCell ⟨w.heap.size, 3, none⟩ (.slice none 0 0) := ⟨_, rfl⟩
        have HRE := Lib.hid (show Blk wE w.heap.size 27 #[.string ⟨#[110]⟩, .int .i64 x, .slice none 0 0, .slice none 0 0] by rw [hwE]; exact four_set HR1.out _ _ _ _)
        have HQ := Lib.hid (show ValueD g p 1 d w (.returned (.agg #[.string ⟨#[110]⟩, .int .i64 x, .slice none 0 0, .slice none 0 0])) wE from value_plain _ _ (by decide) HI.out (by rw [hwE]; exact (((HS1.out.set_ (Nat.le_refl _) hgl).set_ (Nat.le_refl _) hgl).set_ (Nat.le_refl _) hgl).set_ (Nat.le_refl _) hgl) (Nat.le_refl _))
        have HwE := Lib.hid hwE
        clear hwE
        go_wp2
        rw [← HwE.out]
        obtain ⟨r0, r1, r2, r3⟩ := HRE.out.c2
        exact bodyPost_ret (v := .agg #[.string ⟨#[110]⟩, .int .i64 x, .slice none 0 0, .slice none 0 0]) (by simp [results, Tryd.results19, go_sem, r0, r1, r2, r3]) rfl HQ.out
end Go.Proofs.YtelhjdccfomafaaDoor
