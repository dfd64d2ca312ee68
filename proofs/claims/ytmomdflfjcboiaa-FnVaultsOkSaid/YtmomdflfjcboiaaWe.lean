/- The model's l2Copy: a copy of a value. -/
import Derived.Test.YtmomdflfjcboiaaWb
import Derived.Test.YtmomdflfjcboiaaGk
import Derived.Test.YtmomdflfjcboiaaRow
import Derived.Deep.DeepCutAuto
import Derived.Deep.RegionHeld3
namespace Go.Proofs.Ytmomdflfjcboiaa
open Go.RowKit

def CpD (c : Cod Val) (v : Val) (w : World) (e : Ending) (w' : World) : Prop :=
  ∃ A' cA' B' cB', e = .returned (.agg #[.string v.ty, .int .i64 v.n, .slice A' v.parts.length cA', .slice B' v.path.length cB']) ∧ MadeV c w w' (.slice A' v.parts.length cA') (.slice B' v.path.length cB') v
def CpC (c : Cod Val) (P : Val → Prop) : Prop := ∀ (F : Nat → Prop) (A B : Option Addr) (n m cA cB : Nat) (v : Val) (w : World), VRd c F w (.slice A n cA) (.slice B m cB) v → (∀ b, F b → b < w.heap.size) → Smol P v →
    Calls Try.prog 82 #[.agg #[.string v.ty, .int .i64 v.n, .slice A n cA, .slice B m cB]] w (CpD c v w)

/-- What is known while the parts of a copy are made. -/
structure CV (c : Cod Val) (w : World) (M q : Nat) (A B : Option Addr) (cA cB : Nat) (vv : Val) (v pv : Value) (xs : List Val) (wr : World) : Prop where
  below : Below w.heap.size w wr
  box : Blk wr w.heap.size 57 #[.string vv.ty, .int .i64 vv.n, .slice A vv.parts.length cA, .slice B vv.path.length cB]
  res : Blk wr (w.heap.size + 1) 57 #[.string ⟨#[]⟩, .int .i64 0, .slice none 0 0, .slice none 0 0]
  var : Blk wr q 57 #[.string vv.ty, .int .i64 vv.n, v, pv]
  own : OwnRow c 57 M M wr v xs
  path : Cod.i64.Sl (fun b => w.heap.size + 1 < b ∧ b < M ∧ b ≠ q) wr pv vv.path
  lo : w.heap.size + 1 < q
  hi : q < M
  top : M ≤ wr.heap.size

theorem OwnRow.nil5 {α : Type} {c : Cod α} {e : TypeId} {base cb : Nat} {w : World} : OwnRow c e base cb w (.slice none 0 0) ([] : List α) :=
  ⟨[], World.ownsRow_nil _ _ _ _, fun _ h => by simp at h, fun _ _ h => by simp at h⟩
theorem OwnRow.own_lt5 {α : Type} {c : Cod α} {e : TypeId} {base cb : Nat} {w : World} {v : Value} {xs : List α} (h : OwnRow c e base cb w v xs) : ∀ b, v.ownBlock = some b → base ≤ b ∧ b < w.heap.size := by
  obtain ⟨us, h, _⟩ := h
  exact h.lt
theorem OwnRow.form5 {α : Type} {c : Cod α} {e : TypeId} {base cb : Nat} {w : World} {v : Value} {xs : List α} (h : OwnRow c e base cb w v xs) : ∃ A cap, v = .slice A xs.length cap := by
  obtain ⟨us, h, _⟩ := h
  rcases h.2 with ⟨rfl, h0⟩ | ⟨g, cap, cur, rfl, _⟩
  · exact ⟨none, 0, by rw [h0]⟩
  · exact ⟨_, cap, rfl⟩
theorem four_one5 {a : ByteArray} {n : Int} {A B : Option Addr} {l c l' c' : Nat} : ∀ u ∈ ([.string a, .int .i64 n, .slice A l c, .slice B l' c'] : List Value), u.oneCell' = true := fun u hu => by
  simp only [List.mem_cons, List.not_mem_nil, or_false] at hu
  rcases hu with rfl | rfl | rfl | rfl <;> rfl
section
variable {c : Cod Val} {w : World} {M q : Nat} {A B : Option Addr} {cA cB : Nat} {vv : Val} {v pv : Value} {xs : List Val}
theorem CV.go {wr w' : World} (h : CV c w M q A B cA cB vv v pv xs wr) (hb : Below wr.heap.size wr w') : CV c w M q A B cA cB vv v pv xs w' :=
  ⟨h.below.trans (hb.mono h.below.size), h.box.below hb h.box.lt, h.res.below hb h.res.lt, h.var.below hb h.var.lt, h.own.below (Nat.le_refl _) hb, h.path.keep fun b hb' => hb.block b (by have := h.top; omega), h.lo, h.hi, Nat.le_trans h.top hb.size⟩
theorem CV.put {wa w4 : World} {v4 : Value} {xs4 : List Val} (h : CV c w M q A B cA cB vv v pv xs wa) (hgr : wa.grownBy w4 v.ownBlock) (ho : OwnRow c 57 M M w4 v4 xs4) : CV c w M q A B cA cB vv v4 pv xs4 (w4.setCell ⟨q, 2, none⟩ v4) := by
  have hlo := h.lo
  have hhi := h.hi
  have htop := h.top
  have hne : ∀ b, b < M → some b ≠ v.ownBlock := fun b hb he => by have := (h.own.own_lt5 b he.symm).1; omega
  have hkp : ∀ b, b < M → b ≠ q → (w4.setCell ⟨q, 2, none⟩ v4).heap[b]? = wa.heap[b]? := fun b hb hq => (Below.heap_setCell _ _ _ _ hq).trans (hgr.block b (by omega) (hne b hb))
  have hB4 : Below w.heap.size w w4 := ⟨hgr.os.trans h.below.os, hgr.tape.trans h.below.tape, hgr.output.trans h.below.output, Nat.le_trans h.below.size hgr.size, fun i hi => (hgr.block i (by omega) (hne i (by omega))).trans (h.below.block i hi)⟩
  have hv : Blk w4 q 57 #[.string vv.ty, .int .i64 vv.n, v, pv] := (hgr.block q (by omega) (hne q hhi)).trans h.var
  exact ⟨hB4.setCell (by simp; omega) _, (hkp _ (by omega) (by omega)).trans h.box, (hkp _ (by omega) (by omega)).trans h.res, hv.set_ 2 _, ho.keep (Nat.le_refl _) (by simp [World.setCell]) fun i h1 _ => Below.heap_setCell _ _ _ _ (by simp; omega),
    h.path.keep fun b hb => hkp b hb.2.1 hb.2.2, hlo, hhi, by have := hgr.size; simp [World.setCell]; omega⟩
end
theorem size_le_alloc (w : World) (o : Obj) : w.heap.size ≤ (w.alloc o).heap.size := by simp
theorem cell_set4 {W : World} {g q : Nat} (h : g ≠ q) (a b c d : Value) (i : Nat) : ((((W.setCell ⟨q, 0, none⟩ a).setCell ⟨q, 1, none⟩ b).setCell ⟨q, 2, none⟩ c).setCell ⟨q, 3, none⟩ d).cell? ⟨g, i, none⟩ = W.cell? ⟨g, i, none⟩ :=
  World.cell?_of_block (a := ⟨g, i, none⟩) (by rw [Below.heap_setCell _ _ _ _ h, Below.heap_setCell _ _ _ _ h, Below.heap_setCell _ _ _ _ h, Below.heap_setCell _ _ _ _ h])

set_option maxRecDepth 100000 in
set_option maxHeartbeats 4000000 in
theorem l2Copy_of {c e : Cod Val} (hc : IsVal c e) {P Q : Val → Prop} (IH : HasEl c → CpC e Q ∧ ∀ x, P x → Smol Q x) : CpC c P := by
  intro F A B n m cA cB v w h hF hsm
  obtain ⟨hsm1, hsm2, hsm3⟩ := hsm
  have HSm := Lib.hid hsm3
  obtain ⟨An, cn, hvn, hvl, hvm, -⟩ := h.parts
  obtain ⟨rfl, rfl, rfl⟩ : A = An ∧ n = v.parts.length ∧ cA = cn := by simpa using hvn
  obtain ⟨Bn, dn, hpn, hpl, hpm, -⟩ := h.path
  obtain ⟨rfl, rfl, rfl⟩ : B = Bn ∧ m = v.path.length ∧ cB = dn := by simpa using hpn
  obtain ⟨w0, hw0⟩ : ∃ w0, w0 = (w.alloc (.cells #[.string v.ty, .int .i64 v.n, .slice A v.parts.length cA, .slice B v.path.length cB] 57)).alloc (.cells #[.string ⟨#[]⟩, .int .i64 0, .slice none 0 0, .slice none 0 0] 57) := ⟨_, rfl⟩
  have hb0 : Below w.heap.size w w0 := by rw [hw0]; exact ((Below.refl _ _).alloc (Nat.le_refl _) _).alloc (by simp) _
  have hs0 : w0.heap.size = w.heap.size + 2 := by rw [hw0]; simp
  have hP0 : Blk w0 w.heap.size 57 #[.string v.ty, .int .i64 v.n, .slice A v.parts.length cA, .slice B v.path.length cB] := by rw [hw0]; exact (Blk.new _ _ _).alloc _
  have hR0 : Blk w0 (w.heap.size + 1) 57 #[.string ⟨#[]⟩, .int .i64 0, .slice none 0 0, .slice none 0 0] := by
    rw [hw0]; have := Blk.new (w.alloc (.cells #[.string v.ty, .int .i64 v.n, .slice A v.parts.length cA, .slice B v.path.length cB] 57)) 57 #[.string ⟨#[]⟩, .int .i64 0, .slice none 0 0, .slice none 0 0]; simpa using this
  obtain ⟨x0, x1, x2, x3⟩ := hP0.c2
  have ht := h.ty
  unfold maxLen at hvm hpm ht
  have happ := fun (W : World) (hW : Below w0.heap.size w0 W) (g : Nat) => append_clone (P := Try.prog) flat_i64 31 31 3 _ 1 8 Try.underlying31 info_int rfl (by omega) F _ v.path W (h.path.keep fun b hb => (hW.block b (by have := hF b hb; omega)).trans (hb0.block b (hF b hb))) hsm2 g
  obtain ⟨wA1, hwA1⟩ : ∃ wA, wA = (w0.alloc (.cells #[] 3)).drew := ⟨_, rfl⟩
  have hbA1 : Below w0.heap.size w0 wA1 := by rw [hwA1]; exact ((Below.refl _ _).alloc (Nat.le_refl _) _).drew
  have hsA1 : wA1.heap.size = w0.heap.size + 1 := by rw [hwA1]; simp
  obtain ⟨B1, d1, wB1, happ1, hM1⟩ := happ wA1 hbA1 w0.heap.size
  have hbB1 : Below w0.heap.size w0 wB1 := hbA1.trans (hM1.2.mono (by omega))
  obtain ⟨q10, q11, q12, q13⟩ := (hP0.below hbB1 (by omega)).c2
  have hz1 := hM1.2.size
  have hv1 : w.heap.size < wB1.heap.size := by omega
  have HM1 := Lib.hid hM1
  have HbB1 := Lib.hid hbB1
  have HsA1 := Lib.hid hsA1
  rw [hwA1] at happ1
  obtain ⟨wA2, hwA2⟩ : ∃ wA, wA = ((w0.alloc (.cells #[] 3)).alloc (.cells #[.string ⟨#[]⟩, .int .i64 0, .slice none 0 0, .slice none 0 0] 57)).drew := ⟨_, rfl⟩
  have hbA2 : Below w0.heap.size w0 wA2 := by rw [hwA2]; exact (((Below.refl _ _).alloc (Nat.le_refl _) _).alloc (by simp) _).drew
  have hsA2 : wA2.heap.size = w0.heap.size + 2 := by rw [hwA2]; simp
  obtain ⟨B2, d2, wB2, happ2, hM2⟩ := happ wA2 hbA2 w0.heap.size
  have hbB2 : Below w0.heap.size w0 wB2 := hbA2.trans (hM2.2.mono (by omega))
  have hO2 : Blk wB2 (w0.heap.size + 1) 57 #[.string ⟨#[]⟩, .int .i64 0, .slice none 0 0, .slice none 0 0] := Blk.below (w := wA2) (by
    rw [hwA2]
    have := Blk.new (w0.alloc (.cells #[] 3)) 57 #[.string ⟨#[]⟩, .int .i64 0, .slice none 0 0, .slice none 0 0]; simp only [World.size_alloc] at this; exact this) hM2.2 (by omega)
  obtain ⟨o20, o21, o22, o23⟩ := hO2.c2
  obtain ⟨p20, p21, p22, p23⟩ := hO2.f4
  have HO2 := Lib.hid hO2
  obtain ⟨q20, q21, q22, q23⟩ := (hP0.below hbB2 (by omega)).c2
  have hz2 := hM2.2.size
  have hv2 : w.heap.size < wB2.heap.size := by omega
  have HM2 := Lib.hid hM2
  have HbB2 := Lib.hid hbB2
  have HsA2 := Lib.hid hsA2
  rw [hwA2] at happ2
  obtain ⟨wA3, hwA3⟩ : ∃ wA, wA = ((w0.alloc (.cells #[.string ⟨#[]⟩, .int .i64 0, .slice none 0 0, .slice none 0 0] 57)).alloc (.cells #[] 3)).drew := ⟨_, rfl⟩
  have hbA3 : Below w0.heap.size w0 wA3 := by rw [hwA3]; exact (((Below.refl _ _).alloc (Nat.le_refl _) _).alloc (by simp) _).drew
  have hsA3 : wA3.heap.size = w0.heap.size + 2 := by rw [hwA3]; simp
  obtain ⟨B3, d3, wB3, happ3, hM3⟩ := happ wA3 hbA3 (w0.heap.size + 1)
  have hbB3 : Below w0.heap.size w0 wB3 := hbA3.trans (hM3.2.mono (by omega))
  have hO3 : Blk wB3 (w0.heap.size) 57 #[.string ⟨#[]⟩, .int .i64 0, .slice none 0 0, .slice none 0 0] := Blk.below (w := wA3) (by
    rw [hwA3]
    exact (Blk.new w0 57 #[.string ⟨#[]⟩, .int .i64 0, .slice none 0 0, .slice none 0 0]).alloc _) hM3.2 (by omega)
  obtain ⟨o30, o31, o32, o33⟩ := hO3.c2
  obtain ⟨p30, p31, p32, p33⟩ := hO3.f4
  have HO3 := Lib.hid hO3
  obtain ⟨q30, q31, q32, q33⟩ := (hP0.below hbB3 (by omega)).c2
  have hz3 := hM3.2.size
  have hv3 : w.heap.size < wB3.heap.size := by omega
  have HM3 := Lib.hid hM3
  have HbB3 := Lib.hid hbB3
  have HsA3 := Lib.hid hsA3
  rw [hwA3] at happ3
  have HS := Lib.hid (fun (W : World) (hb : Below w0.heap.size w0 W) => show W.cell? ⟨w.heap.size, 0, none⟩ = some (.string v.ty) ∧ W.cell? ⟨w.heap.size, 1, none⟩ = some (.int .i64 v.n) ∧ W.cell? ⟨w.heap.size, 3, none⟩ = some (.slice B v.path.length cB) by
    obtain ⟨g0, g1, g2, g3⟩ := (hP0.below hb (by omega)).c2
    exact ⟨g0, g1, g3⟩)
  have hw01 : w0.heap.size ≤ wB1.heap.size := by omega
  have hl0 : w.heap.size < w0.heap.size := by omega
  have hn1 : w.heap.size ≠ w0.heap.size + 1 := by omega
  have hn0 : w.heap.size ≠ w0.heap.size := by omega
  have hl1 : w.heap.size + 1 < w0.heap.size := by omega
  obtain ⟨W1, hW1⟩ : ∃ W, W = wB1.alloc (.cells #[.string v.ty, .int .i64 v.n, .slice none 0 0, .slice B1 v.path.length d1] 57) := ⟨_, rfl⟩
  have hsW1 : W1.heap.size = wB1.heap.size + 1 := by rw [hW1]; simp [World.setCell]
  have hkW1 : ∀ b, b < wB1.heap.size → b ≠ wB1.heap.size → W1.heap[b]? = wB1.heap[b]? := fun b h1 h2 => by
    rw [hW1]
    exact Below.heap_alloc _ _ _ h1
  have HW1 := Lib.hid hW1
  have HCV1 := Lib.hid (show CV c w W1.heap.size (wB1.heap.size) A B cA cB v (.slice none 0 0) (.slice B1 v.path.length d1) [] W1 from
    ⟨by rw [hW1]; exact (hb0.trans (hbB1.mono (by omega))).alloc (by omega) _, (hkW1 _ (by omega) (by omega)).trans (hP0.below hbB1 (by omega)), (hkW1 _ (by omega) (by omega)).trans (hR0.below hbB1 (by omega)), by rw [hW1]; exact Blk.new _ _ _, OwnRow.nil5,
      (hM1.1.sl.keep (w' := W1) fun b hb => hkW1 b hb.2 (by have := hb.1; have := hb.2; omega)).mono (fun b hb => by have := hb.1; have := hb.2; exact ⟨by omega, by omega, by omega⟩), by omega, by omega, Nat.le_refl _⟩)
  obtain ⟨W2, hW2⟩ : ∃ W, W = (((wB2.setCell ⟨w0.heap.size + 1, 0, none⟩ (.string v.ty)).setCell ⟨w0.heap.size + 1, 1, none⟩ (.int .i64 v.n)).setCell ⟨w0.heap.size + 1, 2, none⟩ (.slice none 0 0)).setCell ⟨w0.heap.size + 1, 3, none⟩ (.slice B2 v.path.length d2) := ⟨_, rfl⟩
  have hsW2 : W2.heap.size = wB2.heap.size := by rw [hW2]; simp [World.setCell]
  have hkW2 : ∀ b, b < wB2.heap.size → b ≠ w0.heap.size + 1 → W2.heap[b]? = wB2.heap[b]? := fun b h1 h2 => by
    rw [hW2]
    rw [Below.heap_setCell _ _ _ _ h2, Below.heap_setCell _ _ _ _ h2, Below.heap_setCell _ _ _ _ h2, Below.heap_setCell _ _ _ _ h2]
  have HW2 := Lib.hid hW2
  have HCV2 := Lib.hid (show CV c w W2.heap.size (w0.heap.size + 1) A B cA cB v (.slice none 0 0) (.slice B2 v.path.length d2) [] W2 from
    ⟨by rw [hW2]; exact ((((hb0.trans (hbB2.mono (by omega))).setCell (by simp; omega) _).setCell (by simp; omega) _).setCell (by simp; omega) _).setCell (by simp; omega) _, (hkW2 _ (by omega) (by omega)).trans (hP0.below hbB2 (by omega)), (hkW2 _ (by omega) (by omega)).trans (hR0.below hbB2 (by omega)), by rw [hW2]; exact (((hO2.set_ 0 _).set_ 1 _).set_ 2 _).set_ 3 _, OwnRow.nil5,
      (hM2.1.sl.keep (w' := W2) fun b hb => hkW2 b hb.2 (by have := hb.1; have := hb.2; omega)).mono (fun b hb => by have := hb.1; have := hb.2; exact ⟨by omega, by omega, by omega⟩), by omega, by omega, Nat.le_refl _⟩)
  obtain ⟨W3, hW3⟩ : ∃ W, W = (((wB3.setCell ⟨w0.heap.size, 0, none⟩ (.string v.ty)).setCell ⟨w0.heap.size, 1, none⟩ (.int .i64 v.n)).setCell ⟨w0.heap.size, 2, none⟩ (.slice none 0 0)).setCell ⟨w0.heap.size, 3, none⟩ (.slice B3 v.path.length d3) := ⟨_, rfl⟩
  have hsW3 : W3.heap.size = wB3.heap.size := by rw [hW3]; simp [World.setCell]
  have hkW3 : ∀ b, b < wB3.heap.size → b ≠ w0.heap.size → W3.heap[b]? = wB3.heap[b]? := fun b h1 h2 => by
    rw [hW3]
    rw [Below.heap_setCell _ _ _ _ h2, Below.heap_setCell _ _ _ _ h2, Below.heap_setCell _ _ _ _ h2, Below.heap_setCell _ _ _ _ h2]
  have HW3 := Lib.hid hW3
  have HCV3 := Lib.hid (show CV c w W3.heap.size (w0.heap.size) A B cA cB v (.slice none 0 0) (.slice B3 v.path.length d3) [] W3 from
    ⟨by rw [hW3]; exact ((((hb0.trans (hbB3.mono (by omega))).setCell (by simp; omega) _).setCell (by simp; omega) _).setCell (by simp; omega) _).setCell (by simp; omega) _, (hkW3 _ (by omega) (by omega)).trans (hP0.below hbB3 (by omega)), (hkW3 _ (by omega) (by omega)).trans (hR0.below hbB3 (by omega)), by rw [hW3]; exact (((hO3.set_ 0 _).set_ 1 _).set_ 2 _).set_ 3 _, OwnRow.nil5,
      (hM3.1.sl.keep (w' := W3) fun b hb => hkW3 b hb.2 (by have := hb.1; have := hb.2; omega)).mono (fun b hb => by have := hb.1; have := hb.2; exact ⟨by omega, by omega, by omega⟩), by omega, by omega, Nat.le_refl _⟩)
  have Hw0 := Lib.hid hw0
  have HE := Lib.hid hb0
  have HP0 := Lib.hid hP0
  have HR0 := Lib.hid hR0
  have Hs0 := Lib.hid hs0
  have HV := Lib.hid h
  have HF := Lib.hid hF
  clear h hF hw0 hb0 hs0 hP0 hR0 hvn hpn happ hsm3 hwA1 hbA1 hsA1 hM1 hbB1 hwA2 hbA2 hsA2 hM2 hbB2 hO2 hwA3 hbA3 hsA3 hM3 hbB3 hO3 hW1 hsW1 hkW1 hW2 hsW2 hkW2 hW3 hsW3 hkW3
  go_enter Try.func82, Try.ntmps82
  go_upto_region 1 with fail
  rw [← Hw0.out]
  go_cut [3] (fun s3 wx => ∃ (q : Nat) (B1 : Option Addr) (d1 : Nat), s3 = .pointer (some ⟨q, 0, none⟩) ∧ Hid (CV c w wx.heap.size q A B cA cB v (.slice none 0 0) (.slice B1 v.path.length d1) [] wx))
  case first =>
    go_region_held3 (fun w' => w'.cell? ⟨w.heap.size, 0, none⟩ = some (.string v.ty) ∧ w'.cell? ⟨w.heap.size, 1, none⟩ = some (.int .i64 v.n) ∧ w'.cell? ⟨w.heap.size, 3, none⟩ = some (.slice B v.path.length cB)) (first | (with_reducible exact HS.out _ ((Below.refl _ _).drew)) | (with_reducible exact HS.out _ (((Below.refl _ _).alloc (Nat.le_refl _) _).drew)) | (with_reducible exact HS.out _ ((((Below.refl _ _).alloc (Nat.le_refl _) _).alloc (size_le_alloc _ _) _).drew)) | (with_reducible exact HS.out _ (Below.refl _ _)) | (with_reducible exact HS.out _ ((Below.refl _ _).alloc (Nat.le_refl _) _)) | (with_reducible exact HS.out _ (((Below.refl _ _).alloc (Nat.le_refl _) _).alloc (size_le_alloc _ _) _)) | (with_reducible exact ⟨q10, q11, q13⟩) | (with_reducible exact ⟨q20, q21, q23⟩) | (with_reducible exact ⟨q30, q31, q33⟩) | (with_reducible exact HS.out _ (HbB1.out.alloc hw01 _)) | (with_reducible exact ⟨(cell_set4 hn1 _ _ _ _ _).trans q20, (cell_set4 hn1 _ _ _ _ _).trans q21, (cell_set4 hn1 _ _ _ _ _).trans q23⟩) | (with_reducible exact ⟨(cell_set4 hn0 _ _ _ _ _).trans q30, (cell_set4 hn0 _ _ _ _ _).trans q31, (cell_set4 hn0 _ _ _ _ _).trans q33⟩)) (first | (with_reducible refine step_append_at (.tmp 9) (.tmp 11) happ1 (by kernel_rfl) (by kernel_rfl) (by kernel_rfl) (by kernel_rfl) (by kernel_rfl) ?_) | (with_reducible refine step_append_at (.tmp 9) (.tmp 11) happ2 (by kernel_rfl) (by kernel_rfl) (by kernel_rfl) (by kernel_rfl) (by kernel_rfl) ?_) | (with_reducible refine step_append_at (.tmp 9) (.tmp 11) happ3 (by kernel_rfl) (by kernel_rfl) (by kernel_rfl) (by kernel_rfl) (by kernel_rfl) ?_))
    all_goals go_wp2
    all_goals go_meet
    · rw [← HW1.out]
      exact ⟨_, _, _, rfl, HCV1⟩
    · rw [← HW2.out]
      exact ⟨_, _, _, rfl, HCV2⟩
    · rw [← HW3.out]
      exact ⟨_, _, _, rfl, HCV3⟩
  case rest =>
    obtain ⟨q, B1, d1, rfl, HC⟩ := hcut
    clear x0 x1 x2 x3 q10 q11 q12 q13 q20 q21 q22 q23 q30 q31 q32 q33 o20 o21 o22 o23 o30 o31 o32 o33 p20 p21 p22 p23 p30 p31 p32 p33 HCV1 HCV2 HCV3 HM1 HM2 HM3 HbB1 HbB2 HbB3 HsA1 HsA2 HsA3 HW1 HW2 HW3 HO2 HO3 happ1 happ2 happ3 hv1 hv2 hv3 hz1 hz2 hz3 HS hw01 hn1 hn0 HP0 HR0 HE Hw0
    have HEl := Lib.hid (fun hp : 0 < v.parts.length => (show HasEl c from ⟨F, w, _, v.parts, HV.out.parts, hp⟩))
    have HC0 : Hid (CV c w wc.heap.size q A B cA cB v (.slice none 0 0) (.slice B1 v.path.length d1) (v.parts.take 0) wc) := HC
    have hcs := hc.size
    go_wp2
    go_loopw [4] (fun i wr => ∃ (k : Nat) (vv : Value), k ≤ v.parts.length ∧ i = .int .i64 k ∧ Hid (CV c w wc.heap.size q A B cA cB v vv (.slice B1 v.path.length d1) (v.parts.take k) wr)) (fun i _ => v.parts.length - (intOf i).toNat)
    case atStart => exact ⟨0, _, Nat.zero_le _, rfl, HC0⟩
    case round =>
      obtain ⟨k, vv, hk, rfl, HD⟩ := hrel
      obtain ⟨Av, cv, rfl⟩ := HD.out.own.form5
      obtain ⟨z0, z1, z2, z3⟩ := HD.out.box.c2
      have hlo := HD.out.lo
      have hhi := HD.out.hi
      have htop := HD.out.top
      by_cases hlt : k < v.parts.length
      · have hIH := IH (HEl.out (by omega))
        obtain ⟨b, off, cap', A2, cA2, B2, cB2, hv, hFb, _, _, hc0, hc1, hc2, hc3, hV⟩ := (HV.out.parts.keep (below_keeps HD.out.below HF.out)).val_at hc hlt
        obtain ⟨rfl, rfl⟩ : A = some ⟨b, off, none⟩ ∧ cA = cap' := by simpa using hv
        have hbl : b < wr.heap.size := Nat.lt_of_lt_of_le (HF.out b hFb) HD.out.below.size
        have HIH := Lib.hid (hIH.1 F A2 B2 _ _ cA2 cB2 v.parts[k] wr.drew hV.drew (fun b hb => Nat.lt_of_lt_of_le (HF.out b hb) HD.out.below.size) (hIH.2 _ (HSm.out _ (List.getElem_mem hlt))))
        have hlen : (v.parts.take k).length = k := by simp; omega
        have hgt : v.parts.take k ++ [v.parts[k]] = v.parts.take (k + 1) := (List.take_succ_eq_append_getElem hlt).symm
        have HLay := Lib.hid (fun (F' : Nat → Prop) (w' : World) (a p : Value) (hh : VRd e F' w' a p v.parts[k]) => hc.lay (HEl.out (by omega)) hh)
        have HGt := Lib.hid hgt
        rw [hlen] at HD
        obtain ⟨y0, y1, y2, y3⟩ := HD.out.var.c2
        obtain ⟨t0, t1, t2, t3⟩ := HD.out.var.f4
        have hqr := HD.out.var.lt
        have j0 : (0 : Int) ≤ k := by omega
        have j1 : (k : Int) < v.parts.length := by omega
        clear hv hV hIH hgt
        generalize v.parts[k] = x at *
        go_wp2_with fail
        go_region_law (first
          | (refine step_append_run rfl _ _ _ rfl rfl rfl happ ?_)
          | (go_simp; go_at_call 82; (with_reducible refine HIH.out.mono ?_); rintro e wa ⟨A1, cA1, B1', cB1, rfl, hMV⟩; go_must (
              have HDa := Lib.hid (HD.out.go ((below_draw wr).trans (show Below wr.heap.size wr.drew wa from hMV.2)));
              have ca := HDa.out.var.c2.2.2.1;
              have hxa := HDa.out.var.lt;
              have hown := HD.out.own.own_lt5;
              have hta := HDa.out.top;
              obtain ⟨g4, cap4, w4, happ, hO4, hg4, hge4, _⟩ := OwnRow.push (P := Try.prog) (c := c) 55 55 _ 72 Try.underlying55 (by rw [hcs]; exact info_val) (by rw [hcs]; rfl) (by rw [hcs]; decide) (by omega) HDa.out.own (by rw [hlen]; omega) (Nat.le_refl _) hta 1 [.string x.ty, .int .i64 x.n, .slice A1 x.parts.length cA1, .slice B1' x.path.length cB1] x four_one5 (HLay.out _ _ _ _ (hMV.1.mono (fun b hb => ⟨(by have := hb.1; have e : wr.drew.heap.size = wr.heap.size := rfl; omega), hb.2, fun hc => by have := (hown b hc).2; have h2 := hb.1; have e : wr.drew.heap.size = wr.heap.size := rfl; omega⟩)));
              rw [hlen, HGt.out] at hO4;
              rw [hlen] at happ;
              have HDp := Lib.hid (HDa.out.put hg4 hO4);
              have hB4 : Blk w4 q 57 #[.string v.ty, .int .i64 v.n, .slice Av k cv, .slice B1 v.path.length d1] := (hg4.block _ hxa (fun he => by have := (hown _ he.symm).1; omega)).trans HDa.out.var;
              have c4 := hB4.c2.2.2.1;
              have f4 := hB4.frozen 2;
              clear hO4 hg4 hB4 hown)))
        all_goals
          go_wp2
          go_roundw
          case rel => exact ⟨k + 1, _, by omega, by go_num, HDp⟩
          case measure => first | (simp [intOf]; done) | (simp [intOf]; omega)
      · obtain rfl : k = v.parts.length := by omega
        have hlen : (v.parts.take v.parts.length).length = v.parts.length := by simp
        have htk : v.parts.take v.parts.length = v.parts := List.take_length
        rw [hlen, htk] at HD
        obtain ⟨y0, y1, y2, y3⟩ := HD.out.var.c2
        obtain ⟨r0, r1, r2, r3⟩ := HD.out.res.c2
        obtain ⟨s0, s1, s2, s3⟩ := HD.out.res.f4
        obtain ⟨wE, hwE⟩ : ∃ wE, wE = (((wr.setCell ⟨w.heap.size + 1, 0, none⟩ (.string v.ty)).setCell ⟨w.heap.size + 1, 1, none⟩ (.int .i64 v.n)).setCell ⟨w.heap.size + 1, 2, none⟩ (.slice Av v.parts.length cv)).setCell ⟨w.heap.size + 1, 3, none⟩ (.slice B1 v.path.length d1) := ⟨_, rfl⟩
        have HRE := Lib.hid (show Blk wE (w.heap.size + 1) 57 #[.string v.ty, .int .i64 v.n, .slice Av v.parts.length cv, .slice B1 v.path.length d1] by rw [hwE]; exact (((HD.out.res.set_ 0 _).set_ 1 _).set_ 2 _).set_ 3 _)
        have hsE : wE.heap.size = wr.heap.size := by rw [hwE]; simp [World.setCell]
        have hkE : ∀ b, b ≠ w.heap.size + 1 → wE.heap[b]? = wr.heap[b]? := fun b h1 => by rw [hwE, Below.heap_setCell _ _ _ _ h1, Below.heap_setCell _ _ _ _ h1, Below.heap_setCell _ _ _ _ h1, Below.heap_setCell _ _ _ _ h1]
        have hbe := HD.out.below
        have HQ := Lib.hid (show CpD c v w (.returned (.agg #[.string v.ty, .int .i64 v.n, .slice Av v.parts.length cv, .slice B1 v.path.length d1])) wE from
          ⟨Av, cv, B1, d1, rfl, ⟨HV.out.ty, HV.out.n, ((HD.out.own.sl (Nat.le_refl _)).keep (w' := wE) fun b hb => hkE b (by omega)).mono fun b hb => ⟨by omega, by omega⟩,
            (HD.out.path.keep (w' := wE) fun b hb => hkE b (by omega)).mono fun b hb => ⟨by omega, by omega⟩⟩, by rw [hwE]; exact (((hbe.setCell (by simp) _).setCell (by simp) _).setCell (by simp) _).setCell (by simp) _⟩)
        have HwE := Lib.hid hwE
        have i0 : ¬ (v.parts.length : Int) < v.parts.length := by omega
        clear hwE hkE hsE hbe
        go_wp2
        rw [← HwE.out]
        obtain ⟨e0, e1, e2, e3⟩ := HRE.out.c2
        exact bodyPost_ret (v := .agg #[.string v.ty, .int .i64 v.n, .slice Av v.parts.length cv, .slice B1 v.path.length d1]) (by simp [results, Try.results82, go_sem, e0, e1, e2, e3]) rfl HQ.out

theorem l2Copy_any : ∀ d, CpC (Cod.val d) (SmolD d)
  | 0 => l2Copy_of (e := Cod.no) (Q := fun _ => True) (IsVal.zero _) fun h => absurd h no_el
  | d + 1 => l2Copy_of (IsVal.of _) fun _ => ⟨l2Copy_any d, fun _ h => h⟩
end Go.Proofs.Ytmomdflfjcboiaa
