/- Vaults in memory: their sizes, copies and comparing. -/
import Derived.Test.YthkdkefkgmmoiaaWa
import Derived.Test.YthkdkefkgmmoiaaGe
namespace Go.Proofs.Ythkdkefkgmmoiaa
open Go.RowKit

/-- A record that is kept. -/
structure KepR where
  o : Int
  v : Val
def Cod.kept (c : Cod Val) : Cod KepR where
  size := 5
  rd F w cs x := ∃ a p, cs = [.int .i64 x.o, .string x.v.ty, .int .i64 x.v.n, a, p] ∧ I64 x.o ∧ VRd c F w a p x.v
  len h := by obtain ⟨a, p, rfl, _⟩ := h; rfl
  keep hk h := by obtain ⟨a, p, hc, h0, h⟩ := h; exact ⟨a, p, hc, h0, h.keep hk⟩
  mono hg h := by obtain ⟨a, p, hc, h0, h⟩ := h; exact ⟨a, p, hc, h0, h.mono hg⟩
def OCod.kept (c : OCod Val) (tv ti : TypeId) : OCod KepR where
  cod := Cod.kept c.cod
  rd lo hi w cs x := ∃ a p, cs = [.int .i64 x.o, .string x.v.ty, .int .i64 x.v.n, a, p] ∧ I64 x.o ∧ OV c tv ti lo hi w a p x.v
  get h := by obtain ⟨a, p, hc, h0, h⟩ := h; exact ⟨a, p, hc, h0, h.rd⟩
  keep hk h := by obtain ⟨a, p, hc, h0, h⟩ := h; exact ⟨a, p, hc, h0, h.keep hk⟩
  mono h1 h2 h := by obtain ⟨a, p, hc, h0, h⟩ := h; exact ⟨a, p, hc, h0, h.mono h1 h2⟩
theorem Cod.Sl.kept_at {c : Cod Val} {F : Nat → Prop} {w : World} {v : Value} {xs : List KepR} (h : (Cod.kept c).Sl F w v xs) {k : Nat} (hk : k < xs.length) :
    ∃ b off cap A cA B cB, v = .slice (some ⟨b, off, none⟩) xs.length cap ∧ F b ∧ xs.length ≤ cap ∧ cap ≤ maxLen ∧
    w.cell? ⟨b, off + k * 5, none⟩ = some (.int .i64 xs[k].o) ∧ w.cell? ⟨b, off + k * 5 + 1, none⟩ = some (.string xs[k].v.ty) ∧ w.cell? ⟨b, off + k * 5 + 2, none⟩ = some (.int .i64 xs[k].v.n) ∧
    w.cell? ⟨b, off + k * 5 + 3, none⟩ = some (.slice A xs[k].v.parts.length cA) ∧ w.cell? ⟨b, off + k * 5 + 4, none⟩ = some (.slice B xs[k].v.path.length cB) ∧ I64 xs[k].o ∧
    VRd c F w (.slice A xs[k].v.parts.length cA) (.slice B xs[k].v.path.length cB) xs[k].v := by
  obtain ⟨b, off, cap, cs, hv, hF, h1, h2, hcell, a, p, rfl, h0, hV⟩ := h.get hk
  obtain ⟨A, cA, rfl, _⟩ := hV.parts
  obtain ⟨B, cB, rfl, _⟩ := hV.path
  exact ⟨b, off, cap, A, cA, B, cB, hv, hF, h1, h2, by simpa [Cod.kept] using hcell 0 _ rfl, by simpa [Cod.kept] using hcell 1 _ rfl, by simpa [Cod.kept] using hcell 2 _ rfl, by simpa [Cod.kept] using hcell 3 _ rfl, by simpa [Cod.kept] using hcell 4 _ rfl, h0, hV⟩
theorem Blk.c5 {a b c x y : Value} {w : World} {g : Nat} {t : TypeId} (h : Blk w g t #[a, b, c, x, y]) : w.cell? ⟨g, 0, none⟩ = some a ∧ w.cell? ⟨g, 1, none⟩ = some b ∧ w.cell? ⟨g, 2, none⟩ = some c ∧ w.cell? ⟨g, 3, none⟩ = some x ∧ w.cell? ⟨g, 4, none⟩ = some y :=
  ⟨h.cell 0, h.cell 1, h.cell 2, h.cell 3, h.cell 4⟩
theorem Blk.f5 {w : World} {g : Nat} {t : TypeId} {cs : Array Value} (h : Blk w g t cs) : w.frozen? ⟨g, 0, none⟩ = false ∧ w.frozen? ⟨g, 1, none⟩ = false ∧ w.frozen? ⟨g, 2, none⟩ = false ∧ w.frozen? ⟨g, 3, none⟩ = false ∧ w.frozen? ⟨g, 4, none⟩ = false :=
  ⟨h.frozen 0, h.frozen 1, h.frozen 2, h.frozen 3, h.frozen 4⟩

def szKep (d : Nat) (x : KepR) (l : Int) : Int := szOf (szVal d) x.v l
theorem szKep_le (d : Nat) (x : KepR) (l : Int) (h : 0 ≤ l) : szKep d x l ≤ l := szOf_le (szVal_le d) x.v l h
theorem szKep_neg {d : Nat} {x : KepR} {l : Int} (h : szKep d x l < 0) : szKep d x l = -1 := by
  unfold szKep szOf szI at h ⊢
  split
  · rfl
  · split
    · rfl
    · split
      · rfl
      · rename_i h1 h2 h3
        rw [if_neg h1, if_neg h2, if_neg h3] at h
        omega
def SmolKep (d : Nat) (x : KepR) : Prop := Smol (SmolD d) x.v
theorem smol_kep {d : Nat} {x : KepR} {l : Int} (h0 : 0 ≤ l) (h1 : l ≤ 2000000) (h : 0 ≤ szKep d x l) : SmolKep d x := sz_val h0 h1 h

set_option maxRecDepth 100000 in
set_option maxHeartbeats 1000000 in
theorem szKept_one (d : Nat) (F : Nat → Prop) (A B : Option Addr) (n m cA cB : Nat) (x : KepR) (left : Int) (w : World) (h : VRd (Cod.val d) F w (.slice A n cA) (.slice B m cB) x.v) (hF : ∀ b, F b → b < w.heap.size) (h0 : 0 ≤ left) (h1 : left ≤ 2000000) :
    Calls Try.prog 47 #[.agg #[.int .i64 x.o, .string x.v.ty, .int .i64 x.v.n, .slice A n cA, .slice B m cB], .int .i64 left] w fun e w' => e = .returned (.int .i64 (szKep d x left)) ∧ Below w.heap.size w w' := by
  obtain ⟨w0, hw0⟩ : ∃ w0, w0 = w.alloc (.cells #[.int .i64 x.o, .string x.v.ty, .int .i64 x.v.n, .slice A n cA, .slice B m cB] 87) := ⟨_, rfl⟩
  have HW0 := Lib.hid (show Below w.heap.size w w0 by rw [hw0]; exact (Below.refl _ _).alloc (Nat.le_refl _) _)
  have hs0 : w0.heap.size = w.heap.size + 1 := by rw [hw0]; simp
  have HC := Lib.hid (szValue_any d F A B n m cA cB x.v left w0 (h.keep (w' := w0) fun b hb => HW0.out.block b (hF b hb)) (fun b hb => by have := hF b hb; omega) h0 h1)
  have Hw0 := Lib.hid hw0
  have Hs0 := Lib.hid hs0
  have Hneg := Lib.hid (szKep_neg (d := d) (x := x) (l := left))
  clear h hF hw0 hs0
  go_enter Try.func47, Try.ntmps47
  go_wp2_with fail
  rw [← Hw0.out]
  refine HC.out.mono ?_
  rintro e w1 ⟨rfl, hb⟩
  have HE := Lib.hid (HW0.out.trans (hb.mono (by have := Hs0.out; omega)))
  clear hb
  obtain ⟨z, hz⟩ : ∃ z, z = szOf (szVal d) x.v left := ⟨_, rfl⟩
  have HZ := Lib.hid (show szKep d x left = z by rw [hz]; rfl)
  rw [← hz]
  clear hz
  by_cases hn : z < 0
  · have HR := Lib.hid (Hneg.out (by rw [HZ.out]; exact hn))
    go_wp2
    go_ret
    exact ⟨ret_int HR.out.symm, HE.out⟩
  · go_wp2
    go_ret
    exact ⟨ret_int HZ.out.symm, HE.out⟩

set_option maxRecDepth 100000 in
set_option maxHeartbeats 1000000 in
theorem sz_kept (d : Nat) : SzRow (Cod.kept (Cod.val d)) 24 (szS (szKep d)) := by
  intro F v xs left w h hF h0 h1
  have HS := Lib.hid h
  obtain ⟨A, cap, rfl, hlc, hcm, _⟩ := h
  unfold maxLen at hcm
  by_cases ht : left - xs.length < 0
  · go_enter Try.func24, Try.ntmps24
    go_wp2
    go_ret
    exact ⟨ret_int (szS_neg _ _ _ ht).symm, Below.refl _ _⟩
  · have HF := Lib.hid (szS_go (szKep d) xs left ht)
    go_enter Try.func24, Try.ntmps24
    go_wp2
    go_loopw [1, 5] (fun l i wr => ∃ (k : Nat) (n : Int), k ≤ xs.length ∧ i = .int .i64 k ∧ l = .int .i64 n ∧ 0 ≤ n ∧ n ≤ 2000000 ∧ Hid (szList (szKep d) (xs.drop k) n = szS (szKep d) xs left) ∧ Below w.heap.size w wr) (fun _ i _ => xs.length - (intOf i).toNat)
    case atStart => exact ⟨0, _, Nat.zero_le _, rfl, rfl, by omega, by omega, HF.out, Below.refl _ _⟩
    case round =>
      obtain ⟨k, n, hk, rfl, rfl, hn0, hn1, HH, hb⟩ := hrel
      by_cases hlt : k < xs.length
      · have HSr := Lib.hid (HS.out.keep (below_keeps hb hF))
        obtain ⟨b, off, cap', A1, c1, B1, e1, hv, hFb, _, _, hc0, hc1, hc2, hc3, hc4, -, hV⟩ := HSr.out.kept_at hlt
        obtain ⟨rfl, rfl⟩ : A = some ⟨b, off, none⟩ ∧ cap = cap' := by simpa using hv
        have hle := szKep_le d xs[k] n hn0
        have hsz := hb.size
        have HC := Lib.hid (szKept_one d F _ _ _ _ _ _ xs[k] n wr hV (fun b hb' => Nat.lt_of_lt_of_le (hF b hb') hsz) hn0 hn1)
        clear hv hV
        by_cases hneg : szKep d xs[k] n < 0
        · go_wp2_with (go_at_call 47; refine HC.out.mono ?_; rintro e w' ⟨rfl, hb1⟩)
          go_ret
          exact ⟨ret_int (szList_stop hlt HH.out hneg), hb.trans (hb1.mono hsz)⟩
        · go_wp2_with (go_at_call 47; refine HC.out.mono ?_; rintro e w' ⟨rfl, hb1⟩)
          go_roundw
          case rel => exact ⟨k + 1, _, by omega, by go_num, rfl, by omega, by omega, szList_step hlt HH.out (by omega), hb.trans (hb1.mono hsz)⟩
          case measure => simp [intOf]; omega
      · go_wp2
        go_ret
        exact ⟨ret_int (szList_end (by omega) HH.out), hb⟩

theorem info_kept : (Try.prog.info? 97).map (fun i => (i.zero, i.size, i.bytes)) = some (some (.agg #[.int .i64 0, .string ⟨#[]⟩, .int .i64 0, .slice none 0 0, .slice none 0 0]), 5, 80) := by kernel_rfl
def ToKeptD (d : Nat) (x : KepR) (w : World) (e : Ending) (w' : World) : Prop := ∃ A' cA' B' cB', e = .returned (.agg #[.int .i64 x.o, .string x.v.ty, .int .i64 x.v.n, .slice A' x.v.parts.length cA', .slice B' x.v.path.length cB']) ∧
  OV (OCod.val 95 3 d) 95 3 w.heap.size w'.heap.size w' (.slice A' x.v.parts.length cA') (.slice B' x.v.path.length cB') x.v ∧ Below w.heap.size w w'

set_option maxRecDepth 100000 in
set_option maxHeartbeats 2000000 in
theorem toKept_one (d : Nat) (F : Nat → Prop) (A B : Option Addr) (n m cA cB : Nat) (x : KepR) (w : World) (h : VRd (Cod.val d) F w (.slice A n cA) (.slice B m cB) x.v) (hF : ∀ b, F b → b < w.heap.size) (hsm : SmolKep d x) :
    Calls Try.prog 53 #[.agg #[.int .i64 x.o, .string x.v.ty, .int .i64 x.v.n, .slice A n cA, .slice B m cB]] w (ToKeptD d x w) := by
  obtain ⟨w0, hw0⟩ : ∃ w0, w0 = ((w.alloc (.cells #[.int .i64 x.o, .string x.v.ty, .int .i64 x.v.n, .slice A n cA, .slice B m cB] 87)).alloc (.cells #[.int .i64 0, .string ⟨#[]⟩, .int .i64 0, .slice none 0 0, .slice none 0 0] 97)).alloc (.cells #[.int .i64 x.o, .string ⟨#[]⟩, .int .i64 0, .slice none 0 0, .slice none 0 0] 97) := ⟨_, rfl⟩
  have hs0 : w0.heap.size = w.heap.size + 3 := by rw [hw0]; simp
  have HR0 := Lib.hid (show Blk w0 (w.heap.size + 1) 97 #[.int .i64 0, .string ⟨#[]⟩, .int .i64 0, .slice none 0 0, .slice none 0 0] by rw [hw0]; have := (Blk.new (w.alloc (.cells #[.int .i64 x.o, .string x.v.ty, .int .i64 x.v.n, .slice A n cA, .slice B m cB] 87)) 97 #[.int .i64 0, .string ⟨#[]⟩, .int .i64 0, .slice none 0 0, .slice none 0 0]).alloc (.cells #[.int .i64 x.o, .string ⟨#[]⟩, .int .i64 0, .slice none 0 0, .slice none 0 0] 97); simpa using this)
  have HO0 := Lib.hid (show Blk w0 (w.heap.size + 1 + 1) 97 #[.int .i64 x.o, .string ⟨#[]⟩, .int .i64 0, .slice none 0 0, .slice none 0 0] by rw [hw0]; have := Blk.new ((w.alloc (.cells #[.int .i64 x.o, .string x.v.ty, .int .i64 x.v.n, .slice A n cA, .slice B m cB] 87)).alloc (.cells #[.int .i64 0, .string ⟨#[]⟩, .int .i64 0, .slice none 0 0, .slice none 0 0] 97)) 97 #[.int .i64 x.o, .string ⟨#[]⟩, .int .i64 0, .slice none 0 0, .slice none 0 0]; simpa using this)
  have HW0 := Lib.hid (show Below w.heap.size w w0 by rw [hw0]; exact (((Below.refl _ _).alloc (Nat.le_refl _) _).alloc (by simp) _).alloc (by simp; omega) _)
  have HC0 := Lib.hid (toValue_own d F A B n m cA cB x.v w0 (by rw [OCod.val_cod]; exact h.keep (w' := w0) fun b hb => HW0.out.block b (hF b hb)) (fun b hb => by have := hF b hb; omega) hsm)
  have Hw0 := Lib.hid hw0
  have Hs0 := Lib.hid hs0
  clear h hF hw0 hs0 hsm
  go_enter Try.func53, Try.ntmps53
  go_wp2_with fail
  rw [← Hw0.out]
  refine HC0.out.mono ?_
  rintro e w1 ⟨A', cA', B', cB', rfl, hO, hb⟩
  have hz0 := Hs0.out
  have hs1 := hb.size
  have hR := HR0.out.below hb (by omega)
  have hO1 := HO0.out.below hb (by omega)
  obtain ⟨x0, x1, x2, x3, x4⟩ := hR.c5
  obtain ⟨y0, y1, y2, y3, y4⟩ := hR.f5
  obtain ⟨z0, z1, z2, z3, z4⟩ := hO1.c5
  obtain ⟨t0, t1, t2, t3, t4⟩ := hO1.f5
  obtain ⟨wE, hwE⟩ : ∃ wE, wE = ((((((((w1.setCell ⟨w.heap.size + 1 + 1, 1, none⟩ (.string x.v.ty)).setCell ⟨w.heap.size + 1 + 1, 2, none⟩ (.int .i64 x.v.n)).setCell ⟨w.heap.size + 1 + 1, 3, none⟩ (.slice A' x.v.parts.length cA')).setCell ⟨w.heap.size + 1 + 1, 4, none⟩ (.slice B' x.v.path.length cB')).setCell ⟨w.heap.size + 1, 0, none⟩ (.int .i64 x.o)).setCell ⟨w.heap.size + 1, 1, none⟩ (.string x.v.ty)).setCell ⟨w.heap.size + 1, 2, none⟩ (.int .i64 x.v.n)).setCell ⟨w.heap.size + 1, 3, none⟩ (.slice A' x.v.parts.length cA')).setCell ⟨w.heap.size + 1, 4, none⟩ (.slice B' x.v.path.length cB') := ⟨_, rfl⟩
  have hf : ∀ (g : Nat) (cs : Array Value) (t : TypeId) (W : World) (i : Nat) (u : Value), Blk W (w.heap.size + 1) t cs → Blk (W.setCell ⟨w.heap.size + 1 + 1, i, none⟩ u) (w.heap.size + 1) t cs := fun _ cs t W i u hB => hB.far (p := ⟨w.heap.size + 1 + 1, i, none⟩) (by simp) u
  have HRE := Lib.hid (show Blk wE (w.heap.size + 1) 97 #[.int .i64 x.o, .string x.v.ty, .int .i64 x.v.n, .slice A' x.v.parts.length cA', .slice B' x.v.path.length cB'] by rw [hwE]; exact (((((hf 0 _ _ _ _ _ (hf 0 _ _ _ _ _ (hf 0 _ _ _ _ _ (hf 0 _ _ _ _ _ hR)))).set_ 0 (.int .i64 x.o)).set_ 1 (.string x.v.ty)).set_ 2 (.int .i64 x.v.n)).set_ 3 (.slice A' x.v.parts.length cA')).set_ 4 (.slice B' x.v.path.length cB'))
  have hkE : ∀ b, b ≠ w.heap.size + 1 → b ≠ w.heap.size + 1 + 1 → wE.heap[b]? = w1.heap[b]? := fun b h1 h2 => by rw [hwE, Below.heap_setCell _ _ _ _ h1, Below.heap_setCell _ _ _ _ h1, Below.heap_setCell _ _ _ _ h1, Below.heap_setCell _ _ _ _ h1, Below.heap_setCell _ _ _ _ h1, Below.heap_setCell _ _ _ _ h2, Below.heap_setCell _ _ _ _ h2, Below.heap_setCell _ _ _ _ h2, Below.heap_setCell _ _ _ _ h2]
  have hsE : wE.heap.size = w1.heap.size := by rw [hwE]; simp [World.setCell]
  have HWE := Lib.hid (show Below w.heap.size w wE by
    rw [hwE]
    refine ((((((((Below.setCell ?_ (by simp; omega) _).setCell (by simp; omega) _).setCell (by simp; omega) _).setCell (by simp; omega) _).setCell (by simp) _).setCell (by simp) _).setCell (by simp) _).setCell (by simp) _).setCell (by simp) _
    exact HW0.out.trans (hb.mono HW0.out.size))
  have HX := Lib.hid (hO.keep (w' := wE) fun b g1 g2 => hkE b (by omega) (by omega))
  have HQ := Lib.hid (show ToKeptD d x w (.returned (.agg #[.int .i64 x.o, .string x.v.ty, .int .i64 x.v.n, .slice A' x.v.parts.length cA', .slice B' x.v.path.length cB'])) wE from ⟨A', cA', B', cB', rfl, HX.out.mono (by omega) (by omega), HWE.out⟩)
  have HwE := Lib.hid hwE
  clear hO hb hwE hkE hsE hR hO1 HC0 hf
  go_wp2
  rw [← HwE.out]
  obtain ⟨r0, r1, r2, r3, r4⟩ := HRE.out.c5
  exact bodyPost_ret (v := .agg #[.int .i64 x.o, .string x.v.ty, .int .i64 x.v.n, .slice A' x.v.parts.length cA', .slice B' x.v.path.length cB']) (by simp [results, Try.results53, go_sem, r0, r1, r2, r3, r4]) rfl HQ.out

def OKept (d : Nat) : OCod KepR := OCod.kept (OCod.val 95 3 d) 95 3
theorem okept_cod (d : Nat) : (OKept d).cod = Cod.kept (Cod.val d) := by show Cod.kept (OCod.val _ _ d).cod = _; rw [OCod.val_cod]

set_option maxRecDepth 100000 in
set_option maxHeartbeats 2000000 in
theorem to_kept (d : Nat) : ToRow (OKept d) 97 27 (SmolKep d) := by
  intro F v xs w h hF hn hm
  rw [okept_cod] at h
  have HS : Hid ((Cod.kept (Cod.val d)).Sl F w v xs) := Lib.hid h
  have Hm := Lib.hid hm
  clear hm
  obtain ⟨A, cap, rfl, hlc, hcm, _⟩ := h
  unfold maxLen at hcm
  have hmk := make_len (P := Try.prog) 57 97 _ 5 80 Try.underlying57 info_kept (by omega) xs.length hn
  go_enter Try.func27, Try.ntmps27
  go_wp2
  go_loopw [4] (fun i wr => ∃ (k : Nat) (cs : Array Value), k ≤ xs.length ∧ i = .int .i64 k ∧ Blk wr w.heap.size 97 cs ∧ cs.size = xs.length * 5 ∧ OPart (OKept d) w.heap.size wr cs k xs ∧ Below w.heap.size w wr) (fun i _ => xs.length - (intOf i).toNat)
  case atStart => exact ⟨0, _, Nat.zero_le _, rfl, Blk.new _ _ _, by simp [madeCells], OPart.zero (by simp), (Below.refl _ _).alloc (Nat.le_refl _) _⟩
  case round =>
    obtain ⟨k, cs, hk, rfl, HB, hsz, HP, hb⟩ := hrel
    have HBl := HB.lt
    by_cases hlt : k < xs.length
    · have HSr := Lib.hid (HS.out.keep (below_keeps hb hF))
      obtain ⟨b, off, cap', A1, c1, B1, e1, hv, hFb, _, _, hc0, hc1, hc2, hc3, hc4, h64, hV⟩ := HSr.out.kept_at hlt
      obtain ⟨rfl, rfl⟩ : A = some ⟨b, off, none⟩ ∧ cap = cap' := by simpa using hv
      have HB' := Lib.hid HB
      have HP' := Lib.hid HP
      have Hsz := Lib.hid hsz
      have hws := hb.size
      have HC := Lib.hid (toKept_one d F _ _ _ _ _ _ xs[k] wr hV (fun b hb' => Nat.lt_of_lt_of_le (hF b hb') hws) (Hm.out xs[k] (List.getElem_mem hlt)))
      have H64 := Lib.hid h64
      clear hv HB HP hsz hmk hV h64
      go_wp2_with fail
      refine HC.out.mono ?_
      rintro e w1 ⟨A', cA', B', cB', rfl, hO, hbl⟩
      have HB1 := HB'.out.below hbl HBl
      obtain ⟨d0, hd0⟩ := HB1.holds Hsz.out (i := k * 5) (by omega)
      obtain ⟨d1, hd1⟩ := HB1.holds Hsz.out (i := k * 5 + 1) (by omega)
      obtain ⟨d2, hd2⟩ := HB1.holds Hsz.out (i := k * 5 + 2) (by omega)
      obtain ⟨d3, hd3⟩ := HB1.holds Hsz.out (i := k * 5 + 3) (by omega)
      obtain ⟨d4, hd4⟩ := HB1.holds Hsz.out (i := k * 5 + 4) (by omega)
      have hf0 := HB1.frozen (k * 5)
      have hf1 := HB1.frozen (k * 5 + 1)
      have hf2 := HB1.frozen (k * 5 + 2)
      have hf3 := HB1.frozen (k * 5 + 3)
      have hf4 := HB1.frozen (k * 5 + 4)
      have HBB := Lib.hid HB1
      have hw1 := hbl.size
      have HO := Lib.hid hO
      have HBe := Lib.hid hbl
      clear HB1 hO hbl HC
      go_wp2
      go_roundw
      case rel =>
        obtain ⟨wE, hwE⟩ : ∃ wE, wE = ((((w1.setCell ⟨w.heap.size, k * 5, none⟩ (.int .i64 xs[k].o)).setCell ⟨w.heap.size, k * 5 + 1, none⟩ (.string xs[k].v.ty)).setCell ⟨w.heap.size, k * 5 + 2, none⟩ (.int .i64 xs[k].v.n)).setCell ⟨w.heap.size, k * 5 + 3, none⟩ (.slice A' xs[k].v.parts.length cA')).setCell ⟨w.heap.size, k * 5 + 4, none⟩ (.slice B' xs[k].v.path.length cB') := ⟨_, rfl⟩
        rw [← hwE]
        have hk1 : ∀ b, w.heap.size < b → wE.heap[b]? = w1.heap[b]? := fun b hb' => by
          rw [hwE, Below.heap_setCell _ _ _ _ (by simp; omega), Below.heap_setCell _ _ _ _ (by simp; omega), Below.heap_setCell _ _ _ _ (by simp; omega), Below.heap_setCell _ _ _ _ (by simp; omega), Below.heap_setCell _ _ _ _ (by simp; omega)]
        have hse : wE.heap.size = w1.heap.size := by rw [hwE]; simp [World.setCell]
        refine ⟨k + 1, _, by omega, by go_num, by rw [hwE]; exact ((((HBB.out.set_ _ _).set_ _ _).set_ _ _).set_ _ _).set_ _ _, by simp only [Array.size_setIfInBounds]; exact Hsz.out, ?_, ?_⟩
        · refine HP'.out.next (news := [.int .i64 xs[k].o, .string xs[k].v.ty, .int .i64 xs[k].v.n, .slice A' xs[k].v.parts.length cA', .slice B' xs[k].v.path.length cB']) hlt (fun i h1 h2 => (hk1 i h1).trans (HBe.out.block i h2)) (by rw [hse]; exact hw1)
            (fun i hi => by
              have hi' : i < k * 5 := hi
              simp only [Array.getElem?_setIfInBounds]
              rw [if_neg (by omega), if_neg (by omega), if_neg (by omega), if_neg (by omega), if_neg (by omega)]) (fun j u hu => ?_)
            ⟨_, _, rfl, H64.out, (HO.out.keep (w' := wE) fun b g1 g2 => hk1 b (by omega)).mono (Nat.le_refl _) (by omega)⟩
          show _[k * 5 + j]? = _
          have hsz2 := Hsz.out
          match j, hu with
          | 0, hu => simp at hu; subst hu; simp [Array.getElem?_setIfInBounds]; omega
          | 1, hu => simp at hu; subst hu; simp [Array.getElem?_setIfInBounds]; omega
          | 2, hu => simp at hu; subst hu; simp [Array.getElem?_setIfInBounds]; omega
          | 3, hu => simp at hu; subst hu; simp [Array.getElem?_setIfInBounds]; omega
          | 4, hu => simp at hu; subst hu; simp [Array.getElem?_setIfInBounds]; omega
          | j + 5, hu => simp at hu
        · rw [hwE]; exact (((((hb.trans (HBe.out.mono hws)).setCell (by simp) _).setCell (by simp) _).setCell (by simp) _).setCell (by simp) _).setCell (by simp) _
      case measure => simp [intOf]; omega
    · obtain rfl : k = xs.length := by omega
      have HM : MadeO (OKept d) 97 w wr (.slice (some ⟨w.heap.size, 0, none⟩) xs.length xs.length) xs := ⟨HP.own HB (Nat.le_refl _) (Nat.le_refl _) (by unfold maxLen; omega), hb⟩
      clear hmk HB HP
      go_wp2
      go_ret
      exact ⟨_, _, rfl, HM⟩

set_option maxRecDepth 100000 in
set_option maxHeartbeats 1000000 in
theorem eqKept_one (d : Nat) (F : Nat → Prop) (A B A' B' : Option Addr) (n m cA cB n' m' cA' cB' : Nat) (x : KepR) (w : World) (h : VRd (Cod.val d) F w (.slice A n cA) (.slice B m cB) x.v) (h' : VRd (Cod.val d) F w (.slice A' n' cA') (.slice B' m' cB') x.v) (hF : ∀ b, F b → b < w.heap.size) :
    Calls Try.prog 58 #[.agg #[.int .i64 x.o, .string x.v.ty, .int .i64 x.v.n, .slice A n cA, .slice B m cB], .agg #[.int .i64 x.o, .string x.v.ty, .int .i64 x.v.n, .slice A' n' cA', .slice B' m' cB']] w fun e w' => e = .returned (.bool true) ∧ Below w.heap.size w w' := by
  obtain ⟨w0, hw0⟩ : ∃ w0, w0 = (w.alloc (.cells #[.int .i64 x.o, .string x.v.ty, .int .i64 x.v.n, .slice A n cA, .slice B m cB] 97)).alloc (.cells #[.int .i64 x.o, .string x.v.ty, .int .i64 x.v.n, .slice A' n' cA', .slice B' m' cB'] 97) := ⟨_, rfl⟩
  have HA0 := Lib.hid (show Blk w0 w.heap.size 97 #[.int .i64 x.o, .string x.v.ty, .int .i64 x.v.n, .slice A n cA, .slice B m cB] by rw [hw0]; exact (Blk.new _ _ _).alloc _)
  have HB0 := Lib.hid (show Blk w0 (w.heap.size + 1) 97 #[.int .i64 x.o, .string x.v.ty, .int .i64 x.v.n, .slice A' n' cA', .slice B' m' cB'] by rw [hw0]; have := Blk.new (w.alloc (.cells #[.int .i64 x.o, .string x.v.ty, .int .i64 x.v.n, .slice A n cA, .slice B m cB] 97)) 97 #[.int .i64 x.o, .string x.v.ty, .int .i64 x.v.n, .slice A' n' cA', .slice B' m' cB']; simpa only [World.size_alloc] using this)
  have HW0 := Lib.hid (show Below w.heap.size w w0 by rw [hw0]; exact ((Below.refl _ _).alloc (Nat.le_refl _) _).alloc (by simp) _)
  have hs0 : w0.heap.size = w.heap.size + 2 := by rw [hw0]; simp
  have HC := Lib.hid (eqValue_any d F _ _ _ _ x.v w0 (h.keep (w' := w0) fun b hb => HW0.out.block b (hF b hb)) (h'.keep (w' := w0) fun b hb => HW0.out.block b (hF b hb)) (fun b hb => by have := hF b hb; omega))
  have Hw0 := Lib.hid hw0
  have Hs0 := Lib.hid hs0
  clear h h' hw0 hs0 hF
  go_enter Try.func58, Try.ntmps58
  obtain ⟨a0, a1, a2, a3, a4⟩ := HA0.out.c5
  obtain ⟨b0, b1, b2, b3, b4⟩ := HB0.out.c5
  rw [Hw0.out] at a0 a1 a2 a3 a4 b0 b1 b2 b3 b4
  go_wp2_with fail
  rw [← Hw0.out]
  refine HC.out.mono ?_
  rintro e w1 ⟨rfl, hb⟩
  have HE1 := Lib.hid hb
  clear hb
  go_wp2
  go_ret
  exact ⟨rfl, HW0.out.trans (HE1.out.mono (by have := Hs0.out; omega))⟩

set_option maxRecDepth 100000 in
set_option maxHeartbeats 1000000 in
theorem eq_kept (d : Nat) : EqRow (Cod.kept (Cod.val d)) 30 := by
  intro F v v' xs w h h' hF
  have HS := Lib.hid h
  have HS' := Lib.hid h'
  obtain ⟨A, cap, rfl, hlc, hcm, _⟩ := h
  obtain ⟨A', cap', rfl, hlc', hcm', _⟩ := h'
  unfold maxLen at hcm hcm'
  go_enter Try.func30, Try.ntmps30
  go_wp2
  go_loopw [5] (fun i wr => ∃ (k : Nat), k ≤ xs.length ∧ i = .int .i64 k ∧ Below w.heap.size w wr) (fun i _ => xs.length - (intOf i).toNat)
  case atStart => exact ⟨0, Nat.zero_le _, rfl, Below.refl _ _⟩
  case round =>
    obtain ⟨k, hk, rfl, hb⟩ := hrel
    by_cases hlt : k < xs.length
    · have HSr := Lib.hid (HS.out.keep (below_keeps hb hF))
      have HSr' := Lib.hid (HS'.out.keep (below_keeps hb hF))
      obtain ⟨b, off, c1, A2, cA, B2, cB, hv, _, _, _, hc0, hc1, hc2, hc3, hc4, -, hV⟩ := HSr.out.kept_at hlt
      obtain ⟨rfl, rfl⟩ : A = some ⟨b, off, none⟩ ∧ cap = c1 := by simpa using hv
      obtain ⟨b', off', c1', A2', cA', B2', cB', hv', _, _, _, hd0, hd1, hd2, hd3, hd4, -, hV'⟩ := HSr'.out.kept_at hlt
      obtain ⟨rfl, rfl⟩ : A' = some ⟨b', off', none⟩ ∧ cap' = c1' := by simpa using hv'
      have hsz := hb.size
      have HC := Lib.hid (eqKept_one d F _ _ _ _ _ _ _ _ _ _ _ _ xs[k] wr.drew hV.drew hV'.drew (fun b hb' => Nat.lt_of_lt_of_le (hF b hb') hsz))
      clear hv hv' hV hV'
      have i0 : (0 : Int) ≤ k := by omega
      have i1 : (k : Int) < xs.length := by omega
      go_wp2
      go_still_tail 8, (by kernel_rfl)
      change wpList _ _ _ _ _ wr.drew
      go_wp2_with fail
      refine HC.out.mono ?_
      rintro e' w1 ⟨rfl, hb1⟩
      go_wp2
      go_roundw
      case rel => exact ⟨k + 1, by omega, by go_num, hb.trans (Below.drew (Below.refl _ _) |>.trans (hb1.mono hsz))⟩
      case measure => simp [intOf]; omega
    · go_wp2
      go_ret
      exact ⟨rfl, hb⟩
end Go.Proofs.Ythkdkefkgmmoiaa
