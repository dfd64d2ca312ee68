/- Vaults in memory: their sizes, copies and comparing. -/
import Derived.Test.YtmomdflfjcboiaaWa
import Derived.Test.YtmomdflfjcboiaaGe
namespace Go.Proofs.Ytmomdflfjcboiaa
open Go.RowKit

/-- A record that is kept. -/
structure KepR where
  o : Int
  v : Val
def Cod.kept (c : Cod Val) : Cod KepR where
  size := 5
  rd F w cs x := ∃ a p, cs = [.int .i64 x.o, .string x.v.ty, .int .i64 x.v.n, a, p] ∧ I64 x.o ∧ VRd c F w a p x.v
  len h := by obtain ⟨a, p, rfl, _⟩ := h; rfl
  keep hk h := by obtain ⟨a, p, hc, h0, h⟩ := h; exact ⟨a, p, hc, h0, h.keep hk⟩
  mono hg h := by obtain ⟨a, p, hc, h0, h⟩ := h; exact ⟨a, p, hc, h0, h.mono hg⟩
def OCod.kept (c : OCod Val) (tv ti : TypeId) : OCod KepR where
  cod := Cod.kept c.cod
  rd lo hi w cs x := ∃ a p, cs = [.int .i64 x.o, .string x.v.ty, .int .i64 x.v.n, a, p] ∧ I64 x.o ∧ OV c tv ti lo hi w a p x.v
  get h := by obtain ⟨a, p, hc, h0, h⟩ := h; exact ⟨a, p, hc, h0, h.rd⟩
  keep hk h := by obtain ⟨a, p, hc, h0, h⟩ := h; exact ⟨a, p, hc, h0, h.keep hk⟩
  mono h1 h2 h := by obtain ⟨a, p, hc, h0, h⟩ := h; exact ⟨a, p, hc, h0, h.mono h1 h2⟩
theorem Cod.Sl.kept_at {c : Cod Val} {F : Nat → Prop} {w : World} {v : Value} {xs : List KepR} (h : (Cod.kept c).Sl F w v xs) {k : Nat} (hk : k < xs.length) :
    ∃ b off cap A cA B cB, v = .slice (some ⟨b, off, none⟩) xs.length cap ∧ F b ∧ xs.length ≤ cap ∧ cap ≤ maxLen ∧
    w.cell? ⟨b, off + k * 5, none⟩ = some (.int .i64 xs[k].o) ∧ w.cell? ⟨b, off + k * 5 + 1, none⟩ = some (.string xs[k].v.ty) ∧ w.cell? ⟨b, off + k * 5 + 2, none⟩ = some (.int .i64 xs[k].v.n) ∧
    w.cell? ⟨b, off + k * 5 + 3, none⟩ = some (.slice A xs[k].v.parts.length cA) ∧ w.cell? ⟨b, off + k * 5 + 4, none⟩ = some (.slice B xs[k].v.path.length cB) ∧ I64 xs[k].o ∧
    VRd c F w (.slice A xs[k].v.parts.length cA) (.slice B xs[k].v.path.length cB) xs[k].v := by
  obtain ⟨b, off, cap, cs, hv, hF, h1, h2, hcell, a, p, rfl, h0, hV⟩ := h.get hk
  obtain ⟨A, cA, rfl, _⟩ := hV.parts
  obtain ⟨B, cB, rfl, _⟩ := hV.path
  exact ⟨b, off, cap, A, cA, B, cB, hv, hF, h1, h2, by simpa [Cod.kept] using hcell 0 _ rfl, by simpa [Cod.kept] using hcell 1 _ rfl, by simpa [Cod.kept] using hcell 2 _ rfl, by simpa [Cod.kept] using hcell 3 _ rfl, by simpa [Cod.kept] using hcell 4 _ rfl, h0, hV⟩
theorem Blk.c5 {a b c x y : Value} {w : World} {g : Nat} {t : TypeId} (h : Blk w g t #[a, b, c, x, y]) : w.cell? ⟨g, 0, none⟩ = some a ∧ w.cell? ⟨g, 1, none⟩ = some b ∧ w.cell? ⟨g, 2, none⟩ = some c ∧ w.cell? ⟨g, 3, none⟩ = some x ∧ w.cell? ⟨g, 4, none⟩ = some y :=
  ⟨h.cell 0, h.cell 1, h.cell 2, h.cell 3, h.cell 4⟩
theorem Blk.f5 {w : World} {g : Nat} {t : TypeId} {cs : Array Value} (h : Blk w g t cs) : w.frozen? ⟨g, 0, none⟩ = false ∧ w.frozen? ⟨g, 1, none⟩ = false ∧ w.frozen? ⟨g, 2, none⟩ = false ∧ w.frozen? ⟨g, 3, none⟩ = false ∧ w.frozen? ⟨g, 4, none⟩ = false :=
  ⟨h.frozen 0, h.frozen 1, h.frozen 2, h.frozen 3, h.frozen 4⟩

def szKep (d : Nat) (x : KepR) (l : Int) : Int := szOf (szVal d) x.v l
theorem szKep_le (d : Nat) (x : KepR) (l : Int) (h : 0 ≤ l) : szKep d x l ≤ l := szOf_le (szVal_le d) x.v l h
theorem szKep_neg {d : Nat} {x : KepR} {l : Int} (h : szKep d x l < 0) : szKep d x l = -1 := by
  unfold szKep szOf szI at h ⊢
  split
  · rfl
  · split
    · rfl
    · split
      · rfl
      · rename_i h1 h2 h3
        rw [if_neg h1, if_neg h2, if_neg h3] at h
        omega
def SmolKep (d : Nat) (x : KepR) : Prop := Smol (SmolD d) x.v
theorem smol_kep {d : Nat} {x : KepR} {l : Int} (h0 : 0 ≤ l) (h1 : l ≤ 2000000) (h : 0 ≤ szKep d x l) : SmolKep d x := sz_val h0 h1 h

theorem info_kept : (Try.prog.info? 61).map (fun i => (i.zero, i.size, i.bytes)) = some (some (.agg #[.int .i64 0, .string ⟨#[]⟩, .int .i64 0, .slice none 0 0, .slice none 0 0]), 5, 80) := by kernel_rfl
def ToKeptD (d : Nat) (x : KepR) (w : World) (e : Ending) (w' : World) : Prop := ∃ A' cA' B' cB', e = .returned (.agg #[.int .i64 x.o, .string x.v.ty, .int .i64 x.v.n, .slice A' x.v.parts.length cA', .slice B' x.v.path.length cB']) ∧
  OV (OCod.val 57 3 d) 57 3 w.heap.size w'.heap.size w' (.slice A' x.v.parts.length cA') (.slice B' x.v.path.length cB') x.v ∧ Below w.heap.size w w'

def OKept (d : Nat) : OCod KepR := OCod.kept (OCod.val 57 3 d) 57 3
theorem okept_cod (d : Nat) : (OKept d).cod = Cod.kept (Cod.val d) := by show Cod.kept (OCod.val _ _ d).cod = _; rw [OCod.val_cod]

end Go.Proofs.Ytmomdflfjcboiaa
