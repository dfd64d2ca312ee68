/- How functions, modules and instructions lie in memory, read through some blocks or a call's own. -/
import Derived.Test.YthkdkefkgmmoiaaDoorMk
import Derived.Test.YthkdkefkgmmoiaaDoorVsz
namespace Go.Proofs.YthkdkefkgmmoiaaDoor
open Go.RowKit

theorem Blk.g3 {a0 a1 a2 : Value} {w : World} {g : Nat} {t : TypeId} (h : Blk w g t #[a0, a1, a2]) : w.cell? ⟨g, 0, none⟩ = some a0 ∧ w.cell? ⟨g, 1, none⟩ = some a1 ∧ w.cell? ⟨g, 2, none⟩ = some a2 := ⟨h.cell 0, h.cell 1, h.cell 2⟩
theorem Blk.h3 {w : World} {g : Nat} {t : TypeId} {cs : Array Value} (h : Blk w g t cs) : w.frozen? ⟨g, 0, none⟩ = false ∧ w.frozen? ⟨g, 1, none⟩ = false ∧ w.frozen? ⟨g, 2, none⟩ = false := ⟨h.frozen 0, h.frozen 1, h.frozen 2⟩
theorem Blk.g6 {a0 a1 a2 a3 a4 a5 : Value} {w : World} {g : Nat} {t : TypeId} (h : Blk w g t #[a0, a1, a2, a3, a4, a5]) : w.cell? ⟨g, 0, none⟩ = some a0 ∧ w.cell? ⟨g, 1, none⟩ = some a1 ∧ w.cell? ⟨g, 2, none⟩ = some a2 ∧ w.cell? ⟨g, 3, none⟩ = some a3 ∧ w.cell? ⟨g, 4, none⟩ = some a4 ∧ w.cell? ⟨g, 5, none⟩ = some a5 := ⟨h.cell 0, h.cell 1, h.cell 2, h.cell 3, h.cell 4, h.cell 5⟩
theorem Blk.h6 {w : World} {g : Nat} {t : TypeId} {cs : Array Value} (h : Blk w g t cs) : w.frozen? ⟨g, 0, none⟩ = false ∧ w.frozen? ⟨g, 1, none⟩ = false ∧ w.frozen? ⟨g, 2, none⟩ = false ∧ w.frozen? ⟨g, 3, none⟩ = false ∧ w.frozen? ⟨g, 4, none⟩ = false ∧ w.frozen? ⟨g, 5, none⟩ = false := ⟨h.frozen 0, h.frozen 1, h.frozen 2, h.frozen 3, h.frozen 4, h.frozen 5⟩

/-- An instruction. -/
structure InsR where
  op : ByteArray
  a : Int
  b : Int
structure InsRd (F : Nat → Prop) (w : World) (x : InsR) : Prop where
  op : x.op.size ≤ maxLen
  a : I64 x.a
  b : I64 x.b
theorem InsRd.keep {F : Nat → Prop} {w w' : World} {x : InsR} (hk : ∀ b, F b → w'.heap[b]? = w.heap[b]?) (h : InsRd F w  x) : InsRd F w'  x := ⟨h.op, h.a, h.b⟩
theorem InsRd.mono {F G : Nat → Prop} {w : World} {x : InsR} (hg : ∀ b, F b → G b) (h : InsRd F w  x) : InsRd G w  x := ⟨h.op, h.a, h.b⟩
def Cod.insr : Cod InsR where
  size := 3
  rd F w cs x := cs = [.string x.op, .int .i64 x.a, .int .i64 x.b] ∧ InsRd F w  x
  len h := by obtain ⟨rfl, _⟩ := h; rfl
  keep hk h := by obtain ⟨hc, h⟩ := h; exact ⟨hc, h.keep hk⟩
  mono hg h := by obtain ⟨hc, h⟩ := h; exact ⟨hc, h.mono hg⟩
theorem Cod.Sl.insr_at {F : Nat → Prop} {w : World} {v : Value} {xs : List InsR} (h : Cod.insr.Sl F w v xs) {k : Nat} (hk : k < xs.length) : ∃ b off cap, v = .slice (some ⟨b, off, none⟩) xs.length cap ∧ F b ∧ xs.length ≤ cap ∧ cap ≤ maxLen ∧
    w.cell? ⟨b, off + k * 3, none⟩ = some (.string xs[k].op) ∧
    w.cell? ⟨b, off + k * 3 + 1, none⟩ = some (.int .i64 xs[k].a) ∧
    w.cell? ⟨b, off + k * 3 + 2, none⟩ = some (.int .i64 xs[k].b) ∧
    InsRd F w  xs[k] := by
  obtain ⟨b, off, cap, cs, hv, hF, h1, h2, hcell, rfl, hV⟩ := h.get hk
  exact ⟨b, off, cap, hv, hF, h1, h2, by simpa [Cod.insr] using hcell 0 _ rfl, by simpa [Cod.insr] using hcell 1 _ rfl, by simpa [Cod.insr] using hcell 2 _ rfl, hV⟩
structure InsRo (lo hi : Nat) (w : World) (x : InsR) : Prop where
  op : x.op.size ≤ maxLen
  a : I64 x.a
  b : I64 x.b
theorem InsRo.keep {lo hi : Nat} {w w' : World} {x : InsR} (hk : ∀ b, lo ≤ b → b < hi → w'.heap[b]? = w.heap[b]?) (h : InsRo lo hi w  x) : InsRo lo hi w'  x := by
  obtain ⟨h0, h1, h2⟩ := h
  exact ⟨h0, h1, h2⟩
theorem InsRo.mono {lo hi lo' hi' : Nat} {w : World} {x : InsR} (g1 : lo' ≤ lo) (g2 : hi ≤ hi') (h : InsRo lo hi w  x) : InsRo lo' hi' w  x := by
  obtain ⟨h0, h1, h2⟩ := h
  exact ⟨h0, h1, h2⟩
theorem InsRo.rd {lo hi : Nat} {w : World} {x : InsR} (h : InsRo lo hi w  x) : InsRd (fun b => lo ≤ b ∧ b < hi) w  x := by
  obtain ⟨h0, h1, h2⟩ := h
  exact ⟨h0, h1, h2⟩
def OCod.insr : OCod InsR where
  cod := Cod.insr
  rd lo hi w cs x := cs = [.string x.op, .int .i64 x.a, .int .i64 x.b] ∧ InsRo lo hi w  x
  get h := by obtain ⟨hc, h⟩ := h; exact ⟨hc, h.rd⟩
  keep hk h := by obtain ⟨hc, h⟩ := h; exact ⟨hc, h.keep hk⟩
  mono h1 h2 h := by obtain ⟨hc, h⟩ := h; exact ⟨hc, h.mono h1 h2⟩

/-- A function. -/
structure FunR where
  seen : Int
  args : List ByteArray
  rets : List ByteArray
  locals : List ByteArray
  takes : List Int
  code : List InsR
structure FunRd (F : Nat → Prop) (w : World) (v1 v2 v3 v4 v5 : Value) (x : FunR) : Prop where
  seen : I64 x.seen
  args : Cod.str.Sl F w v1 x.args
  rets : Cod.str.Sl F w v2 x.rets
  locals : Cod.str.Sl F w v3 x.locals
  takes : Cod.i64.Sl F w v4 x.takes
  code : Cod.insr.Sl F w v5 x.code
theorem FunRd.keep {F : Nat → Prop} {w w' : World} {v1 v2 v3 v4 v5 : Value} {x : FunR} (hk : ∀ b, F b → w'.heap[b]? = w.heap[b]?) (h : FunRd F w v1 v2 v3 v4 v5 x) : FunRd F w' v1 v2 v3 v4 v5 x := ⟨h.seen, h.args.keep hk, h.rets.keep hk, h.locals.keep hk, h.takes.keep hk, h.code.keep hk⟩
theorem FunRd.mono {F G : Nat → Prop} {w : World} {v1 v2 v3 v4 v5 : Value} {x : FunR} (hg : ∀ b, F b → G b) (h : FunRd F w v1 v2 v3 v4 v5 x) : FunRd G w v1 v2 v3 v4 v5 x := ⟨h.seen, h.args.mono hg, h.rets.mono hg, h.locals.mono hg, h.takes.mono hg, h.code.mono hg⟩
def Cod.funr : Cod FunR where
  size := 6
  rd F w cs x := ∃ v1 v2 v3 v4 v5, cs = [.int .i64 x.seen, v1, v2, v3, v4, v5] ∧ FunRd F w v1 v2 v3 v4 v5 x
  len h := by obtain ⟨v1, v2, v3, v4, v5, rfl, _⟩ := h; rfl
  keep hk h := by obtain ⟨v1, v2, v3, v4, v5, hc, h⟩ := h; exact ⟨v1, v2, v3, v4, v5, hc, h.keep hk⟩
  mono hg h := by obtain ⟨v1, v2, v3, v4, v5, hc, h⟩ := h; exact ⟨v1, v2, v3, v4, v5, hc, h.mono hg⟩
theorem Cod.Sl.funr_at {F : Nat → Prop} {w : World} {v : Value} {xs : List FunR} (h : Cod.funr.Sl F w v xs) {k : Nat} (hk : k < xs.length) : ∃ b off cap A1 c1 A2 c2 A3 c3 A4 c4 A5 c5, v = .slice (some ⟨b, off, none⟩) xs.length cap ∧ F b ∧ xs.length ≤ cap ∧ cap ≤ maxLen ∧
    w.cell? ⟨b, off + k * 6, none⟩ = some (.int .i64 xs[k].seen) ∧
    w.cell? ⟨b, off + k * 6 + 1, none⟩ = some (.slice A1 xs[k].args.length c1) ∧
    w.cell? ⟨b, off + k * 6 + 2, none⟩ = some (.slice A2 xs[k].rets.length c2) ∧
    w.cell? ⟨b, off + k * 6 + 3, none⟩ = some (.slice A3 xs[k].locals.length c3) ∧
    w.cell? ⟨b, off + k * 6 + 4, none⟩ = some (.slice A4 xs[k].takes.length c4) ∧
    w.cell? ⟨b, off + k * 6 + 5, none⟩ = some (.slice A5 xs[k].code.length c5) ∧
    FunRd F w (.slice A1 xs[k].args.length c1) (.slice A2 xs[k].rets.length c2) (.slice A3 xs[k].locals.length c3) (.slice A4 xs[k].takes.length c4) (.slice A5 xs[k].code.length c5) xs[k] := by
  obtain ⟨b, off, cap, cs, hv, hF, h1, h2, hcell, v1, v2, v3, v4, v5, rfl, hV⟩ := h.get hk
  obtain ⟨A1, c1, rfl, _⟩ := hV.args
  obtain ⟨A2, c2, rfl, _⟩ := hV.rets
  obtain ⟨A3, c3, rfl, _⟩ := hV.locals
  obtain ⟨A4, c4, rfl, _⟩ := hV.takes
  obtain ⟨A5, c5, rfl, _⟩ := hV.code
  exact ⟨b, off, cap, A1, c1, A2, c2, A3, c3, A4, c4, A5, c5, hv, hF, h1, h2, by simpa [Cod.funr] using hcell 0 _ rfl, by simpa [Cod.funr] using hcell 1 _ rfl, by simpa [Cod.funr] using hcell 2 _ rfl, by simpa [Cod.funr] using hcell 3 _ rfl, by simpa [Cod.funr] using hcell 4 _ rfl, by simpa [Cod.funr] using hcell 5 _ rfl, hV⟩
structure FunRo (lo hi : Nat) (w : World) (v1 v2 v3 v4 v5 : Value) (x : FunR) : Prop where
  seen : I64 x.seen
  rows : ∃ m1 m2 m3 m4, lo ≤ m1 ∧ m1 ≤ m2 ∧ m2 ≤ m3 ∧ m3 ≤ m4 ∧ m4 ≤ hi ∧ Own OCod.str 9 lo m1 w v1 x.args ∧ Own OCod.str 9 m1 m2 w v2 x.rets ∧ Own OCod.str 9 m2 m3 w v3 x.locals ∧ Own OCod.i64 3 m3 m4 w v4 x.takes ∧ Own OCod.insr 102 m4 hi w v5 x.code
theorem FunRo.keep {lo hi : Nat} {w w' : World} {v1 v2 v3 v4 v5 : Value} {x : FunR} (hk : ∀ b, lo ≤ b → b < hi → w'.heap[b]? = w.heap[b]?) (h : FunRo lo hi w v1 v2 v3 v4 v5 x) : FunRo lo hi w' v1 v2 v3 v4 v5 x := by
  obtain ⟨h0, m1, m2, m3, m4, b0, b1, b2, b3, b4, o1, o2, o3, o4, o5⟩ := h
  exact ⟨h0, m1, m2, m3, m4, b0, b1, b2, b3, b4, o1.keep fun b g1 g2 => hk b (by omega) (by omega), o2.keep fun b g1 g2 => hk b (by omega) (by omega), o3.keep fun b g1 g2 => hk b (by omega) (by omega), o4.keep fun b g1 g2 => hk b (by omega) (by omega), o5.keep fun b g1 g2 => hk b (by omega) (by omega)⟩
theorem FunRo.mono {lo hi lo' hi' : Nat} {w : World} {v1 v2 v3 v4 v5 : Value} {x : FunR} (g1 : lo' ≤ lo) (g2 : hi ≤ hi') (h : FunRo lo hi w v1 v2 v3 v4 v5 x) : FunRo lo' hi' w v1 v2 v3 v4 v5 x := by
  obtain ⟨h0, m1, m2, m3, m4, b0, b1, b2, b3, b4, o1, o2, o3, o4, o5⟩ := h
  exact ⟨h0, m1, m2, m3, m4, by omega, by omega, by omega, by omega, by omega, o1.mono (by omega) (by omega), o2.mono (by omega) (by omega), o3.mono (by omega) (by omega), o4.mono (by omega) (by omega), o5.mono (by omega) (by omega)⟩
theorem FunRo.rd {lo hi : Nat} {w : World} {v1 v2 v3 v4 v5 : Value} {x : FunR} (h : FunRo lo hi w v1 v2 v3 v4 v5 x) : FunRd (fun b => lo ≤ b ∧ b < hi) w v1 v2 v3 v4 v5 x := by
  obtain ⟨h0, m1, m2, m3, m4, b0, b1, b2, b3, b4, o1, o2, o3, o4, o5⟩ := h
  exact ⟨h0, o1.sl.mono fun b hb => ⟨by omega, by omega⟩, o2.sl.mono fun b hb => ⟨by omega, by omega⟩, o3.sl.mono fun b hb => ⟨by omega, by omega⟩, o4.sl.mono fun b hb => ⟨by omega, by omega⟩, o5.sl.mono fun b hb => ⟨by omega, by omega⟩⟩
def OCod.funr : OCod FunR where
  cod := Cod.funr
  rd lo hi w cs x := ∃ v1 v2 v3 v4 v5, cs = [.int .i64 x.seen, v1, v2, v3, v4, v5] ∧ FunRo lo hi w v1 v2 v3 v4 v5 x
  get h := by obtain ⟨v1, v2, v3, v4, v5, hc, h⟩ := h; exact ⟨v1, v2, v3, v4, v5, hc, h.rd⟩
  keep hk h := by obtain ⟨v1, v2, v3, v4, v5, hc, h⟩ := h; exact ⟨v1, v2, v3, v4, v5, hc, h.keep hk⟩
  mono h1 h2 h := by obtain ⟨v1, v2, v3, v4, v5, hc, h⟩ := h; exact ⟨v1, v2, v3, v4, v5, hc, h.mono h1 h2⟩

/-- A module. -/
structure ModR where
  records : List Rec
  funcs : List FunR
  friends : List Int
structure ModRd (F : Nat → Prop) (w : World) (v0 v1 v2 : Value) (x : ModR) : Prop where
  records : Cod.rec_.Sl F w v0 x.records
  funcs : Cod.funr.Sl F w v1 x.funcs
  friends : Cod.i64.Sl F w v2 x.friends
theorem ModRd.keep {F : Nat → Prop} {w w' : World} {v0 v1 v2 : Value} {x : ModR} (hk : ∀ b, F b → w'.heap[b]? = w.heap[b]?) (h : ModRd F w v0 v1 v2 x) : ModRd F w' v0 v1 v2 x := ⟨h.records.keep hk, h.funcs.keep hk, h.friends.keep hk⟩
theorem ModRd.mono {F G : Nat → Prop} {w : World} {v0 v1 v2 : Value} {x : ModR} (hg : ∀ b, F b → G b) (h : ModRd F w v0 v1 v2 x) : ModRd G w v0 v1 v2 x := ⟨h.records.mono hg, h.funcs.mono hg, h.friends.mono hg⟩
def Cod.modr : Cod ModR where
  size := 3
  rd F w cs x := ∃ v0 v1 v2, cs = [v0, v1, v2] ∧ ModRd F w v0 v1 v2 x
  len h := by obtain ⟨v0, v1, v2, rfl, _⟩ := h; rfl
  keep hk h := by obtain ⟨v0, v1, v2, hc, h⟩ := h; exact ⟨v0, v1, v2, hc, h.keep hk⟩
  mono hg h := by obtain ⟨v0, v1, v2, hc, h⟩ := h; exact ⟨v0, v1, v2, hc, h.mono hg⟩
theorem Cod.Sl.modr_at {F : Nat → Prop} {w : World} {v : Value} {xs : List ModR} (h : Cod.modr.Sl F w v xs) {k : Nat} (hk : k < xs.length) : ∃ b off cap A0 c0 A1 c1 A2 c2, v = .slice (some ⟨b, off, none⟩) xs.length cap ∧ F b ∧ xs.length ≤ cap ∧ cap ≤ maxLen ∧
    w.cell? ⟨b, off + k * 3, none⟩ = some (.slice A0 xs[k].records.length c0) ∧
    w.cell? ⟨b, off + k * 3 + 1, none⟩ = some (.slice A1 xs[k].funcs.length c1) ∧
    w.cell? ⟨b, off + k * 3 + 2, none⟩ = some (.slice A2 xs[k].friends.length c2) ∧
    ModRd F w (.slice A0 xs[k].records.length c0) (.slice A1 xs[k].funcs.length c1) (.slice A2 xs[k].friends.length c2) xs[k] := by
  obtain ⟨b, off, cap, cs, hv, hF, h1, h2, hcell, v0, v1, v2, rfl, hV⟩ := h.get hk
  obtain ⟨A0, c0, rfl, _⟩ := hV.records
  obtain ⟨A1, c1, rfl, _⟩ := hV.funcs
  obtain ⟨A2, c2, rfl, _⟩ := hV.friends
  exact ⟨b, off, cap, A0, c0, A1, c1, A2, c2, hv, hF, h1, h2, by simpa [Cod.modr] using hcell 0 _ rfl, by simpa [Cod.modr] using hcell 1 _ rfl, by simpa [Cod.modr] using hcell 2 _ rfl, hV⟩
structure ModRo (lo hi : Nat) (w : World) (v0 v1 v2 : Value) (x : ModR) : Prop where
  rows : ∃ m1 m2, lo ≤ m1 ∧ m1 ≤ m2 ∧ m2 ≤ hi ∧ Own (OCod.rec_ 9) 51 lo m1 w v0 x.records ∧ Own OCod.funr 62 m1 m2 w v1 x.funcs ∧ Own OCod.i64 3 m2 hi w v2 x.friends
theorem ModRo.keep {lo hi : Nat} {w w' : World} {v0 v1 v2 : Value} {x : ModR} (hk : ∀ b, lo ≤ b → b < hi → w'.heap[b]? = w.heap[b]?) (h : ModRo lo hi w v0 v1 v2 x) : ModRo lo hi w' v0 v1 v2 x := by
  obtain ⟨m1, m2, b0, b1, b2, o0, o1, o2⟩ := h
  exact ⟨m1, m2, b0, b1, b2, o0.keep fun b g1 g2 => hk b (by omega) (by omega), o1.keep fun b g1 g2 => hk b (by omega) (by omega), o2.keep fun b g1 g2 => hk b (by omega) (by omega)⟩
theorem ModRo.mono {lo hi lo' hi' : Nat} {w : World} {v0 v1 v2 : Value} {x : ModR} (g1 : lo' ≤ lo) (g2 : hi ≤ hi') (h : ModRo lo hi w v0 v1 v2 x) : ModRo lo' hi' w v0 v1 v2 x := by
  obtain ⟨m1, m2, b0, b1, b2, o0, o1, o2⟩ := h
  exact ⟨m1, m2, by omega, by omega, by omega, o0.mono (by omega) (by omega), o1.mono (by omega) (by omega), o2.mono (by omega) (by omega)⟩
theorem ModRo.rd {lo hi : Nat} {w : World} {v0 v1 v2 : Value} {x : ModR} (h : ModRo lo hi w v0 v1 v2 x) : ModRd (fun b => lo ≤ b ∧ b < hi) w v0 v1 v2 x := by
  obtain ⟨m1, m2, b0, b1, b2, o0, o1, o2⟩ := h
  exact ⟨o0.sl.mono fun b hb => ⟨by omega, by omega⟩, o1.sl.mono fun b hb => ⟨by omega, by omega⟩, o2.sl.mono fun b hb => ⟨by omega, by omega⟩⟩
def OCod.modr : OCod ModR where
  cod := Cod.modr
  rd lo hi w cs x := ∃ v0 v1 v2, cs = [v0, v1, v2] ∧ ModRo lo hi w v0 v1 v2 x
  get h := by obtain ⟨v0, v1, v2, hc, h⟩ := h; exact ⟨v0, v1, v2, hc, h.rd⟩
  keep hk h := by obtain ⟨v0, v1, v2, hc, h⟩ := h; exact ⟨v0, v1, v2, hc, h.keep hk⟩
  mono h1 h2 h := by obtain ⟨v0, v1, v2, hc, h⟩ := h; exact ⟨v0, v1, v2, hc, h.mono h1 h2⟩
end Go.Proofs.YthkdkefkgmmoiaaDoor
