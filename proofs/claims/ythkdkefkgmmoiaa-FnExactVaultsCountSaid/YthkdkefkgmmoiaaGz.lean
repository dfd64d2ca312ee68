/- The functions that reckon sizes, at instructions, functions and modules. The functions that copy arguments, at instructions, functions and modules: what they hand back is the call's own. -/
import Derived.Test.YthkdkefkgmmoiaaGd
import Derived.Test.YthkdkefkgmmoiaaSz
import Derived.Test.YthkdkefkgmmoiaaMk
namespace Go.Proofs.Ythkdkefkgmmoiaa
open Go.RowKit


/-- What a row's size is, copies, compares, marks and holds: as facts about one Go function. -/
def SzRow {α : Type} (c : Cod α) (f : FuncId) (g : List α → Int → Int) : Prop := ∀ (F : Nat → Prop) (v : Value) (xs : List α) (left : Int) (w : World), c.Sl F w v xs → (∀ b, F b → b < w.heap.size) → 0 ≤ left → left ≤ 2000000 →
    Calls Try.prog f #[v, .int .i64 left] w fun e w' => e = .returned (.int .i64 (g xs left)) ∧ Below w.heap.size w w'
theorem sz_str : SzRow Cod.str 87 (szS szB) := fun F v xs left w h _ h0 h1 => (szStringS_any F v xs left w h h0 h1).mono fun _ _ hh => ⟨hh.1, hh.2 ▸ Below.refl _ _⟩
theorem sz_i64 : SzRow Cod.i64 89 szI := fun F v xs left w h _ h0 h1 => (szIntS_any F v xs left w h h0 h1).mono fun _ _ hh => ⟨hh.1, hh.2 ▸ Below.refl _ _⟩
theorem sz_rec : SzRow Cod.rec_ 46 (szS szRec) := fun F v xs left w h hF h0 h1 => szRecordS_any F v xs left w h hF h0 h1
def szThen (a : Int) (f : Int → Int) : Int := if a < 0 then -1 else f a
theorem szThen_neg {a : Int} {f : Int → Int} (h : a < 0) : szThen a f = -1 := by unfold szThen; rw [if_pos h]
theorem szThen_go {a : Int} {f : Int → Int} (h : ¬ a < 0) : szThen a f = f a := by unfold szThen; rw [if_neg h]
theorem szThen_le {a l : Int} {f : Int → Int} (h0 : 0 ≤ l) (h1 : a ≤ l) (h2 : ∀ b, 0 ≤ b → b ≤ l → f b ≤ l) : szThen a f ≤ l := by
  unfold szThen
  split
  · omega
  · exact h2 a (by omega) h1
theorem szThen_pos {a : Int} {f : Int → Int} (h : 0 ≤ szThen a f) : 0 ≤ a ∧ 0 ≤ f a := by
  unfold szThen at h
  split at h
  · omega
  · exact ⟨by omega, h⟩

theorem szI_len {xs : List Int} {l : Int} (h : 0 ≤ szI xs l) : (xs.length : Int) ≤ l := by
  unfold szI at h
  split at h <;> omega
def SmolRec (r : Rec) : Prop := r.fields.length ≤ 2000000
theorem smol_rec {r : Rec} {l : Int} (_ : 0 ≤ l) (h1 : l ≤ 2000000) (h : 0 ≤ szRec r l) : SmolRec r := by
  unfold szRec at h
  split at h
  · omega
  · obtain ⟨h5, _⟩ := szS_len szB_le h
    unfold SmolRec
    omega

def szInsr (x : InsR) (l : Int) : Int := szThen (l - x.op.size) fun l0 => l0
theorem szInsr_le (x : InsR) (l : Int) (h : 0 ≤ l) : szInsr x l ≤ l := by
  unfold szInsr
  refine szThen_le h (by omega) fun l0 p0 q0 => ?_
  omega
def SmolInsr (x : InsR) : Prop := True
theorem smol_insr {x : InsR} {l : Int} (h0 : 0 ≤ l) (h1 : l ≤ 2000000) (h : 0 ≤ szInsr x l) : SmolInsr x := by
  trivial

def szFunr (x : FunR) (l : Int) : Int := szThen (szS szB x.args l) fun l0 => szThen (szS szB x.rets l0) fun l1 => szThen (szS szB x.locals l1) fun l2 => szThen (szI x.takes l2) fun l3 => szThen (szS szInsr x.code l3) fun l4 => l4
theorem szFunr_le (x : FunR) (l : Int) (h : 0 ≤ l) : szFunr x l ≤ l := by
  unfold szFunr
  refine szThen_le h (by have := szS_le szB_le x.args l (by omega); omega) fun l0 p0 q0 => ?_
  refine szThen_le h (by have := szS_le szB_le x.rets l0 (by omega); omega) fun l1 p1 q1 => ?_
  refine szThen_le h (by have := szS_le szB_le x.locals l1 (by omega); omega) fun l2 p2 q2 => ?_
  refine szThen_le h (by have := szI_le x.takes l2 (by omega); omega) fun l3 p3 q3 => ?_
  refine szThen_le h (by have := szS_le szInsr_le x.code l3 (by omega); omega) fun l4 p4 q4 => ?_
  omega
def SmolFunr (x : FunR) : Prop := x.args.length ≤ 2000000 ∧ x.rets.length ≤ 2000000 ∧ x.locals.length ≤ 2000000 ∧ x.takes.length ≤ 2000000 ∧ x.code.length ≤ 2000000 ∧ (∀ y ∈ x.code, SmolInsr y)
theorem smol_funr {x : FunR} {l : Int} (h0 : 0 ≤ l) (h1 : l ≤ 2000000) (h : 0 ≤ szFunr x l) : SmolFunr x := by
  unfold szFunr at h
  obtain ⟨g0, h0'⟩ := szThen_pos h
  have le0 := szS_le szB_le x.args l (by omega)
  obtain ⟨n0, a0⟩ := szS_len (szB_le) g0
  obtain ⟨l0, e0⟩ : ∃ l0, l0 = szS szB x.args l := ⟨_, rfl⟩
  rw [← e0] at g0 h0' le0
  obtain ⟨g1, h1'⟩ := szThen_pos h0'
  have le1 := szS_le szB_le x.rets l0 (by omega)
  obtain ⟨n1, a1⟩ := szS_len (szB_le) g1
  obtain ⟨l1, e1⟩ : ∃ l1, l1 = szS szB x.rets l0 := ⟨_, rfl⟩
  rw [← e1] at g1 h1' le1
  obtain ⟨g2, h2'⟩ := szThen_pos h1'
  have le2 := szS_le szB_le x.locals l1 (by omega)
  obtain ⟨n2, a2⟩ := szS_len (szB_le) g2
  obtain ⟨l2, e2⟩ : ∃ l2, l2 = szS szB x.locals l1 := ⟨_, rfl⟩
  rw [← e2] at g2 h2' le2
  obtain ⟨g3, h3'⟩ := szThen_pos h2'
  have le3 := szI_le x.takes l2 (by omega)
  have n3 := szI_len g3
  obtain ⟨l3, e3⟩ : ∃ l3, l3 = szI x.takes l2 := ⟨_, rfl⟩
  rw [← e3] at g3 h3' le3
  obtain ⟨g4, h4'⟩ := szThen_pos h3'
  have le4 := szS_le szInsr_le x.code l3 (by omega)
  obtain ⟨n4, a4⟩ := szS_len (szInsr_le) g4
  obtain ⟨l4, e4⟩ : ∃ l4, l4 = szS szInsr x.code l3 := ⟨_, rfl⟩
  rw [← e4] at g4 h4' le4
  exact ⟨by omega, by omega, by omega, by omega, by omega, fun y hy => by obtain ⟨l', z0, z1, z2⟩ := a4 y hy; exact smol_insr z0 (by omega) z2⟩

def szModr (x : ModR) (l : Int) : Int := szThen (szS szRec x.records l) fun l0 => szThen (szS szFunr x.funcs l0) fun l1 => szThen (szI x.friends l1) fun l2 => l2
theorem szModr_le (x : ModR) (l : Int) (h : 0 ≤ l) : szModr x l ≤ l := by
  unfold szModr
  refine szThen_le h (by have := szS_le szRec_le x.records l (by omega); omega) fun l0 p0 q0 => ?_
  refine szThen_le h (by have := szS_le szFunr_le x.funcs l0 (by omega); omega) fun l1 p1 q1 => ?_
  refine szThen_le h (by have := szI_le x.friends l1 (by omega); omega) fun l2 p2 q2 => ?_
  omega
def SmolModr (x : ModR) : Prop := x.records.length ≤ 2000000 ∧ x.funcs.length ≤ 2000000 ∧ x.friends.length ≤ 2000000 ∧ (∀ y ∈ x.records, SmolRec y) ∧ (∀ y ∈ x.funcs, SmolFunr y)
theorem smol_modr {x : ModR} {l : Int} (h0 : 0 ≤ l) (h1 : l ≤ 2000000) (h : 0 ≤ szModr x l) : SmolModr x := by
  unfold szModr at h
  obtain ⟨g0, h0'⟩ := szThen_pos h
  have le0 := szS_le szRec_le x.records l (by omega)
  obtain ⟨n0, a0⟩ := szS_len (szRec_le) g0
  obtain ⟨l0, e0⟩ : ∃ l0, l0 = szS szRec x.records l := ⟨_, rfl⟩
  rw [← e0] at g0 h0' le0
  obtain ⟨g1, h1'⟩ := szThen_pos h0'
  have le1 := szS_le szFunr_le x.funcs l0 (by omega)
  obtain ⟨n1, a1⟩ := szS_len (szFunr_le) g1
  obtain ⟨l1, e1⟩ : ∃ l1, l1 = szS szFunr x.funcs l0 := ⟨_, rfl⟩
  rw [← e1] at g1 h1' le1
  obtain ⟨g2, h2'⟩ := szThen_pos h1'
  have le2 := szI_le x.friends l1 (by omega)
  have n2 := szI_len g2
  obtain ⟨l2, e2⟩ : ∃ l2, l2 = szI x.friends l1 := ⟨_, rfl⟩
  rw [← e2] at g2 h2' le2
  exact ⟨by omega, by omega, by omega, fun y hy => by obtain ⟨l', z0, z1, z2⟩ := a0 y hy; exact smol_rec z0 (by omega) z2, fun y hy => by obtain ⟨l', z0, z1, z2⟩ := a1 y hy; exact smol_funr z0 (by omega) z2⟩

end Go.Proofs.Ythkdkefkgmmoiaa

namespace Go.Proofs.Ythkdkefkgmmoiaa
open Go.RowKit


def ToRow {α : Type} (c : OCod α) (t : TypeId) (f : FuncId) (P : α → Prop) : Prop := ∀ (F : Nat → Prop) (v : Value) (xs : List α) (w : World), c.cod.Sl F w v xs → (∀ b, F b → b < w.heap.size) → xs.length ≤ 2000000 → (∀ x ∈ xs, P x) →
    Calls Try.prog f #[v] w fun e w' => ∃ A' c', e = .returned (.slice A' xs.length c') ∧ MadeO c t w w' (.slice A' xs.length c') xs
theorem to_str : ToRow OCod.str 9 92 (fun _ => True) := fun F v xs w h hF hn _ => toStringS_own F v xs w h hF hn
theorem to_rec : ToRow (OCod.rec_ 9) 65 52 SmolRec := fun F v xs w h hF hn hm => toRecordS_own F v xs w h hF hn hm

set_option maxHeartbeats 400000 in
theorem toIntS_own (F : Nat → Prop) (v : Value) (xs : List Int) (w : World) (h : Cod.i64.Sl F w v xs) (hF : ∀ b, F b → b < w.heap.size) (hn : xs.length ≤ 2000000) :
    Calls Try.prog 94 #[v] w fun e w' => ∃ A' c', e = .returned (.slice A' xs.length c') ∧ MadeO OCod.i64 3 w w' (.slice A' xs.length c') xs := by
  have HS := Lib.hid h
  obtain ⟨A, cap, rfl, hlc, hcm, _⟩ := h
  unfold maxLen at hcm
  have hmk := make_len (P := Try.prog) 31 3 _ 1 8 Try.underlying31 info_int (by omega) xs.length hn
  go_enter Try.func94, Try.ntmps94
  go_wp2
  go_loopw [4] (fun i wr => ∃ (k : Nat) (cs : Array Value), k ≤ xs.length ∧ i = .int .i64 k ∧ Blk wr w.heap.size 3 cs ∧ cs.size = xs.length ∧ OPart OCod.i64 w.heap.size wr cs k xs ∧ Below w.heap.size w wr) (fun i _ => xs.length - (intOf i).toNat)
  case atStart => exact ⟨0, _, Nat.zero_le _, rfl, Blk.new _ _ _, by simp [madeCells], OPart.zero (by simp), (Below.refl _ _).alloc (Nat.le_refl _) _⟩
  case round =>
    obtain ⟨k, cs, hk, rfl, HB, hsz, HP, hb⟩ := hrel
    have HBl := HB.lt
    by_cases hlt : k < xs.length
    · have HSr := Lib.hid (HS.out.keep (below_keeps hb hF))
      obtain ⟨b, off, cap', hv, hFb, _, _, hc0, hs0⟩ := HSr.out.i64_at hlt
      obtain ⟨rfl, rfl⟩ : A = some ⟨b, off, none⟩ ∧ cap = cap' := by simpa using hv
      obtain ⟨d0, hd0⟩ := HB.holds hsz hlt
      have hf0 := HB.frozen k
      have HB' := Lib.hid HB
      have HP' := Lib.hid HP
      have Hsz := Lib.hid hsz
      have Hi := Lib.hid hs0
      clear hv HB HP hsz hmk hs0
      go_wp2
      go_roundw
      case rel =>
        refine ⟨k + 1, _, by omega, by go_num, HB'.out.set_ k _, by rw [Array.size_setIfInBounds, Hsz.out], ?_, hb.setCell (by simp) _⟩
        refine HP'.out.next (news := [.int .i64 xs[k]]) hlt (fun i h1 _ => Below.heap_setCell _ _ _ _ (by simp; omega)) (by simp [World.setCell]) (fun i hi => by rw [Array.getElem?_setIfInBounds, if_neg (by simp [OCod.i64, Cod.i64] at hi; omega)]) (fun j u hu => ?_) ⟨rfl, Hi.out⟩
        match j, hu with
        | 0, hu => simp at hu; subst hu; simp [OCod.i64, Cod.i64, Hsz.out, hlt]
        | j + 1, hu => simp at hu
      case measure => simp [intOf]; omega
    · obtain rfl : k = xs.length := by omega
      have HM : MadeO OCod.i64 3 w wr (.slice (some ⟨w.heap.size, 0, none⟩) xs.length xs.length) xs := ⟨HP.own HB (Nat.le_refl _) (Nat.le_refl _) (by unfold maxLen; omega), hb⟩
      clear hmk HB HP
      go_wp2
      go_ret
      exact ⟨_, _, rfl, HM⟩
theorem to_i64 : ToRow OCod.i64 3 94 (fun _ => True) := fun F v xs w h hF hn _ => toIntS_own F v xs w h hF hn

theorem info_insr : (Try.prog.info? 72).map (fun i => (i.zero, i.size, i.bytes)) = some (some (.agg #[.string ByteArray.empty, .int .i64 0, .int .i64 0]), 3, 32) := by kernel_rfl
def ToInsrD (x : InsR) (w : World) (e : Ending) (w' : World) : Prop := e = .returned (.agg #[.string x.op, .int .i64 x.a, .int .i64 x.b]) ∧ InsRo w.heap.size w'.heap.size w'  x ∧ Below w.heap.size w w'

theorem info_funr : (Try.prog.info? 40).map (fun i => (i.zero, i.size, i.bytes)) = some (some (.agg #[.int .i64 0, .slice none 0 0, .slice none 0 0, .slice none 0 0, .slice none 0 0, .slice none 0 0]), 6, 128) := by kernel_rfl
def ToFunrD (x : FunR) (w : World) (e : Ending) (w' : World) : Prop := ∃ A1' c1' A2' c2' A3' c3' A4' c4' A5' c5', e = .returned (.agg #[.int .i64 x.seen, .slice A1' x.args.length c1', .slice A2' x.rets.length c2', .slice A3' x.locals.length c3', .slice A4' x.takes.length c4', .slice A5' x.code.length c5']) ∧ FunRo w.heap.size w'.heap.size w' (.slice A1' x.args.length c1') (.slice A2' x.rets.length c2') (.slice A3' x.locals.length c3') (.slice A4' x.takes.length c4') (.slice A5' x.code.length c5') x ∧ Below w.heap.size w w'

theorem info_modr : (Try.prog.info? 33).map (fun i => (i.zero, i.size, i.bytes)) = some (some (.agg #[.slice none 0 0, .slice none 0 0, .slice none 0 0]), 3, 72) := by kernel_rfl
def ToModrD (x : ModR) (w : World) (e : Ending) (w' : World) : Prop := ∃ A0' c0' A1' c1' A2' c2', e = .returned (.agg #[.slice A0' x.records.length c0', .slice A1' x.funcs.length c1', .slice A2' x.friends.length c2']) ∧ ModRo w.heap.size w'.heap.size w' (.slice A0' x.records.length c0') (.slice A1' x.funcs.length c1') (.slice A2' x.friends.length c2') x ∧ Below w.heap.size w w'

end Go.Proofs.Ythkdkefkgmmoiaa
