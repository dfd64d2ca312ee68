/- The reader of a code, from which inputs are drawn: it answers numbers within bounds, and turns nothing but its own place. -/
import Derived.Test.YtmomdflfjcboiaaRows
import Derived.Test.YtmomdflfjcboiaaStr
import Derived.Laws.BitsAllLaws
import Derived.Laws.BitsLemmas
import Derived.Deep.DeepCutAuto
namespace Go.Proofs.Ytmomdflfjcboiaa
open Go.RowKit

/-- A byte. -/
def Cod.u8 : Cod Nat where
  size := 1
  rd _ _ cs n := cs = [.int .u8 (n : Int)] ∧ n ≤ 255
  len h := by rw [h.1]; rfl
  keep _ h := h
  mono _ h := h

theorem Cod.Sl.u8_at {F : Nat → Prop} {w : World} {v : Value} {xs : List Nat} (h : Cod.u8.Sl F w v xs) {k : Nat} (hk : k < xs.length) : ∃ b off cap, v = .slice (some ⟨b, off, none⟩) xs.length cap ∧ F b ∧ xs.length ≤ cap ∧ cap ≤ maxLen ∧
    w.cell? ⟨b, off + k, none⟩ = some (.int .u8 (xs[k] : Int)) ∧ xs[k] ≤ 255 := by
  obtain ⟨b, off, cap, cs, hv, hF, h1, h2, hcell, rfl, hs⟩ := h.get hk
  exact ⟨b, off, cap, hv, hF, h1, h2, by simpa [Cod.u8] using hcell 0 _ rfl, hs⟩

/-- Block g is a reader at the place p, over bytes that lie elsewhere. -/
def Rdr (g p : Nat) (w : World) : Prop :=
  ∃ A n cap xs, Blk w g 96 #[.slice A n cap, .int .i64 (p : Int)] ∧ n = xs.length ∧ n ≤ 2000 ∧ Cod.u8.Sl (fun b => b < g) w (.slice A n cap) xs

theorem Rdr.keep' {g p : Nat} {w w' : World} (h : Rdr g p w) (hk : ∀ b, b ≤ g → w'.heap[b]? = w.heap[b]?) : Rdr g p w' := by
  obtain ⟨A, n, cap, xs, hB, hn, hl, hS⟩ := h
  exact ⟨A, n, cap, xs, (hk g (Nat.le_refl _)).trans hB, hn, hl, hS.keep fun b hb => hk b (Nat.le_of_lt hb)⟩
theorem Rdr.lt {g p : Nat} {w : World} (h : Rdr g p w) : g < w.heap.size := by
  obtain ⟨A, n, cap, xs, hB, _⟩ := h
  exact hB.lt

theorem Rdr.keep {g p : Nat} {w w' : World} (h : Rdr g p w) (hk : ∀ b, b < w.heap.size → w'.heap[b]? = w.heap[b]?) (_ : w.heap.size ≤ w'.heap.size) : Rdr g p w' := h.keep' fun b hb => hk b (Nat.lt_of_le_of_lt hb h.lt)

theorem ofInt_i64 (a : Nat) (ha : a < 9223372036854775808) : (BitVec.ofInt 64 (a : Int)).toNat = a := by
  rw [BitVec.ofInt_natCast, BitVec.toNat_ofNat]; exact Nat.mod_eq_of_lt (by omega)
theorem i64_xor_nat (a b : Nat) (ha : a < 9223372036854775808) (hb : b < 9223372036854775808) : bits .xor .i64 (a : Int) (b : Int) = ((a ^^^ b : Nat) : Int) := by
  have hx : a ^^^ b < 2 ^ 63 := Nat.xor_lt_two_pow (by omega) (by omega)
  show IntKind.i64.wrap ((BitVec.ofInt 64 (a : Int) ^^^ BitVec.ofInt 64 (b : Int)).toNat : Int) = _
  rw [BitVec.toNat_xor, ofInt_i64 a ha, ofInt_i64 b hb, IntKind.wrap_i64]
  omega

/-- What pick hands back. -/
def PickOf (g : Nat) (n : Int) (p : Nat) (W : World) (e : Ending) (w' : World) : Prop :=
  ∃ k : Nat, e = .returned (.int .i64 (k : Int)) ∧ ((k : Int) < n ∨ k = 0) ∧ Rdr g (p + 1) w' ∧ W.grownBy w' (some g) ∧ w'.heap.size = W.heap.size

set_option maxRecDepth 100000 in
set_option maxHeartbeats 1000000 in
theorem pick_any (g p : Nat) (n : Int) (w : World) (h : Rdr g p w) (hp : p ≤ 100000000) (hn : n ≤ 100000) :
    Calls Try.prog 38 #[.pointer (some ⟨g, 0, none⟩), .int .i64 n] w (PickOf g n p w) := by
  obtain ⟨A, m, cap, xs, hB, rfl, hl, hS⟩ := h
  have c0 := hB.cell0
  have c1 := hB.cell1
  have f1 := hB.frozen 1
  have HB := Lib.hid hB
  have HS := Lib.hid hS
  have HN : ∀ k d : Nat, ((k : Int) < n ∨ k = 0) → PickOf g n p w (.returned (.int .i64 (k : Int))) ((w.setCell ⟨g, 1, none⟩ (.int .i64 ((p : Int) + 1))).drewN d) := fun k d hk => by
    refine ⟨k, rfl, hk, ⟨A, _, cap, xs, HB.out.set_ 1 _, rfl, hl, ?_⟩, ⟨rfl, rfl, rfl, by simp [World.setCell], fun i _ hi => Below.heap_setCell _ _ _ _ (fun e => hi (by rw [e]))⟩, by simp [World.setCell]⟩
    exact HS.out.keep fun b hb => Below.heap_setCell _ _ _ _ (by simp; omega)
  have HNH := Lib.hid HN
  clear HN hB hS
  by_cases h1 : n < 1
  · go_enter Try.func38, Try.ntmps38
    go_wp2
    go_ret
    exact HNH.out 0 0 (.inr rfl)
  · obtain ⟨nn, rfl⟩ : ∃ nn : Nat, n = nn := ⟨n.toNat, by omega⟩
    by_cases h2 : xs.length = 0
    · have b2 : ((xs.length : Int) == 0) = true := by rw [beq_iff_eq]; omega
      go_enter Try.func38, Try.ntmps38
      go_wp2
      go_ret
      exact HNH.out 0 0 (.inr rfl)
    · have b2 : ((xs.length : Int) == 0) = false := by rw [beq_eq_false_iff_ne]; omega
      by_cases h3 : p < xs.length
      · obtain ⟨b, off, c1', hv, hFb, _, hcm, hcx, hx⟩ := HS.out.u8_at h3
        obtain ⟨rfl, rfl⟩ : A = some ⟨b, off, none⟩ ∧ cap = c1' := by simpa using hv
        have hgb : b ≠ g := by omega
        unfold maxLen at hcm
        clear hv
        go_enter Try.func38, Try.ntmps38
        go_wp2
        go_ret
        have hh := HNH.out (xs[p] % nn) 0 (.inl (by have := Nat.mod_lt xs[p] (show 0 < nn by omega); omega))
        rwa [Int.natCast_emod] at hh
      · have hm1 : p % xs.length < xs.length := Nat.mod_lt _ (by omega)
        have hm2 : (p * 7 + 3) % xs.length < xs.length := Nat.mod_lt _ (by omega)
        obtain ⟨b, off, c1', hv, hFb, _, hcm, hcx, hx⟩ := HS.out.u8_at hm1
        obtain ⟨rfl, rfl⟩ : A = some ⟨b, off, none⟩ ∧ cap = c1' := by simpa using hv
        obtain ⟨b2, off2, c2', hv2, _, _, _, hcx2, hx2⟩ := HS.out.u8_at hm2
        obtain ⟨⟨rfl, rfl⟩, rfl⟩ : (b = b2 ∧ off = off2) ∧ cap = c2' := by simpa using hv2
        have hgb : b ≠ g := by omega
        unfold maxLen at hcm
        generalize xs[p % xs.length] = y1 at hcx hx
        generalize xs[(p * 7 + 3) % xs.length] = y2 at hcx2 hx2
        clear hv hv2
        go_enter Try.func38, Try.ntmps38
        have hL : (0 : Int) < xs.length := by omega
        have j0 : (0 : Int) ≤ (p : Int) % xs.length := Int.emod_nonneg _ (by omega)
        have j1 : (p : Int) % xs.length < xs.length := Int.emod_lt_of_pos _ hL
        have j2 : (0 : Int) ≤ ((p : Int) * 7 + 3) % xs.length := Int.emod_nonneg _ (by omega)
        have j3 : ((p : Int) * 7 + 3) % xs.length < xs.length := Int.emod_lt_of_pos _ hL
        have t1 : ((p : Int) % xs.length).toNat = p % xs.length := by rw [← Int.natCast_emod, Int.toNat_natCast]
        have t2 : (((p : Int) * 7 + 3) % xs.length).toNat = (p * 7 + 3) % xs.length := by rw [show (p : Int) * 7 + 3 = ((p * 7 + 3 : Nat) : Int) by omega, ← Int.natCast_emod, Int.toNat_natCast]
        have q0 : (0 : Int) ≤ (p : Int) / xs.length := Int.ediv_nonneg (by omega) (by omega)
        have q1 : (p : Int) / xs.length ≤ p := Int.ediv_le_self _ (by omega)
        go_wp2
        go_quiet (fail)
        go_wp2
        go_ret
        have hE : (y1 : Int) * 131 + (y2 : Int) * 1117 + (p : Int) * 29 + (p : Int) / (xs.length : Int) * 53 = ((y1 * 131 + y2 * 1117 + p * 29 + p / xs.length * 53 : Nat) : Int) := by simp
        have hq : p / xs.length ≤ p := Nat.div_le_self _ _
        generalize y1 * 131 + y2 * 1117 + p * 29 + p / xs.length * 53 = E at hE
        have hEb : E ≤ 10000000000 := by omega
        have hx : bits .xor .i64 (E : Int) ((E : Int) / 64) = ((E ^^^ (E / 64) : Nat) : Int) := by rw [show (E : Int) / 64 = ((E / 64 : Nat) : Int) by simp]; exact i64_xor_nat _ _ (by omega) (by omega)
        have hh := HNH.out ((E ^^^ (E / 64)) % nn) nq (.inl (by have := Nat.mod_lt (E ^^^ (E / 64)) (show 0 < nn by omega); omega))
        show PickOf g (nn : Int) p w (.returned (.int .i64 ((bits .xor .i64 ((y1 : Int) * 131 + (y2 : Int) * 1117 + (p : Int) * 29 + (p : Int) / (xs.length : Int) * 53) (((y1 : Int) * 131 + (y2 : Int) * 1117 + (p : Int) * 29 + (p : Int) / (xs.length : Int) * 53) / 64)).tmod nn))) _
        rw [hE, hx, Int.tmod_eq_emod_of_nonneg (by omega), ← Int.natCast_emod]
        exact hh
end Go.Proofs.Ytmomdflfjcboiaa
