/- The type of a place of a function: of the model and of the program. -/
import Derived.Test.YthhheipinogcoaaGd
import Derived.Test.YthhheipinogcoaaSp
namespace Go.Proofs.Ythhheipinogcoaa
open Go.RowKit

def placeAt (x : FunR) (m : Nat) : ByteArray := if m < x.args.length then x.args.getD m ByteArray.empty else x.locals.getD (m - x.args.length) ByteArray.empty
def fplace (x : FunR) (n : Int) : ByteArray × Bool := if 0 ≤ n ∧ n < x.args.length + x.locals.length then (placeAt x n.toNat, true) else (ByteArray.empty, false)
theorem fplace_yes {x : FunR} {m : Nat} (h : m < x.args.length + x.locals.length) : fplace x m = (placeAt x m, true) := by
  unfold fplace
  rw [if_pos (by omega)]
  simp
theorem fplace_no {x : FunR} {n : Int} (h : ¬ (0 ≤ n ∧ n < x.args.length + x.locals.length)) : fplace x n = (ByteArray.empty, false) := by
  unfold fplace
  rw [if_neg h]
theorem l6In_yn (n low high : Int) (w : World) : (low ≤ n ∧ n ≤ high → Calls Try.prog 54 #[.int .i64 n, .int .i64 low, .int .i64 high] w fun e w' => e = .returned (.bool true) ∧ w = w') ∧ (¬ (low ≤ n ∧ n ≤ high) → Calls Try.prog 54 #[.int .i64 n, .int .i64 low, .int .i64 high] w fun e w' => e = .returned (.bool false) ∧ w = w') :=
  ⟨fun h => (l6In_any n low high w).mono fun _ _ hh => ⟨by rw [hh.1, decide_eq_true h.1, decide_eq_true h.2]; rfl, hh.2⟩,
   fun h => (l6In_any n low high w).mono fun _ _ hh => ⟨by
     rw [hh.1]
     by_cases h1 : low ≤ n
     · rw [decide_eq_false (p := n ≤ high) (fun h2 => h ⟨h1, h2⟩), Bool.and_false]
     · rw [decide_eq_false h1, Bool.false_and], hh.2⟩⟩
theorem ret_sb {a a' : ByteArray} {b b' : Bool} (ha : a = a') (hb : b = b') : Ending.returned (.tuple #[.string a, .bool b]) = .returned (.tuple #[.string a', .bool b']) := by rw [ha, hb]

/-- A function as a value. -/
def funV (x : FunR) (A1 A2 A3 A4 A5 : Option Addr) (c1 c2 c3 c4 c5 : Nat) : Value := .agg #[.int .i64 x.seen, .slice A1 x.args.length c1, .slice A2 x.rets.length c2, .slice A3 x.locals.length c3, .slice A4 x.takes.length c4, .slice A5 x.code.length c5]
def FunIn (F : Nat → Prop) (w : World) (x : FunR) (A1 A2 A3 A4 A5 : Option Addr) (c1 c2 c3 c4 c5 : Nat) : Prop := FunRd F w (.slice A1 x.args.length c1) (.slice A2 x.rets.length c2) (.slice A3 x.locals.length c3) (.slice A4 x.takes.length c4) (.slice A5 x.code.length c5) x
theorem FunIn.keep {F : Nat → Prop} {w w' : World} {x : FunR} {A1 A2 A3 A4 A5 : Option Addr} {c1 c2 c3 c4 c5 : Nat} (hk : ∀ b, F b → w'.heap[b]? = w.heap[b]?) (h : FunIn F w x A1 A2 A3 A4 A5 c1 c2 c3 c4 c5) : FunIn F w' x A1 A2 A3 A4 A5 c1 c2 c3 c4 c5 := FunRd.keep hk h

set_option maxRecDepth 100000 in
set_option maxHeartbeats 1000000 in
theorem l4Place_any (F : Nat → Prop) (x : FunR) (A1 A2 A3 A4 A5 : Option Addr) (c1 c2 c3 c4 c5 m : Nat) (w : World) (h : FunIn F w x A1 A2 A3 A4 A5 c1 c2 c3 c4 c5) (hF : ∀ b, F b → b < w.heap.size) (hm : m < x.args.length + x.locals.length) :
    Calls Try.prog 55 #[funV x A1 A2 A3 A4 A5 c1 c2 c3 c4 c5, .int .i64 m] w fun e w' => e = .returned (.string (placeAt x m)) ∧ Below w.heap.size w w' := by
  have HQ := Lib.hid ((Below.refl w.heap.size w).alloc (Nat.le_refl _) (.cells #[.int .i64 x.seen, .slice A1 x.args.length c1, .slice A2 x.rets.length c2, .slice A3 x.locals.length c3, .slice A4 x.takes.length c4, .slice A5 x.code.length c5] 37))
  by_cases hlt : m < x.args.length
  · obtain ⟨b, off, cap, hv, hFb, _, hcm, hc0, _⟩ := h.args.str_at hlt
    obtain ⟨rfl, rfl⟩ : A1 = some ⟨b, off, none⟩ ∧ c1 = cap := by simpa using hv
    have HR := Lib.hid (show placeAt x m = x.args[m] by unfold placeAt; rw [if_pos hlt, List.getD_eq_getElem?_getD, List.getElem?_eq_getElem hlt]; rfl)
    have hbl := hF b hFb
    unfold maxLen at hcm
    unfold funV
    clear h hF hv hFb
    go_enter Try.func55, Try.ntmps55
    go_wp2
    go_ret
    exact ⟨ret_str HR.out.symm, HQ.out⟩
  · obtain ⟨j, rfl⟩ : ∃ j, m = x.args.length + j := ⟨m - x.args.length, by omega⟩
    have hj : j < x.locals.length := by omega
    obtain ⟨b, off, cap, hv, hFb, _, hcm, hc0, _⟩ := h.locals.str_at hj
    obtain ⟨rfl, rfl⟩ : A3 = some ⟨b, off, none⟩ ∧ c3 = cap := by simpa using hv
    have HR := Lib.hid (show placeAt x (x.args.length + j) = x.locals[j] by unfold placeAt; rw [if_neg hlt, show x.args.length + j - x.args.length = j by omega, List.getD_eq_getElem?_getD, List.getElem?_eq_getElem hj]; rfl)
    have hbl := hF b hFb
    have hla : x.args.length ≤ maxLen := by obtain ⟨_, c, e, g1, g2, _⟩ := h.args; simp at e; omega
    unfold maxLen at hcm hla
    have b0 : ¬ ((x.args.length + j : Nat) : Int) < x.args.length := by omega
    have b1 : ¬ (x.args.length : Int) + j < x.args.length := by omega
    unfold funV
    clear h hF hv hFb
    go_enter Try.func55, Try.ntmps55
    go_wp2
    go_ret
    exact ⟨ret_str HR.out.symm, HQ.out⟩

set_option maxRecDepth 100000 in
set_option maxHeartbeats 1000000 in
theorem specFuncPlace_any (F : Nat → Prop) (x : FunR) (A1 A2 A3 A4 A5 : Option Addr) (c1 c2 c3 c4 c5 : Nat) (n : Int) (w : World) (h : FunIn F w x A1 A2 A3 A4 A5 c1 c2 c3 c4 c5) (hF : ∀ b, F b → b < w.heap.size) (hsm1 : x.args.length ≤ 2000000) (hsm2 : x.locals.length ≤ 2000000) :
    Calls Try.prog 23 #[funV x A1 A2 A3 A4 A5 c1 c2 c3 c4 c5, .int .i64 n] w fun e w' => e = .returned (.tuple #[.string (fplace x n).1, .bool (fplace x n).2]) ∧ Below w.heap.size w w' := by
  have HQ := Lib.hid ((Below.refl w.heap.size w).alloc (Nat.le_refl _) (.cells #[.int .i64 x.seen, .slice A1 x.args.length c1, .slice A2 x.rets.length c2, .slice A3 x.locals.length c3, .slice A4 x.takes.length c4, .slice A5 x.code.length c5] 37))
  have H6 := Lib.hid fun (w' : World) => l6In_yn n 0 (x.args.length + x.locals.length - 1) w'
  by_cases hn : 0 ≤ n ∧ n < x.args.length + x.locals.length
  · obtain ⟨m, rfl⟩ : ∃ m : Nat, n = m := ⟨n.toNat, by omega⟩
    have hm : m < x.args.length + x.locals.length := by omega
    have HR := Lib.hid (fplace_yes hm)
    have HC := Lib.hid (l4Place_any F x A1 A2 A3 A4 A5 c1 c2 c3 c4 c5 m (w.alloc (.cells #[.int .i64 x.seen, .slice A1 x.args.length c1, .slice A2 x.rets.length c2, .slice A3 x.locals.length c3, .slice A4 x.takes.length c4, .slice A5 x.code.length c5] 37)) (h.keep fun b hb => HQ.out.block b (hF b hb)) (fun b hb => Nat.lt_of_lt_of_le (hF b hb) HQ.out.size) hm)
    have H6' := Lib.hid fun (w' : World) => (H6.out w').1 (by omega)
    unfold funV at HC ⊢
    clear h hF H6 hn
    go_enter Try.func23, Try.ntmps23
    go_wp2_with (first | (go_at_call 54; refine (H6'.out _).mono ?_; rintro e w' ⟨rfl, rfl⟩) | (go_at_call 55; refine HC.out.mono ?_; rintro e w' ⟨rfl, hb⟩))
    go_ret2
    exact ⟨ret_sb (by rw [HR.out]) (by rw [HR.out]), HQ.out.trans (hb.mono HQ.out.size)⟩
  · have HR := Lib.hid (fplace_no hn)
    have H6' := Lib.hid fun (w' : World) => (H6.out w').2 (by omega)
    unfold funV
    clear h hF hn H6
    go_enter Try.func23, Try.ntmps23
    go_wp2_with (go_at_call 54; refine (H6'.out _).mono ?_; rintro e w' ⟨rfl, rfl⟩)
    go_ret2
    exact ⟨ret_sb (by rw [HR.out]; rfl) (by rw [HR.out]), HQ.out⟩

set_option maxRecDepth 100000 in
set_option maxHeartbeats 1000000 in
theorem implFuncPlace_any (F : Nat → Prop) (x : FunR) (A1 A2 A3 A4 A5 : Option Addr) (c1 c2 c3 c4 c5 : Nat) (n : Int) (w : World) (h : FunIn F w x A1 A2 A3 A4 A5 c1 c2 c3 c4 c5) (hF : ∀ b, F b → b < w.heap.size) (hsm1 : x.args.length ≤ 2000000) (hsm2 : x.locals.length ≤ 2000000) (hn64 : I64 n) :
    Calls Try.prog 25 #[funV x A1 A2 A3 A4 A5 c1 c2 c3 c4 c5, .int .i64 n] w fun e w' => e = .returned (.tuple #[.string (fplace x n).1, .bool (fplace x n).2]) ∧ Below w.heap.size w w' := by
  have HQ := Lib.hid ((Below.refl w.heap.size w).alloc (Nat.le_refl _) (.cells #[.int .i64 x.seen, .slice A1 x.args.length c1, .slice A2 x.rets.length c2, .slice A3 x.locals.length c3, .slice A4 x.takes.length c4, .slice A5 x.code.length c5] 37))
  unfold I64 at hn64
  by_cases hn : 0 ≤ n ∧ n < x.args.length + x.locals.length
  · obtain ⟨m, rfl⟩ : ∃ m : Nat, n = m := ⟨n.toNat, by omega⟩
    have hm : m < x.args.length + x.locals.length := by omega
    by_cases hlt : m < x.args.length
    · obtain ⟨b, off, cap, hv, hFb, _, hcm, hc0, _⟩ := h.args.str_at hlt
      obtain ⟨rfl, rfl⟩ : A1 = some ⟨b, off, none⟩ ∧ c1 = cap := by simpa using hv
      have HR := Lib.hid (show fplace x m = (x.args[m], true) by rw [fplace_yes hm]; unfold placeAt; rw [if_pos hlt, List.getD_eq_getElem?_getD, List.getElem?_eq_getElem hlt]; rfl)
      have hbl := hF b hFb
      unfold maxLen at hcm
      have b0 : ¬ (m : Int) < 0 := by omega
      have b1 : ¬ (x.locals.length : Int) ≤ (m : Int) - x.args.length := by omega
      have b2 : (m : Int) - x.args.length < 0 := by omega
      unfold funV
      clear h hF hv hFb hn hn64
      go_enter Try.func25, Try.ntmps25
      go_wp2
      go_ret2
      exact ⟨ret_sb (by rw [HR.out]) (by rw [HR.out]), HQ.out⟩
    · obtain ⟨j, rfl⟩ : ∃ j, m = x.args.length + j := ⟨m - x.args.length, by omega⟩
      have hj : j < x.locals.length := by omega
      obtain ⟨b, off, cap, hv, hFb, _, hcm, hc0, _⟩ := h.locals.str_at hj
      obtain ⟨rfl, rfl⟩ : A3 = some ⟨b, off, none⟩ ∧ c3 = cap := by simpa using hv
      have HR := Lib.hid (show fplace x (x.args.length + j : Nat) = (x.locals[j], true) by rw [fplace_yes hm]; unfold placeAt; rw [if_neg hlt, show x.args.length + j - x.args.length = j by omega, List.getD_eq_getElem?_getD, List.getElem?_eq_getElem hj]; rfl)
      have hbl := hF b hFb
      unfold maxLen at hcm
      unfold funV
      clear h hF hv hFb hn hn64
      go_enter Try.func25, Try.ntmps25
      go_wp2
      go_ret2
      exact ⟨ret_sb (by rw [HR.out]) (by rw [HR.out]), HQ.out⟩
  · have HR := Lib.hid (fplace_no hn)
    unfold funV
    clear h hF
    by_cases h0 : n < 0
    · go_enter Try.func25, Try.ntmps25
      go_wp2
      go_ret2
      exact ⟨ret_sb (by rw [HR.out]; rfl) (by rw [HR.out]), HQ.out⟩
    · have b1 : (x.locals.length : Int) ≤ n - x.args.length := by omega
      go_enter Try.func25, Try.ntmps25
      go_wp2
      go_ret2
      exact ⟨ret_sb (by rw [HR.out]; rfl) (by rw [HR.out]), HQ.out⟩
end Go.Proofs.Ythhheipinogcoaa
