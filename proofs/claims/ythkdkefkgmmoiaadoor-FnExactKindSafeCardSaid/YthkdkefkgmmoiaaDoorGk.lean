/- A row copied by append onto an empty one: the copy is the call's own. slices.Clone. -/
import Derived.Test.YthkdkefkgmmoiaaDoorGz
import Derived.Test.YthkdkefkgmmoiaaDoorApp
import Derived.Deep.Upon
import Derived.Laws.Append
import Derived.WideShapes
import Derived.Lib.LazyBuf
namespace Go.Proofs.YthkdkefkgmmoiaaDoor
open Go.RowKit

/-- Elements that hold no memory of their own: how they lie in cells. -/
structure Flat {α : Type} (c : OCod α) (enc : α → List Value) : Prop where
  size : ∀ x, (enc x).length = c.cod.size
  pos : 0 < c.cod.size
  of : ∀ {F : Nat → Prop} {w : World} {cs : List Value} {x : α}, c.cod.rd F w cs x → cs = enc x ∧ ∀ lo hi w', c.rd lo hi w' (enc x) x
theorem flat_str : Flat OCod.str (fun x => [.string x]) := ⟨fun _ => rfl, by decide, fun h => ⟨h.1, fun _ _ _ => ⟨rfl, h.2⟩⟩⟩
theorem flat_i64 : Flat OCod.i64 (fun x => [.int .i64 x]) := ⟨fun _ => rfl, by decide, fun h => ⟨h.1, fun _ _ _ => ⟨rfl, h.2⟩⟩⟩
theorem flat_insr : Flat OCod.insr (fun x => [.string x.op, .int .i64 x.a, .int .i64 x.b]) := ⟨fun _ => rfl, by decide, fun h => ⟨h.1, fun _ _ _ => ⟨rfl, ⟨h.2.op, h.2.a, h.2.b⟩⟩⟩⟩

theorem flat_length {α β : Type} {enc : α → List β} {s : Nat} (hs : ∀ x, (enc x).length = s) : ∀ xs : List α, (xs.flatMap enc).length = xs.length * s
  | [] => by simp
  | x :: xs => by rw [List.flatMap_cons, List.length_append, hs, flat_length hs xs, List.length_cons, Nat.add_mul]; omega
theorem flat_put {α β : Type} {enc : α → List β} {s : Nat} (hs : ∀ x, (enc x).length = s) : ∀ (xs : List α) (i : Nat) (x : α) (k : Nat) (u : β), xs[i]? = some x → (enc x)[k]? = some u → (xs.flatMap enc)[i * s + k]? = some u
  | [], i, x, k, u, h, _ => by simp at h
  | y :: ys, 0, x, k, u, h, hk => by
    simp at h
    subst h
    have : k < (enc y).length := (List.getElem?_eq_some_iff.1 hk).1
    rw [List.flatMap_cons, Nat.zero_mul, Nat.zero_add, List.getElem?_append_left this]
    exact hk
  | y :: ys, i + 1, x, k, u, h, hk => by
    rw [List.flatMap_cons, List.getElem?_append_right (by rw [hs, Nat.add_mul]; omega), hs, show (i + 1) * s + k - s = i * s + k by rw [Nat.add_mul]; omega]
    exact flat_put hs ys i x k u (by simpa using h) hk
theorem flat_get {α β : Type} {enc : α → List β} {s : Nat} (hs : ∀ x, (enc x).length = s) : ∀ (xs : List α) (j : Nat) (u : β), (xs.flatMap enc)[j]? = some u → ∃ i x k, xs[i]? = some x ∧ (enc x)[k]? = some u ∧ j = i * s + k
  | [], j, u, h => by simp at h
  | y :: ys, j, u, h => by
    rw [List.flatMap_cons] at h
    by_cases hj : j < (enc y).length
    · rw [List.getElem?_append_left hj] at h
      exact ⟨0, y, j, rfl, h, by omega⟩
    · rw [List.getElem?_append_right (by omega)] at h
      obtain ⟨i, x, k, h1, h2, h3⟩ := flat_get hs ys _ u h
      rw [hs] at h3 hj
      exact ⟨i + 1, x, k, by simpa using h1, h2, by rw [Nat.add_mul]; omega⟩

/-- append(an empty row, v...). -/
theorem append_clone {α : Type} {P : Program} {c : OCod α} {enc : α → List Value} (hfl : Flat c enc) (t ty e : TypeId) (z : Value) (size bytes : Nat) (ht : P.underlying t = some (.slice e)) (hi : (P.info? e).map (fun i => (i.zero, i.size, i.bytes)) = some (some z, size, bytes)) (hcs : c.cod.size = size) (hby : bytes ≤ 1000)
    (F : Nat → Prop) (v : Value) (xs : List α) (w : World) (h : c.cod.Sl F w v xs) (hn : xs.length ≤ 2000000) (g : Nat) :
    ∃ A' c' w', (Builtin.append_ #[t, t] ty #[.slice (some ⟨g, 0, none⟩) 0 0, v]).run P w = .ok (.slice A' xs.length c') w' ∧ MadeO c e w w' (.slice A' xs.length c') xs := by
  obtain ⟨i, hi0, hz0, hz1, hz2⟩ := info_parts hi
  obtain ⟨A, cap, rfl, hlc, hcm, hx⟩ := h
  by_cases hp : 0 < xs.length
  · obtain ⟨b, off, rfl, hFb, hcell⟩ := hx hp
    have hlen := flat_length (s := c.cod.size) hfl.size xs
    have hb1 : xs.length * bytes ≤ 2000000 * 1000 := Nat.mul_le_mul hn hby
    have hr := run_append_grow (P := P) w t ty e i z ht hi0 hz0 ⟨g, 0, none⟩ 0 0 [] (by simp) (fun j u hu => by simp at hu) ⟨b, off, none⟩ xs.length cap (xs.flatMap enc) (by rw [hlen, hz1, hcs]) (fun j u hu => by
      obtain ⟨k, x, q, h1, h2, rfl⟩ := flat_get (s := c.cod.size) hfl.size xs j u hu
      obtain ⟨cs, hc1, hc2⟩ := hcell k x h1
      obtain ⟨rfl, _⟩ := hfl.of hc2
      rw [Go.WideShapes.add_plain, ← Nat.add_assoc]
      exact hc1 q u h2) (by omega) (by omega) (growslice_fits (by omega) (by rw [hz2, Nat.zero_add]; omega))
    simp only [Nat.zero_add] at hr
    refine ⟨_, _, _, hr, ⟨⟨_, _, rfl, grownCap_ge w xs.length 0 e, grownCap_le_maxLen w xs.length 0 e (by unfold maxLen; omega), fun _ => ⟨w.heap.size, (([] : List Value).toArray ++ (xs.flatMap enc).toArray ++ Builtin.zeroCells z.cells (grownCap w xs.length 0 e - xs.length)), fun _ => w.heap.size, fun _ => w.heap.size, rfl, Nat.le_refl _, by simp, ?_, fun _ _ => ⟨Nat.le_refl _, Nat.le_refl _, by simp⟩, fun _ _ _ _ => Nat.le_refl _, fun _ _ hh => Nat.lt_irrefl _ hh.2, fun k x hk => ?_⟩⟩, ?_⟩⟩
    · exact Blk.new w.drew e _
    · obtain ⟨cs, hc1, hc2⟩ := hcell k x hk
      obtain ⟨rfl, hrd⟩ := hfl.of hc2
      refine ⟨enc x, fun j u hu => ?_, hrd _ _ _⟩
      have hput := flat_put (s := c.cod.size) hfl.size xs k x j u hk hu
      have hj : k * c.cod.size + j < (xs.flatMap enc).length := (List.getElem?_eq_some_iff.1 hput).1
      simp only [List.nil_append, List.append_toArray, ← Array.getElem?_toList]
      simp only [Array.toList_append, List.nil_append]
      rw [List.getElem?_append_left (by simpa using hj)]
      simpa using hput
    · exact ((Below.refl _ _).drew).alloc (Nat.le_refl _) _
  · obtain rfl : xs = [] := List.eq_nil_of_length_eq_zero (by omega)
    have hr := run_append_nothing (P := P) w t t ty e i ht hi0 (some ⟨g, 0, none⟩) 0 0 (Nat.le_refl _) (.slice A 0 cap) (by cases A with | none => exact Src.ofNil w ht cap | some a => exact Src.ofSlice w ht a 0 cap [] (by simp) (fun j u hu => by simp at hu) (fun u hu => by simp at hu))
    exact ⟨_, _, _, hr, ⟨_, _, rfl, Nat.le_refl _, by unfold maxLen; omega, fun h0 => by simp at h0⟩, Below.refl _ _⟩

def CloneRow {α : Type} (c : OCod α) (t : TypeId) (f : FuncId) : Prop := ∀ (F : Nat → Prop) (v : Value) (xs : List α) (w : World), c.cod.Sl F w v xs → (∀ b, F b → b < w.heap.size) → xs.length ≤ 2000000 →
    Calls Tryd.prog f #[v] w fun e w' => ∃ A' c', e = .returned (.slice A' xs.length c') ∧ MadeO c t w w' (.slice A' xs.length c') xs

set_option maxRecDepth 100000 in
set_option maxHeartbeats 1000000 in
theorem clone_str : CloneRow OCod.str 9 33 := by
  intro F v xs w h hF hn
  have HS := Lib.hid h
  obtain ⟨A, cap, rfl, hlc, hcm, hx⟩ := h
  unfold maxLen at hcm
  cases A with
  | none =>
    obtain rfl : xs = [] := List.eq_nil_of_length_eq_zero (by
      rcases Nat.eq_zero_or_pos xs.length with h0 | h0
      · exact h0
      · obtain ⟨_, _, h1, _⟩ := hx h0; cases h1)
    have HQ := Lib.hid (show MadeO OCod.str 9 w w (.slice none 0 0) [] from ⟨⟨_, _, rfl, Nat.le_refl _, by unfold maxLen; omega, fun h0 => by simp at h0⟩, Below.refl _ _⟩)
    have heq := run_eql_slice_nil (P := Tryd.prog) w 49 9 none 0 cap Tryd.underlying49
    rw [Option.isNone_none] at heq
    clear hx HS
    go_enter Tryd.func33, Tryd.ntmps33
    go_wp2
    go_ret
    exact ⟨none, 0, rfl, HQ.out⟩
  | some a =>
    obtain ⟨w1, hw1⟩ : ∃ w1, w1 = w.alloc (.cells #[] 9) := ⟨_, rfl⟩
    have hb1 : Below w.heap.size w w1 := by rw [hw1]; exact (Below.refl _ _).alloc (Nat.le_refl _) _
    obtain ⟨A', c', w2, happ, hM⟩ := append_clone (P := Tryd.prog) flat_str 49 49 9 _ 1 16 Tryd.underlying49 info_str rfl (by omega) F _ xs w1 (HS.out.keep (below_keeps hb1 hF)) hn w.heap.size
    have HM := Lib.hid (show MadeO OCod.str 9 w w2 (.slice A' xs.length c') xs from ⟨hM.1.mono hb1.size (Nat.le_refl _), hb1.trans (hM.2.mono hb1.size)⟩)
    rw [hw1] at happ
    have heq := run_eql_slice_nil (P := Tryd.prog) w 49 9 (some a) xs.length cap Tryd.underlying49
    rw [Option.isNone_some] at heq
    clear hx HS hM hb1 hw1
    go_enter Tryd.func33, Tryd.ntmps33
    go_wp2_with (at_builtin; refine wpList_append_run rfl _ _ _ rfl rfl rfl happ ?_)
    go_ret
    exact ⟨A', c', rfl, HM.out⟩

end Go.Proofs.YthkdkefkgmmoiaaDoor
