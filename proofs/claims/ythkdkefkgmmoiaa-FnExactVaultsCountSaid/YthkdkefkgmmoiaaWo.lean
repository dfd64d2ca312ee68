/- Vaults as arguments: from the form's reading to the kit's. -/
import Derived.Test.YthkdkefkgmmoiaaWb
import Derived.Test.YthkdkefkgmmoiaaVlk
namespace Go.Proofs.Ythkdkefkgmmoiaa
open Go.ChangeShapes Go.WideShapes Go.ChangeAt Go.RowKit Go.Deep

theorem cells_lkept : Try.prog.cellsOf 87 = 5 := by kernel_rfl
set_option maxRecDepth 100000 in
theorem opens_kept {H : Type} {enc : TypeId × Value → H} {w : World} {sp : Nat → Bool} {held : Bool} (fuel : Nat) (cs : List Value) (x : DataW H × List MemPlace) (h : DataW.trod enc Try.prog w 0 sp held fuel 87 cs = some x) : ∃ y, (Cod.kept (Cod.val fuel)).rd (Old w) w cs y := by
  obtain ⟨xs, n, rfl, hx, hl, hlen, hfl⟩ := DataW.trod_struct Try.underlying87 h
  rw [cells_lkept] at hl
  match cs, hl with
  | [a0, a1, a2, a3, a4], _ =>
    match xs, hlen with
    | [y0, y1], _ =>
      have h0 : DataW.trod _ _ _ _ _ _ n 3 (([a0, a1, a2, a3, a4].drop 0).take (Try.prog.cellsOf 3)) = some y0 := hfl 0 _ rfl
      have h1 : DataW.trod _ _ _ _ _ _ n 85 (([a0, a1, a2, a3, a4].drop 1).take (Try.prog.cellsOf 85)) = some y1 := hfl 1 _ rfl
      simp only [cells_int, cells_val] at h0 h1
      obtain ⟨q, hq, _, hw⟩ := DataW.trod_int Try.underlying3 h0
      obtain ⟨y, hy⟩ := opens_val (n + 1) n (Nat.lt_succ_self _) _ _ h1
      cases n with
      | zero => exact hy.elim
      | succ n =>
        obtain ⟨a, p, hc, hV⟩ := val_succ (n + 1) hy
        simp at hq hc
        subst hq
        obtain ⟨rfl, rfl, rfl, rfl⟩ := hc
        refine ⟨⟨q, y⟩, _, _, rfl, wf_I64 hw, hV.ty, hV.n, hV.parts.imp (by rw [val_size, val_size]) (fun h => val_succ _ h), hV.path⟩

set_option maxRecDepth 100000 in
/-- Vaults, as an argument. -/
theorem open_kept {H : Type} {enc : TypeId × Value → H} {w : World} {v : Value} {dd : DataW H} {p : List MemPlace} {base : Nat} (hv : Value.okWide Try.prog w .any base 52 v) (h : DataW.Trod enc Try.prog w 0 (fun _ => true) true 52 v dd p) :
    ∃ (D : Nat) (xs : List KepR), (Cod.kept (Cod.val D)).Sl (Old w) w v xs := by
  obtain ⟨a, l, c, rfl⟩ := okWide_slice Try.underlying52 hv
  obtain ⟨fuel, hf⟩ := h
  obtain ⟨v, xs, hv, hs⟩ := sl_readN (c := Cod.kept (Cod.val fuel)) Try.underlying52 (by rw [cells_lkept]; rfl) (by show 0 < 5; decide) (fun k hk cs x hx => by
    obtain ⟨y, hy⟩ := opens_kept k cs x hx
    obtain ⟨a, p, hc, h0, hV⟩ := hy
    exact ⟨y, a, p, hc, h0, hV.ty, hV.n, hV.parts.imp (by rw [val_size, val_size]) (fun h => val_le (by omega) h), hV.path⟩) hf
  simp [Value.cells] at hv
  subst hv
  exact ⟨fuel, xs, hs⟩
end Go.Proofs.Ythkdkefkgmmoiaa
