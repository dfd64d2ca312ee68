/- Texts cut at a blank and read as numbers, by Go's library; what the row lists of it. -/
import Derived.Test.YtbjnjdhkillbiaaDoorShelg
import Derived.Test.YtbjnjdhkillbiaaDoorIth
import Derived.Test.YtbjnjdhkillbiaaDoorItc
import Derived.RowKitTokens
namespace Go.Proofs.YtbjnjdhkillbiaaDoor
open Go.ChangeShapes Go.WideShapes Go.ChangeAt Go.RowKit Go.Deep

/-- What Go's library reads in memory lies there. -/
structure LibAt (w : World) : Prop where
  most : ∃ m, w.cell? ⟨1, 0, none⟩ = some (.int .i64 m)
  syn : ∃ v, w.cell? ⟨2, 0, none⟩ = some v ∧ (v = .nilIface ∨ ∃ te pe, v = .iface te pe)
  rng : ∃ v, w.cell? ⟨3, 0, none⟩ = some v ∧ (v = .nilIface ∨ ∃ te pe, v = .iface te pe)
theorem LibAt.lt {w : World} (h : LibAt w) : 1 < w.heap.size ∧ 2 < w.heap.size ∧ 3 < w.heap.size := by
  obtain ⟨_, h1⟩ := h.most
  obtain ⟨_, h2, _⟩ := h.syn
  obtain ⟨_, h3, _⟩ := h.rng
  exact ⟨block_lt_of_cell h1, block_lt_of_cell h2, block_lt_of_cell h3⟩
theorem LibAt.below {w w' : World} (h : LibAt w) (hb : Below w.heap.size w w') : LibAt w' := by
  obtain ⟨g1, g2, g3⟩ := h.lt
  obtain ⟨m, h1⟩ := h.most
  obtain ⟨v2, h2, k2⟩ := h.syn
  obtain ⟨v3, h3, k3⟩ := h.rng
  exact ⟨⟨m, (hb.cell (p := ⟨_, 0, none⟩) g1).trans h1⟩, ⟨v2, (hb.cell (p := ⟨_, 0, none⟩) g2).trans h2, k2⟩, ⟨v3, (hb.cell (p := ⟨_, 0, none⟩) g3).trans h3, k3⟩⟩

theorem cut_any (s : ByteArray) (w : World) (h : LibAt w) (hs : s.size ≤ 2000000) :
    Calls Tryd.prog 55 #[.string s, .string ⟨#[32]⟩] w fun e w' => e = .returned (.tuple #[.string ⟨(Lib.cut s.data.toList [32]).1.toArray⟩, .string ⟨(Lib.cut s.data.toList [32]).2.1.toArray⟩, .bool (Lib.cut s.data.toList [32]).2.2]) ∧ Below w.heap.size w w' := by
  obtain ⟨m, hm⟩ := h.most
  refine (Any.strings_Cut { laysM145 with } s ⟨#[32]⟩ m w (by omega) hm).mono ?_
  rintro e w' ⟨rfl, n, rfl⟩
  exact ⟨rfl, below_drewN (Below.refl _ _) n⟩

theorem atoi_any (s : ByteArray) (w : World) (h : LibAt w) (hs : s.size ≤ 2000000) :
    Calls Tryd.prog 56 #[.string s] w fun e w' => ∃ er, e = .returned (.tuple #[.int .i64 (atoiV s.data.toList), er]) ∧ Below w.heap.size w w' := by
  obtain ⟨v2, h2, k2⟩ := h.syn
  obtain ⟨v3, h3, k3⟩ := h.rng
  unfold atoiV
  cases ha : Lib.atoiAll s.data.toList with
  | ok v =>
    refine (Any.strconv_Atoi_ok laysC172 s (by omega) v ha w).mono ?_
    rintro e w' ⟨rfl, hw⟩
    refine ⟨_, rfl, ?_⟩
    rcases hw with rfl | ⟨t, rfl⟩
    · exact Below.refl _ _
    · exact Lib.bytesWorld_below _ _ _
  | «syntax» =>
    refine (Any.strconv_Atoi_syntax laysC172 s (by omega) ha v2 w h2 k2).mono ?_
    rintro e w' ⟨N, rfl, _, _, hb⟩
    exact ⟨_, rfl, hb⟩
  | range =>
    refine (Any.strconv_Atoi_range laysC172 s (by omega) ha v3 w h3 k3).mono ?_
    rintro e w' ⟨N, rfl, _, _, hb⟩
    exact ⟨_, rfl, hb⟩
theorem atoiV_I64 (l : List UInt8) : I64 (atoiV l) := by
  unfold atoiV I64
  cases ha : Lib.atoiAll l with
  | ok v => exact Lib.atoiAll_bounds ha
  | «syntax» => simp
  | range => exact Lib.atoiSat_bounds l

/-- An interface value, as a row lists it. -/
theorem iface_of_trod {P : Program} {t : TypeId} {ms : Array (String × TypeId)} (ht : P.underlying t = some (.interface ms)) {W : World} {sp : Nat → Bool} {fuel : Nat} {cs : List Value} {y : DataW Unit × List MemPlace} (h : DataW.trod (fun _ : TypeId × Value => ()) P W 0 sp false fuel t cs = some y) : ∃ v, cs = [v] ∧ (v = .nilIface ∨ ∃ te pe, v = .iface te pe) := by
  cases fuel with
  | zero => simp [DataW.trod] at h
  | succ n =>
    match cs, h with
    | [], h => simp [DataW.trod, ht] at h
    | [v], h =>
      refine ⟨v, rfl, ?_⟩
      cases v <;> simp [DataW.trod, ht] at h ⊢
    | _ :: _ :: _, h => simp [DataW.trod, ht] at h
theorem iface_of_reads {P : Program} {t : TypeId} {ms : Array (String × TypeId)} {W : World} {n : String} {g : Nat} {d : DataW Unit} (hg : P.globalNamed n = some g) (ht : (P.globals[g]?).map (·.type) = some t) (hi : P.underlying t = some (.interface ms)) (h : Lib.VarReads P W n d) : ∃ v, W.cell? ⟨g, 0, none⟩ = some v ∧ (v = .nilIface ∨ ∃ te pe, v = .iface te pe) := by
  obtain ⟨g', t', cs, fuel, p, hg', ht', hv, hr⟩ := h
  obtain rfl := Option.some.inj (hg.symm.trans hg')
  obtain rfl := Option.some.inj (ht.symm.trans ht')
  obtain ⟨v, hcs, hk⟩ := iface_of_trod hi hr
  exact ⟨v, by rw [World.var?_cell hg hv 0, ← Array.getElem?_toList, hcs]; rfl, hk⟩
end Go.Proofs.YtbjnjdhkillbiaaDoor
