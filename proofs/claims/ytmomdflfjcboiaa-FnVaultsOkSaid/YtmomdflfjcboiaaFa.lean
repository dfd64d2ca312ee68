/- What is drawn for the laws of types; a code as an argument. -/
import Derived.Test.YtmomdflfjcboiaaDrawe
import Derived.Test.YtmomdflfjcboiaaFm
import Derived.Test.YtmomdflfjcboiaaFc
namespace Go.Proofs.Ytmomdflfjcboiaa
open Go.ChangeShapes Go.WideShapes Go.ChangeAt Go.RowKit Go.Deep

theorem Made.on {α : Type} {c : Cod α} {W w w' : World} {v : Value} {xs : List α} (h : Made c W w v xs) (hb : Below w.heap.size w w') : Made c W w' v xs :=
  ⟨(h.1.keep (below_keeps hb fun _ hb => hb.2)).mono fun _ hx => ⟨hx.1, Nat.lt_of_lt_of_le hx.2 hb.size⟩, h.2.trans (hb.mono h.2.size)⟩

/-- Drawn kinds, new. -/
def DrawnKs (W : World) (e : Ending) (w' : World) : Prop :=
  ∃ (ad cap : Nat) (ks : Ks), e = .returned (.slice (some ⟨ad, 0, none⟩) ks.length cap) ∧ Made Cod.recs W w' (.slice (some ⟨ad, 0, none⟩) ks.length cap) ks

theorem Step.old {g p N : Nat} {W w w' : World} (h : Step g p N w w') (hb : Below W.heap.size W w) (hg : W.heap.size ≤ g) : Below W.heap.size W w' := hb.trans (below_grown h.grown hg hb.size)

def KindS (g p N : Nat) (W0 W : World) (e : Ending) (w' : World) : Prop := ∃ t : ByteArray, t.size ≤ 50 ∧ e = .returned (.string t) ∧ Step g p (N + 30) W0 w' ∧ W.grownBy w' (some g)

/-- Drawn kinds and two texts. -/
def DrawnKtt (W : World) (e : Ending) (w' : World) : Prop :=
  ∃ (ad cap : Nat) (ks : Ks) (t inn : ByteArray), e = .returned (.tuple #[.slice (some ⟨ad, 0, none⟩) ks.length cap, .string t, .string inn]) ∧ t.size ≤ 50 ∧ inn.size ≤ 50 ∧ Made Cod.recs W w' (.slice (some ⟨ad, 0, none⟩) ks.length cap) ks

end Go.Proofs.Ytmomdflfjcboiaa
