/-
  DERIVED. GIVEN WITH THE SEED: THE CARDS: each row of YtmomdflfjcboiaaDoorRows.lean that lists a variable, with what it lists TIED to the program's text (the seventh form; the later family's looks); each row that meets fmt, with fmt's text TOLD by the authors' own Lean function (tested against real Go, not proved from fmt's source: count such statements apart). THE CARD IS WHAT COUNTS. Prove the row's statement (the work); the ties are given (YtmomdflfjcboiaaDoorTie.lean); close each card by the builder's one call (the guide's Derived/Test/ToyasCard.lean, 'card_holds'). Laid BY PROGRAM, IN A SANDBOX (cutbox-door.mjs). By AI agents, Wed Nov 11 2026. No macro, syntax, notation, axiom, sorry.
-/
import Derived.Test.YtmomdflfjcboiaaDoorRows
import GoSem.ClaimSeven
namespace Go.Proofs.YtmomdflfjcboiaaDoor
namespace Rows

/-- THE TIED CARD OF 'laws.FnExactShapeFirst'. -/
def fnExactShapeFirstCard : Claim7 := { stood := { row := fnExactShapeFirstRow, standIns := [], harness := (true, "b4a4b62d8147ed31d9b850f46bdec82352077f7f04506a97395d5a175098ef33"), looks := false }, kinds := [], alts := [], laidByText := true, laidKinds := [.widerDeep], laidTests := true, laidLooks := .later }
def FnExactShapeFirstCardSaid : Prop := Claim7.holds Tryd.pinned (.plain (OpenSpec.ofChange fnExactShapeFirstSpec)) fnExactShapeFirstCard

/-- THE SECOND FORM's CARD OF 'laws.FnExactShapeFirst'. -/
def fnExactShapeFirstUptoCard : Claim7 := { stood := { row := fnExactShapeFirstUptoRow, standIns := [], harness := (true, "b4a4b62d8147ed31d9b850f46bdec82352077f7f04506a97395d5a175098ef33"), looks := false }, kinds := [], alts := [], laidByText := true, laidKinds := [.widerDeep], laidTests := true, laidLooks := .later }
def FnExactShapeFirstUptoCardSaid : Prop := Claim7.holds Tryd.pinned (.plain (OpenSpec.upto fnExactShapeFirstSpec)) fnExactShapeFirstUptoCard
end Rows
end Go.Proofs.YtmomdflfjcboiaaDoor
