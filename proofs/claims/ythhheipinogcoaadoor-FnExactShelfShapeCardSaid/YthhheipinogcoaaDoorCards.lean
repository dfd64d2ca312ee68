/-
  DERIVED. GIVEN WITH THE SEED: THE CARDS: each row of YthhheipinogcoaaDoorRows.lean that lists a variable, with what it lists TIED to the program's text (the seventh form; the later family's looks); each row that meets fmt, with fmt's text TOLD by the authors' own Lean function (tested against real Go, not proved from fmt's source: count such statements apart). THE CARD IS WHAT COUNTS. Prove the row's statement (the work); the ties are given (YthhheipinogcoaaDoorTie.lean); close each card by the builder's one call (the guide's Derived/Test/ToyasCard.lean, 'card_holds'). Laid BY PROGRAM, IN A SANDBOX (cutbox-door.mjs). By AI agents, Wed Nov 11 2026. No macro, syntax, notation, axiom, sorry.
-/
import Derived.Test.YthhheipinogcoaaDoorRows
import GoSem.ClaimSeven
namespace Go.Proofs.YthhheipinogcoaaDoor
namespace Rows

/-- THE TIED CARD OF 'laws.FnExactShelfShape'. -/
def fnExactShelfShapeCard : Claim7 := { stood := { row := fnExactShelfShapeRow, standIns := [], harness := (true, "7df8a25c291a9901e7ac90c200f900804865faa11b12c21aeba4e399df6adb7b"), looks := false }, kinds := [], alts := [], laidByText := true, laidKinds := [.widerDeep], laidTests := true, laidLooks := .later }
def FnExactShelfShapeCardSaid : Prop := Claim7.holds Tryd.pinned (.plain (OpenSpec.ofChange fnExactShelfShapeSpec)) fnExactShelfShapeCard

/-- THE SECOND FORM's CARD OF 'laws.FnExactShelfShape'. -/
def fnExactShelfShapeUptoCard : Claim7 := { stood := { row := fnExactShelfShapeUptoRow, standIns := [], harness := (true, "7df8a25c291a9901e7ac90c200f900804865faa11b12c21aeba4e399df6adb7b"), looks := false }, kinds := [], alts := [], laidByText := true, laidKinds := [.widerDeep], laidTests := true, laidLooks := .later }
def FnExactShelfShapeUptoCardSaid : Prop := Claim7.holds Tryd.pinned (.plain (OpenSpec.upto fnExactShelfShapeSpec)) fnExactShelfShapeUptoCard
end Rows
end Go.Proofs.YthhheipinogcoaaDoor
