/-
  DERIVED. GIVEN WITH THE SEED: THE CARDS: each row of YtgfpncpphpkahaaDoorRows.lean that lists a variable, with what it lists TIED to the program's text (the seventh form; the later family's looks); each row that meets fmt, with fmt's text TOLD by the authors' own Lean function (tested against real Go, not proved from fmt's source: count such statements apart). THE CARD IS WHAT COUNTS. Prove the row's statement (the work); the ties are given (YtgfpncpphpkahaaDoorTie.lean); close each card by the builder's one call (the guide's Derived/Test/ToyasCard.lean, 'card_holds'). Laid BY PROGRAM, IN A SANDBOX (cutbox-door.mjs). By AI agents, Wed Nov 11 2026. No macro, syntax, notation, axiom, sorry.
-/
import Derived.Test.YtgfpncpphpkahaaDoorRows
import GoSem.ClaimSeven
namespace Go.Proofs.YtgfpncpphpkahaaDoor
namespace Rows

/-- THE TIED CARD OF 'laws.FnExactShapeFirst'. -/
def fnExactShapeFirstCard : Claim7 := { stood := { row := fnExactShapeFirstRow, standIns := [], harness := (true, "f1a3abb38f333082fc2c64d574c2ba271c18911d4a6c8887dd6ec3c438fcd491"), looks := false }, kinds := [], alts := [], laidByText := true, laidKinds := [.widerDeep], laidTests := true, laidLooks := .later }
def FnExactShapeFirstCardSaid : Prop := Claim7.holds Tryd.pinned (.plain (OpenSpec.ofChange fnExactShapeFirstSpec)) fnExactShapeFirstCard

/-- THE TIED CARD OF 'laws.FnExactShapeSame'. -/
def fnExactShapeSameCard : Claim7 := { stood := { row := fnExactShapeSameRow, standIns := [], harness := (true, "f1a3abb38f333082fc2c64d574c2ba271c18911d4a6c8887dd6ec3c438fcd491"), looks := false }, kinds := [], alts := [], laidByText := true, laidKinds := [.data, .data, .data], laidTests := true, laidLooks := .later }
def FnExactShapeSameCardSaid : Prop := Claim7.holds Tryd.pinned (.plain (OpenSpec.ofChange fnExactShapeSameSpec)) fnExactShapeSameCard

/-- THE TIED CARD OF 'laws.FnExactShapeText'. -/
def fnExactShapeTextCard : Claim7 := { stood := { row := fnExactShapeTextRow, standIns := [], harness := (true, "f1a3abb38f333082fc2c64d574c2ba271c18911d4a6c8887dd6ec3c438fcd491"), looks := false }, kinds := [], alts := [], laidByText := true, laidKinds := [.data, .data, .data], laidTests := true, laidLooks := .later }
def FnExactShapeTextCardSaid : Prop := Claim7.holds Tryd.pinned (.plain (OpenSpec.ofChange fnExactShapeTextSpec)) fnExactShapeTextCard

/-- THE SECOND FORM's CARD OF 'laws.FnExactShapeFirst'. -/
def fnExactShapeFirstUptoCard : Claim7 := { stood := { row := fnExactShapeFirstUptoRow, standIns := [], harness := (true, "f1a3abb38f333082fc2c64d574c2ba271c18911d4a6c8887dd6ec3c438fcd491"), looks := false }, kinds := [], alts := [], laidByText := true, laidKinds := [.widerDeep], laidTests := true, laidLooks := .later }
def FnExactShapeFirstUptoCardSaid : Prop := Claim7.holds Tryd.pinned (.plain (OpenSpec.upto fnExactShapeFirstSpec)) fnExactShapeFirstUptoCard

/-- THE SECOND FORM's CARD OF 'laws.FnExactShapeSame'. -/
def fnExactShapeSameUptoCard : Claim7 := { stood := { row := fnExactShapeSameUptoRow, standIns := [], harness := (true, "f1a3abb38f333082fc2c64d574c2ba271c18911d4a6c8887dd6ec3c438fcd491"), looks := false }, kinds := [], alts := [], laidByText := true, laidKinds := [.data, .data, .data], laidTests := true, laidLooks := .later }
def FnExactShapeSameUptoCardSaid : Prop := Claim7.holds Tryd.pinned (.plain (OpenSpec.upto fnExactShapeSameSpec)) fnExactShapeSameUptoCard

/-- THE SECOND FORM's CARD OF 'laws.FnExactShapeText'. -/
def fnExactShapeTextUptoCard : Claim7 := { stood := { row := fnExactShapeTextUptoRow, standIns := [], harness := (true, "f1a3abb38f333082fc2c64d574c2ba271c18911d4a6c8887dd6ec3c438fcd491"), looks := false }, kinds := [], alts := [], laidByText := true, laidKinds := [.data, .data, .data], laidTests := true, laidLooks := .later }
def FnExactShapeTextUptoCardSaid : Prop := Claim7.holds Tryd.pinned (.plain (OpenSpec.upto fnExactShapeTextSpec)) fnExactShapeTextUptoCard
end Rows
end Go.Proofs.YtgfpncpphpkahaaDoor
