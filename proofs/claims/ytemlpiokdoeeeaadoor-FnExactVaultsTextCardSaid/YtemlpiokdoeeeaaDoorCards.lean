/-
  DERIVED. GIVEN WITH THE SEED: THE CARDS: each row of YtemlpiokdoeeeaaDoorRows.lean that lists a variable, with what it lists TIED to the program's text (the seventh form; the later family's looks); each row that meets fmt, with fmt's text TOLD by the authors' own Lean function (tested against real Go, not proved from fmt's source: count such statements apart). THE CARD IS WHAT COUNTS. Prove the row's statement (the work); the ties are given (YtemlpiokdoeeeaaDoorTie.lean); close each card by the builder's one call (the guide's Derived/Test/ToyasCard.lean, 'card_holds'). Laid BY PROGRAM, IN A SANDBOX (cutbox-door.mjs). By AI agents, Wed Nov 11 2026. No macro, syntax, notation, axiom, sorry.
-/
import Derived.Test.YtemlpiokdoeeeaaDoorRows
import GoSem.ClaimSeven
namespace Go.Proofs.YtemlpiokdoeeeaaDoor
namespace Rows

/-- THE TIED CARD OF 'laws.FnExactVaultsText'. -/
def fnExactVaultsTextCard : Claim7 := { stood := { row := fnExactVaultsTextRow, standIns := [], harness := (true, "c27083878115867136527fef9c7c704882072580f564f5bb0114698f10bb3345"), looks := false }, kinds := [], alts := [], laidByText := true, laidKinds := [.data, .data, .data], laidTests := true, laidLooks := .later }
def FnExactVaultsTextCardSaid : Prop := Claim7.holds Tryd.pinned (.plain (OpenSpec.ofChange fnExactVaultsTextSpec)) fnExactVaultsTextCard

/-- THE SECOND FORM's CARD OF 'laws.FnExactVaultsText'. -/
def fnExactVaultsTextUptoCard : Claim7 := { stood := { row := fnExactVaultsTextUptoRow, standIns := [], harness := (true, "c27083878115867136527fef9c7c704882072580f564f5bb0114698f10bb3345"), looks := false }, kinds := [], alts := [], laidByText := true, laidKinds := [.data, .data, .data], laidTests := true, laidLooks := .later }
def FnExactVaultsTextUptoCardSaid : Prop := Claim7.holds Tryd.pinned (.plain (OpenSpec.upto fnExactVaultsTextSpec)) fnExactVaultsTextUptoCard
end Rows
end Go.Proofs.YtemlpiokdoeeeaaDoor
