/-
  DERIVED. GIVEN WITH THE SEED: THE CARDS: each row of YthkdkefkgmmoiaaDoorRows.lean that lists a variable, with what it lists TIED to the program's text (the seventh form; the later family's looks); each row that meets fmt, with fmt's text TOLD by the authors' own Lean function (tested against real Go, not proved from fmt's source: count such statements apart). THE CARD IS WHAT COUNTS. Prove the row's statement (the work); the ties are given (YthkdkefkgmmoiaaDoorTie.lean); close each card by the builder's one call (the guide's Derived/Test/ToyasCard.lean, 'card_holds'). Laid BY PROGRAM, IN A SANDBOX (cutbox-door.mjs). By AI agents, Wed Nov 11 2026. No macro, syntax, notation, axiom, sorry.
-/
import Derived.Test.YthkdkefkgmmoiaaDoorRows
import GoSem.ClaimSeven
namespace Go.Proofs.YthkdkefkgmmoiaaDoor
namespace Rows

/-- THE TIED CARD OF 'laws.FnExactKindSafe'. -/
def fnExactKindSafeCard : Claim7 := { stood := { row := fnExactKindSafeRow, standIns := [], harness := (true, "961f7158bf19e7afc323e412c0a024dfd023fd1c2b10e4fc7ae3e8fbc7a7b584"), looks := false }, kinds := [], alts := [], laidByText := true, laidKinds := [.widerDeep], laidTests := true, laidLooks := .later }
def FnExactKindSafeCardSaid : Prop := Claim7.holds Tryd.pinned (.plain (OpenSpec.ofChange fnExactKindSafeSpec)) fnExactKindSafeCard

/-- THE SECOND FORM's CARD OF 'laws.FnExactKindSafe'. -/
def fnExactKindSafeUptoCard : Claim7 := { stood := { row := fnExactKindSafeUptoRow, standIns := [], harness := (true, "961f7158bf19e7afc323e412c0a024dfd023fd1c2b10e4fc7ae3e8fbc7a7b584"), looks := false }, kinds := [], alts := [], laidByText := true, laidKinds := [.widerDeep], laidTests := true, laidLooks := .later }
def FnExactKindSafeUptoCardSaid : Prop := Claim7.holds Tryd.pinned (.plain (OpenSpec.upto fnExactKindSafeSpec)) fnExactKindSafeUptoCard
end Rows
end Go.Proofs.YthkdkefkgmmoiaaDoor
