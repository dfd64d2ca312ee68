/-
  DERIVED. GIVEN WITH THE SEED: THE CARDS: each row of YtbjnjdhkillbiaaDoorRows.lean that lists a variable, with what it lists TIED to the program's text (the seventh form; the later family's looks); each row that meets fmt, with fmt's text TOLD by the authors' own Lean function (tested against real Go, not proved from fmt's source: count such statements apart). THE CARD IS WHAT COUNTS. Prove the row's statement (the work); the ties are given (YtbjnjdhkillbiaaDoorTie.lean); close each card by the builder's one call (the guide's Derived/Test/ToyasCard.lean, 'card_holds'). Laid BY PROGRAM, IN A SANDBOX (cutbox-door.mjs). By AI agents, Wed Nov 11 2026. No macro, syntax, notation, axiom, sorry.
-/
import Derived.Test.YtbjnjdhkillbiaaDoorRows
import GoSem.ClaimSeven
namespace Go.Proofs.YtbjnjdhkillbiaaDoor
namespace Rows

/-- THE TIED CARD OF 'laws.FnValueOk'. -/
def fnValueOkCard : Claim7 := { stood := { row := fnValueOkRow, standIns := [], harness := (true, "31d0304fe57b0a5c495c9e7da426e40d3f42007a78c03c3e224e8c0616644e1e"), looks := true }, kinds := [], alts := [], laidByText := true, laidKinds := [.data, .data, .data], laidTests := true, laidLooks := .later }
def FnValueOkCardSaid : Prop := Claim7.holds Tryd.pinned (.plain (OpenSpec.ofChange fnValueOkSpec)) fnValueOkCard

/-- THE TIED CARD OF 'laws.FnInsOk'. -/
def fnInsOkCard : Claim7 := { stood := { row := fnInsOkRow, standIns := [], harness := (true, "31d0304fe57b0a5c495c9e7da426e40d3f42007a78c03c3e224e8c0616644e1e"), looks := true }, kinds := [], alts := [], laidByText := true, laidKinds := [.data, .data, .data, .widerDeep], laidTests := true, laidLooks := .later }
def FnInsOkCardSaid : Prop := Claim7.holds Tryd.pinned (.plain (OpenSpec.ofChange fnInsOkSpec)) fnInsOkCard

/-- THE TIED CARD OF 'laws.FnInsText'. -/
def fnInsTextCard : Claim7 := { stood := { row := fnInsTextRow, standIns := [], harness := (true, "31d0304fe57b0a5c495c9e7da426e40d3f42007a78c03c3e224e8c0616644e1e"), looks := true }, kinds := [], alts := [], laidByText := true, laidKinds := [.data, .data, .data, .sentinel, .sentinel, .widerDeep], laidTests := true, laidLooks := .later }
def FnInsTextCardSaid : Prop := Claim7.holds Tryd.pinned (.plain (OpenSpec.ofChange fnInsTextSpec)) fnInsTextCard

/-- THE TIED CARD OF 'laws.FnInsRead'. -/
def fnInsReadCard : Claim7 := { stood := { row := fnInsReadRow, standIns := [], harness := (true, "31d0304fe57b0a5c495c9e7da426e40d3f42007a78c03c3e224e8c0616644e1e"), looks := true }, kinds := [], alts := [], laidByText := true, laidKinds := [.data, .data, .data, .sentinel, .sentinel, .widerDeep], laidTests := true, laidLooks := .later }
def FnInsReadCardSaid : Prop := Claim7.holds Tryd.pinned (.plain (OpenSpec.ofChange fnInsReadSpec)) fnInsReadCard

/-- THE TIED CARD OF 'laws.FnInsWords'. -/
def fnInsWordsCard : Claim7 := { stood := { row := fnInsWordsRow, standIns := [], harness := (true, "31d0304fe57b0a5c495c9e7da426e40d3f42007a78c03c3e224e8c0616644e1e"), looks := true }, kinds := [], alts := [], laidByText := true, laidKinds := [.widerDeep], laidTests := true, laidLooks := .later }
def FnInsWordsCardSaid : Prop := Claim7.holds Tryd.pinned (.plain (OpenSpec.ofChange fnInsWordsSpec)) fnInsWordsCard

/-- THE TIED CARD OF 'laws.FnExactInsOk'. -/
def fnExactInsOkCard : Claim7 := { stood := { row := fnExactInsOkRow, standIns := [], harness := (true, "31d0304fe57b0a5c495c9e7da426e40d3f42007a78c03c3e224e8c0616644e1e"), looks := true }, kinds := [], alts := [], laidByText := true, laidKinds := [.widerDeep], laidTests := true, laidLooks := .later }
def FnExactInsOkCardSaid : Prop := Claim7.holds Tryd.pinned (.plain (OpenSpec.ofChange fnExactInsOkSpec)) fnExactInsOkCard

/-- THE TIED CARD OF 'laws.FnExactInsText'. -/
def fnExactInsTextCard : Claim7 := { stood := { row := fnExactInsTextRow, standIns := [], harness := (true, "31d0304fe57b0a5c495c9e7da426e40d3f42007a78c03c3e224e8c0616644e1e"), looks := true }, kinds := [], alts := [], laidByText := true, laidKinds := [.data, .data, .data, .widerDeep], laidTests := true, laidLooks := .later }
def FnExactInsTextCardSaid : Prop := Claim7.holds Tryd.pinned (.plain (OpenSpec.ofChange fnExactInsTextSpec)) fnExactInsTextCard

/-- THE TIED CARD OF 'laws.FnExactInsRead'. -/
def fnExactInsReadCard : Claim7 := { stood := { row := fnExactInsReadRow, standIns := [], harness := (true, "31d0304fe57b0a5c495c9e7da426e40d3f42007a78c03c3e224e8c0616644e1e"), looks := true }, kinds := [], alts := [], laidByText := true, laidKinds := [.data, .data, .data, .sentinel, .sentinel, .widerDeep], laidTests := true, laidLooks := .later }
def FnExactInsReadCardSaid : Prop := Claim7.holds Tryd.pinned (.plain (OpenSpec.ofChange fnExactInsReadSpec)) fnExactInsReadCard

/-- THE TIED CARD OF 'laws.FnExactInsWords'. -/
def fnExactInsWordsCard : Claim7 := { stood := { row := fnExactInsWordsRow, standIns := [], harness := (true, "31d0304fe57b0a5c495c9e7da426e40d3f42007a78c03c3e224e8c0616644e1e"), looks := true }, kinds := [], alts := [], laidByText := true, laidKinds := [.widerDeep], laidTests := true, laidLooks := .later }
def FnExactInsWordsCardSaid : Prop := Claim7.holds Tryd.pinned (.plain (OpenSpec.ofChange fnExactInsWordsSpec)) fnExactInsWordsCard

/-- THE SECOND FORM's CARD OF 'laws.FnValueOk'. -/
def fnValueOkUptoCard : Claim7 := { stood := { row := fnValueOkUptoRow, standIns := [], harness := (true, "31d0304fe57b0a5c495c9e7da426e40d3f42007a78c03c3e224e8c0616644e1e"), looks := true }, kinds := [], alts := [], laidByText := true, laidKinds := [.data, .data, .data], laidTests := true, laidLooks := .later }
def FnValueOkUptoCardSaid : Prop := Claim7.holds Tryd.pinned (.plain (OpenSpec.upto fnValueOkSpec)) fnValueOkUptoCard

/-- THE SECOND FORM's CARD OF 'laws.FnInsOk'. -/
def fnInsOkUptoCard : Claim7 := { stood := { row := fnInsOkUptoRow, standIns := [], harness := (true, "31d0304fe57b0a5c495c9e7da426e40d3f42007a78c03c3e224e8c0616644e1e"), looks := true }, kinds := [], alts := [], laidByText := true, laidKinds := [.data, .data, .data, .widerDeep], laidTests := true, laidLooks := .later }
def FnInsOkUptoCardSaid : Prop := Claim7.holds Tryd.pinned (.plain (OpenSpec.upto fnInsOkSpec)) fnInsOkUptoCard

/-- THE SECOND FORM's CARD OF 'laws.FnInsText'. -/
def fnInsTextUptoCard : Claim7 := { stood := { row := fnInsTextUptoRow, standIns := [], harness := (true, "31d0304fe57b0a5c495c9e7da426e40d3f42007a78c03c3e224e8c0616644e1e"), looks := true }, kinds := [], alts := [], laidByText := true, laidKinds := [.data, .data, .data, .sentinel, .sentinel, .widerDeep], laidTests := true, laidLooks := .later }
def FnInsTextUptoCardSaid : Prop := Claim7.holds Tryd.pinned (.plain (OpenSpec.upto fnInsTextSpec)) fnInsTextUptoCard

/-- THE SECOND FORM's CARD OF 'laws.FnInsRead'. -/
def fnInsReadUptoCard : Claim7 := { stood := { row := fnInsReadUptoRow, standIns := [], harness := (true, "31d0304fe57b0a5c495c9e7da426e40d3f42007a78c03c3e224e8c0616644e1e"), looks := true }, kinds := [], alts := [], laidByText := true, laidKinds := [.data, .data, .data, .sentinel, .sentinel, .widerDeep], laidTests := true, laidLooks := .later }
def FnInsReadUptoCardSaid : Prop := Claim7.holds Tryd.pinned (.plain (OpenSpec.upto fnInsReadSpec)) fnInsReadUptoCard

/-- THE SECOND FORM's CARD OF 'laws.FnInsWords'. -/
def fnInsWordsUptoCard : Claim7 := { stood := { row := fnInsWordsUptoRow, standIns := [], harness := (true, "31d0304fe57b0a5c495c9e7da426e40d3f42007a78c03c3e224e8c0616644e1e"), looks := true }, kinds := [], alts := [], laidByText := true, laidKinds := [.widerDeep], laidTests := true, laidLooks := .later }
def FnInsWordsUptoCardSaid : Prop := Claim7.holds Tryd.pinned (.plain (OpenSpec.upto fnInsWordsSpec)) fnInsWordsUptoCard

/-- THE SECOND FORM's CARD OF 'laws.FnExactInsOk'. -/
def fnExactInsOkUptoCard : Claim7 := { stood := { row := fnExactInsOkUptoRow, standIns := [], harness := (true, "31d0304fe57b0a5c495c9e7da426e40d3f42007a78c03c3e224e8c0616644e1e"), looks := true }, kinds := [], alts := [], laidByText := true, laidKinds := [.widerDeep], laidTests := true, laidLooks := .later }
def FnExactInsOkUptoCardSaid : Prop := Claim7.holds Tryd.pinned (.plain (OpenSpec.upto fnExactInsOkSpec)) fnExactInsOkUptoCard

/-- THE SECOND FORM's CARD OF 'laws.FnExactInsText'. -/
def fnExactInsTextUptoCard : Claim7 := { stood := { row := fnExactInsTextUptoRow, standIns := [], harness := (true, "31d0304fe57b0a5c495c9e7da426e40d3f42007a78c03c3e224e8c0616644e1e"), looks := true }, kinds := [], alts := [], laidByText := true, laidKinds := [.data, .data, .data, .widerDeep], laidTests := true, laidLooks := .later }
def FnExactInsTextUptoCardSaid : Prop := Claim7.holds Tryd.pinned (.plain (OpenSpec.upto fnExactInsTextSpec)) fnExactInsTextUptoCard

/-- THE SECOND FORM's CARD OF 'laws.FnExactInsRead'. -/
def fnExactInsReadUptoCard : Claim7 := { stood := { row := fnExactInsReadUptoRow, standIns := [], harness := (true, "31d0304fe57b0a5c495c9e7da426e40d3f42007a78c03c3e224e8c0616644e1e"), looks := true }, kinds := [], alts := [], laidByText := true, laidKinds := [.data, .data, .data, .sentinel, .sentinel, .widerDeep], laidTests := true, laidLooks := .later }
def FnExactInsReadUptoCardSaid : Prop := Claim7.holds Tryd.pinned (.plain (OpenSpec.upto fnExactInsReadSpec)) fnExactInsReadUptoCard

/-- THE SECOND FORM's CARD OF 'laws.FnExactInsWords'. -/
def fnExactInsWordsUptoCard : Claim7 := { stood := { row := fnExactInsWordsUptoRow, standIns := [], harness := (true, "31d0304fe57b0a5c495c9e7da426e40d3f42007a78c03c3e224e8c0616644e1e"), looks := true }, kinds := [], alts := [], laidByText := true, laidKinds := [.widerDeep], laidTests := true, laidLooks := .later }
def FnExactInsWordsUptoCardSaid : Prop := Claim7.holds Tryd.pinned (.plain (OpenSpec.upto fnExactInsWordsSpec)) fnExactInsWordsUptoCard
end Rows
end Go.Proofs.YtbjnjdhkillbiaaDoor
