/-
  DERIVED. GIVEN WITH THE SEED: THE CARDS: each row of YtnijedmnjmeciaaDoorRows.lean that lists a variable, with what it lists TIED to the program's text (the seventh form; the later family's looks); each row that meets fmt, with fmt's text TOLD by the authors' own Lean function (tested against real Go, not proved from fmt's source: count such statements apart). THE CARD IS WHAT COUNTS. Prove the row's statement (the work); the ties are given (YtnijedmnjmeciaaDoorTie.lean); close each card by the builder's one call (the guide's Derived/Test/ToyasCard.lean, 'card_holds'). Laid BY PROGRAM, IN A SANDBOX (cutbox-door.mjs). By AI agents, Wed Nov 11 2026. No macro, syntax, notation, axiom, sorry.
-/
import Derived.Test.YtnijedmnjmeciaaDoorRows
import GoSem.ClaimSeven
namespace Go.Proofs.YtnijedmnjmeciaaDoor
namespace Rows

/-- THE TIED CARD OF 'laws.FnExactStrokesText'. -/
def fnExactStrokesTextCard : Claim7 := { stood := { row := fnExactStrokesTextRow, standIns := [], harness := (true, "74b254c9ba2c7915f092bf68b7dd1272f1f2ae9dc0309f60d8e39194696fbda3"), looks := true }, kinds := [], alts := [], laidByText := true, laidKinds := [.data, .data, .data], laidTests := true, laidLooks := .later }
def FnExactStrokesTextCardSaid : Prop := Claim7.holds Tryd.pinned (.plain (OpenSpec.ofChange fnExactStrokesTextSpec)) fnExactStrokesTextCard

/-- THE TIED CARD OF 'laws.FnExactParseStrokes'. -/
def fnExactParseStrokesCard : Claim7 := { stood := { row := fnExactParseStrokesRow, standIns := [], harness := (true, "74b254c9ba2c7915f092bf68b7dd1272f1f2ae9dc0309f60d8e39194696fbda3"), looks := true }, kinds := [], alts := [], laidByText := true, laidKinds := [.data, .data, .data, .data, .sentinel, .sentinel, .pinned], laidTests := true, laidLooks := .later }
def FnExactParseStrokesCardSaid : Prop := Claim7.holds Tryd.pinned (.plain (OpenSpec.ofChange fnExactParseStrokesSpec)) fnExactParseStrokesCard

/-- THE TIED CARD OF 'laws.FnExactIsProper'. -/
def fnExactIsProperCard : Claim7 := { stood := { row := fnExactIsProperRow, standIns := [], harness := (true, "74b254c9ba2c7915f092bf68b7dd1272f1f2ae9dc0309f60d8e39194696fbda3"), looks := true }, kinds := [], alts := [], laidByText := true, laidKinds := [.data, .pinned], laidTests := true, laidLooks := .later }
def FnExactIsProperCardSaid : Prop := Claim7.holds Tryd.pinned (.plain (OpenSpec.ofChange fnExactIsProperSpec)) fnExactIsProperCard

/-- THE SECOND FORM's CARD OF 'laws.FnExactStrokesText'. -/
def fnExactStrokesTextUptoCard : Claim7 := { stood := { row := fnExactStrokesTextUptoRow, standIns := [], harness := (true, "74b254c9ba2c7915f092bf68b7dd1272f1f2ae9dc0309f60d8e39194696fbda3"), looks := true }, kinds := [], alts := [], laidByText := true, laidKinds := [.data, .data, .data], laidTests := true, laidLooks := .later }
def FnExactStrokesTextUptoCardSaid : Prop := Claim7.holds Tryd.pinned (.plain (OpenSpec.upto fnExactStrokesTextSpec)) fnExactStrokesTextUptoCard

/-- THE SECOND FORM's CARD OF 'laws.FnExactParseStrokes'. -/
def fnExactParseStrokesUptoCard : Claim7 := { stood := { row := fnExactParseStrokesUptoRow, standIns := [], harness := (true, "74b254c9ba2c7915f092bf68b7dd1272f1f2ae9dc0309f60d8e39194696fbda3"), looks := true }, kinds := [], alts := [], laidByText := true, laidKinds := [.data, .data, .data, .data, .sentinel, .sentinel, .pinned], laidTests := true, laidLooks := .later }
def FnExactParseStrokesUptoCardSaid : Prop := Claim7.holds Tryd.pinned (.plain (OpenSpec.upto fnExactParseStrokesSpec)) fnExactParseStrokesUptoCard

/-- THE SECOND FORM's CARD OF 'laws.FnExactIsProper'. -/
def fnExactIsProperUptoCard : Claim7 := { stood := { row := fnExactIsProperUptoRow, standIns := [], harness := (true, "74b254c9ba2c7915f092bf68b7dd1272f1f2ae9dc0309f60d8e39194696fbda3"), looks := true }, kinds := [], alts := [], laidByText := true, laidKinds := [.data, .pinned], laidTests := true, laidLooks := .later }
def FnExactIsProperUptoCardSaid : Prop := Claim7.holds Tryd.pinned (.plain (OpenSpec.upto fnExactIsProperSpec)) fnExactIsProperUptoCard
end Rows
end Go.Proofs.YtnijedmnjmeciaaDoor
