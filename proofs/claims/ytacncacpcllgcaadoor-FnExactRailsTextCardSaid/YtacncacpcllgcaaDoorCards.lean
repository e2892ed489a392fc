/-
  DERIVED. GIVEN WITH THE SEED: THE CARDS: each row of YtacncacpcllgcaaDoorRows.lean that lists a variable, with what it lists TIED to the program's text (the seventh form; the later family's looks); each row that meets fmt, with fmt's text TOLD by the authors' own Lean function (tested against real Go, not proved from fmt's source: count such statements apart). THE CARD IS WHAT COUNTS. Prove the row's statement (the work); the ties are given (YtacncacpcllgcaaDoorTie.lean); close each card by the builder's one call (the guide's Derived/Test/ToyasCard.lean, 'card_holds'). Laid BY PROGRAM, IN A SANDBOX (cutbox-door.mjs). By AI agents, Wed Nov 11 2026. No macro, syntax, notation, axiom, sorry.
-/
import Derived.Test.YtacncacpcllgcaaDoorRows
import GoSem.ClaimSeven
namespace Go.Proofs.YtacncacpcllgcaaDoor
namespace Rows

/-- THE TIED CARD OF 'laws.FnExactRailsText'. -/
def fnExactRailsTextCard : Claim7 := { stood := { row := fnExactRailsTextRow, standIns := [], harness := (true, "cc8aa98741494402fa4b65b39cc567a7f5fdf9603183b9c5796a181673e2f1a6"), looks := true }, kinds := [], alts := [], laidByText := true, laidKinds := [.data, .data, .data], laidTests := true, laidLooks := .later }
def FnExactRailsTextCardSaid : Prop := Claim7.holds Tryd.pinned (.plain (OpenSpec.ofChange fnExactRailsTextSpec)) fnExactRailsTextCard

/-- THE TIED CARD OF 'laws.FnExactParseRails'. -/
def fnExactParseRailsCard : Claim7 := { stood := { row := fnExactParseRailsRow, standIns := [], harness := (true, "cc8aa98741494402fa4b65b39cc567a7f5fdf9603183b9c5796a181673e2f1a6"), looks := true }, kinds := [], alts := [], laidByText := true, laidKinds := [.data, .data, .data, .data, .sentinel, .sentinel, .pinned], laidTests := true, laidLooks := .later }
def FnExactParseRailsCardSaid : Prop := Claim7.holds Tryd.pinned (.plain (OpenSpec.ofChange fnExactParseRailsSpec)) fnExactParseRailsCard

/-- THE SECOND FORM's CARD OF 'laws.FnExactRailsText'. -/
def fnExactRailsTextUptoCard : Claim7 := { stood := { row := fnExactRailsTextUptoRow, standIns := [], harness := (true, "cc8aa98741494402fa4b65b39cc567a7f5fdf9603183b9c5796a181673e2f1a6"), looks := true }, kinds := [], alts := [], laidByText := true, laidKinds := [.data, .data, .data], laidTests := true, laidLooks := .later }
def FnExactRailsTextUptoCardSaid : Prop := Claim7.holds Tryd.pinned (.plain (OpenSpec.upto fnExactRailsTextSpec)) fnExactRailsTextUptoCard

/-- THE SECOND FORM's CARD OF 'laws.FnExactParseRails'. -/
def fnExactParseRailsUptoCard : Claim7 := { stood := { row := fnExactParseRailsUptoRow, standIns := [], harness := (true, "cc8aa98741494402fa4b65b39cc567a7f5fdf9603183b9c5796a181673e2f1a6"), looks := true }, kinds := [], alts := [], laidByText := true, laidKinds := [.data, .data, .data, .data, .sentinel, .sentinel, .pinned], laidTests := true, laidLooks := .later }
def FnExactParseRailsUptoCardSaid : Prop := Claim7.holds Tryd.pinned (.plain (OpenSpec.upto fnExactParseRailsSpec)) fnExactParseRailsUptoCard
end Rows
end Go.Proofs.YtacncacpcllgcaaDoor
