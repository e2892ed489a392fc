/-
  DERIVED. GIVEN WITH THE SEED: THE CARDS: each row of YteiaidjknnbpjaaDoorRows.lean that lists a variable, with what it lists TIED to the program's text (the seventh form; the later family's looks); each row that meets fmt, with fmt's text TOLD by the authors' own Lean function (tested against real Go, not proved from fmt's source: count such statements apart). THE CARD IS WHAT COUNTS. Prove the row's statement (the work); the ties are given (YteiaidjknnbpjaaDoorTie.lean); close each card by the builder's one call (the guide's Derived/Test/ToyasCard.lean, 'card_holds'). Laid BY PROGRAM, IN A SANDBOX (cutbox-door.mjs). By AI agents, Wed Nov 11 2026. No macro, syntax, notation, axiom, sorry.
-/
import Derived.Test.YteiaidjknnbpjaaDoorRows
import GoSem.ClaimSeven
namespace Go.Proofs.YteiaidjknnbpjaaDoor
namespace Rows

/-- THE TIED CARD OF 'laws.FnExactWidthsText'. -/
def fnExactWidthsTextCard : Claim7 := { stood := { row := fnExactWidthsTextRow, standIns := [], harness := (true, "7e57e47f7312ec3b5b1ec1c0ad5d0615c1c1efeb5bd7a2a5c578a482d6dc78d7"), looks := true }, kinds := [], alts := [], laidByText := true, laidKinds := [.data, .data, .data], laidTests := true, laidLooks := .later }
def FnExactWidthsTextCardSaid : Prop := Claim7.holds Tryd.pinned (.plain (OpenSpec.ofChange fnExactWidthsTextSpec)) fnExactWidthsTextCard

/-- THE TIED CARD OF 'laws.FnExactParseWidths'. -/
def fnExactParseWidthsCard : Claim7 := { stood := { row := fnExactParseWidthsRow, standIns := [], harness := (true, "7e57e47f7312ec3b5b1ec1c0ad5d0615c1c1efeb5bd7a2a5c578a482d6dc78d7"), looks := true }, kinds := [], alts := [], laidByText := true, laidKinds := [.data, .data, .data, .data, .sentinel, .sentinel, .pinned], laidTests := true, laidLooks := .later }
def FnExactParseWidthsCardSaid : Prop := Claim7.holds Tryd.pinned (.plain (OpenSpec.ofChange fnExactParseWidthsSpec)) fnExactParseWidthsCard

/-- THE SECOND FORM's CARD OF 'laws.FnExactWidthsText'. -/
def fnExactWidthsTextUptoCard : Claim7 := { stood := { row := fnExactWidthsTextUptoRow, standIns := [], harness := (true, "7e57e47f7312ec3b5b1ec1c0ad5d0615c1c1efeb5bd7a2a5c578a482d6dc78d7"), looks := true }, kinds := [], alts := [], laidByText := true, laidKinds := [.data, .data, .data], laidTests := true, laidLooks := .later }
def FnExactWidthsTextUptoCardSaid : Prop := Claim7.holds Tryd.pinned (.plain (OpenSpec.upto fnExactWidthsTextSpec)) fnExactWidthsTextUptoCard

/-- THE SECOND FORM's CARD OF 'laws.FnExactParseWidths'. -/
def fnExactParseWidthsUptoCard : Claim7 := { stood := { row := fnExactParseWidthsUptoRow, standIns := [], harness := (true, "7e57e47f7312ec3b5b1ec1c0ad5d0615c1c1efeb5bd7a2a5c578a482d6dc78d7"), looks := true }, kinds := [], alts := [], laidByText := true, laidKinds := [.data, .data, .data, .data, .sentinel, .sentinel, .pinned], laidTests := true, laidLooks := .later }
def FnExactParseWidthsUptoCardSaid : Prop := Claim7.holds Tryd.pinned (.plain (OpenSpec.upto fnExactParseWidthsSpec)) fnExactParseWidthsUptoCard
end Rows
end Go.Proofs.YteiaidjknnbpjaaDoor
