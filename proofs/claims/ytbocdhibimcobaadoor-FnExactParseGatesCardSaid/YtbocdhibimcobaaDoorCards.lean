/-
  DERIVED. GIVEN WITH THE SEED: THE CARDS: each row of YtbocdhibimcobaaDoorRows.lean that lists a variable, with what it lists TIED to the program's text (the seventh form; the later family's looks); each row that meets fmt, with fmt's text TOLD by the authors' own Lean function (tested against real Go, not proved from fmt's source: count such statements apart). THE CARD IS WHAT COUNTS. Prove the row's statement (the work); the ties are given (YtbocdhibimcobaaDoorTie.lean); close each card by the builder's one call (the guide's Derived/Test/ToyasCard.lean, 'card_holds'). Laid BY PROGRAM, IN A SANDBOX (cutbox-door.mjs). By AI agents, Wed Nov 11 2026. No macro, syntax, notation, axiom, sorry.
-/
import Derived.Test.YtbocdhibimcobaaDoorRows
import GoSem.ClaimSeven
namespace Go.Proofs.YtbocdhibimcobaaDoor
namespace Rows

/-- THE TIED CARD OF 'laws.FnExactGatesText'. -/
def fnExactGatesTextCard : Claim7 := { stood := { row := fnExactGatesTextRow, standIns := [], harness := (true, "6881947d492b37a0f7cc539027965a45bb110da8b532b9dbc7ed1c773496a13f"), looks := true }, kinds := [], alts := [], laidByText := true, laidKinds := [.data, .data, .data], laidTests := true, laidLooks := .later }
def FnExactGatesTextCardSaid : Prop := Claim7.holds Tryd.pinned (.plain (OpenSpec.ofChange fnExactGatesTextSpec)) fnExactGatesTextCard

/-- THE TIED CARD OF 'laws.FnExactParseGates'. -/
def fnExactParseGatesCard : Claim7 := { stood := { row := fnExactParseGatesRow, standIns := [], harness := (true, "6881947d492b37a0f7cc539027965a45bb110da8b532b9dbc7ed1c773496a13f"), looks := true }, kinds := [], alts := [], laidByText := true, laidKinds := [.data, .data, .data, .data, .sentinel, .sentinel, .pinned], laidTests := true, laidLooks := .later }
def FnExactParseGatesCardSaid : Prop := Claim7.holds Tryd.pinned (.plain (OpenSpec.ofChange fnExactParseGatesSpec)) fnExactParseGatesCard

/-- THE TIED CARD OF 'laws.FnExactWidthsText'. -/
def fnExactWidthsTextCard : Claim7 := { stood := { row := fnExactWidthsTextRow, standIns := [], harness := (true, "6881947d492b37a0f7cc539027965a45bb110da8b532b9dbc7ed1c773496a13f"), looks := true }, kinds := [], alts := [], laidByText := true, laidKinds := [.data, .data, .data], laidTests := true, laidLooks := .later }
def FnExactWidthsTextCardSaid : Prop := Claim7.holds Tryd.pinned (.plain (OpenSpec.ofChange fnExactWidthsTextSpec)) fnExactWidthsTextCard

/-- THE TIED CARD OF 'laws.FnExactParseWidths'. -/
def fnExactParseWidthsCard : Claim7 := { stood := { row := fnExactParseWidthsRow, standIns := [], harness := (true, "6881947d492b37a0f7cc539027965a45bb110da8b532b9dbc7ed1c773496a13f"), looks := true }, kinds := [], alts := [], laidByText := true, laidKinds := [.data, .data, .data, .data, .sentinel, .sentinel, .pinned], laidTests := true, laidLooks := .later }
def FnExactParseWidthsCardSaid : Prop := Claim7.holds Tryd.pinned (.plain (OpenSpec.ofChange fnExactParseWidthsSpec)) fnExactParseWidthsCard

/-- THE TIED CARD OF 'laws.FnExactRailsText'. -/
def fnExactRailsTextCard : Claim7 := { stood := { row := fnExactRailsTextRow, standIns := [], harness := (true, "6881947d492b37a0f7cc539027965a45bb110da8b532b9dbc7ed1c773496a13f"), looks := true }, kinds := [], alts := [], laidByText := true, laidKinds := [.data, .data, .data], laidTests := true, laidLooks := .later }
def FnExactRailsTextCardSaid : Prop := Claim7.holds Tryd.pinned (.plain (OpenSpec.ofChange fnExactRailsTextSpec)) fnExactRailsTextCard

/-- THE TIED CARD OF 'laws.FnExactParseRails'. -/
def fnExactParseRailsCard : Claim7 := { stood := { row := fnExactParseRailsRow, standIns := [], harness := (true, "6881947d492b37a0f7cc539027965a45bb110da8b532b9dbc7ed1c773496a13f"), looks := true }, kinds := [], alts := [], laidByText := true, laidKinds := [.data, .data, .data, .data, .sentinel, .sentinel, .pinned], laidTests := true, laidLooks := .later }
def FnExactParseRailsCardSaid : Prop := Claim7.holds Tryd.pinned (.plain (OpenSpec.ofChange fnExactParseRailsSpec)) fnExactParseRailsCard

/-- THE TIED CARD OF 'laws.FnExactHeightsText'. -/
def fnExactHeightsTextCard : Claim7 := { stood := { row := fnExactHeightsTextRow, standIns := [], harness := (true, "6881947d492b37a0f7cc539027965a45bb110da8b532b9dbc7ed1c773496a13f"), looks := true }, kinds := [], alts := [], laidByText := true, laidKinds := [.data, .data, .data], laidTests := true, laidLooks := .later }
def FnExactHeightsTextCardSaid : Prop := Claim7.holds Tryd.pinned (.plain (OpenSpec.ofChange fnExactHeightsTextSpec)) fnExactHeightsTextCard

/-- THE TIED CARD OF 'laws.FnExactParseHeights'. -/
def fnExactParseHeightsCard : Claim7 := { stood := { row := fnExactParseHeightsRow, standIns := [], harness := (true, "6881947d492b37a0f7cc539027965a45bb110da8b532b9dbc7ed1c773496a13f"), looks := true }, kinds := [], alts := [], laidByText := true, laidKinds := [.data, .data, .data, .data, .sentinel, .sentinel, .pinned], laidTests := true, laidLooks := .later }
def FnExactParseHeightsCardSaid : Prop := Claim7.holds Tryd.pinned (.plain (OpenSpec.ofChange fnExactParseHeightsSpec)) fnExactParseHeightsCard

/-- THE SECOND FORM's CARD OF 'laws.FnExactGatesText'. -/
def fnExactGatesTextUptoCard : Claim7 := { stood := { row := fnExactGatesTextUptoRow, standIns := [], harness := (true, "6881947d492b37a0f7cc539027965a45bb110da8b532b9dbc7ed1c773496a13f"), looks := true }, kinds := [], alts := [], laidByText := true, laidKinds := [.data, .data, .data], laidTests := true, laidLooks := .later }
def FnExactGatesTextUptoCardSaid : Prop := Claim7.holds Tryd.pinned (.plain (OpenSpec.upto fnExactGatesTextSpec)) fnExactGatesTextUptoCard

/-- THE SECOND FORM's CARD OF 'laws.FnExactParseGates'. -/
def fnExactParseGatesUptoCard : Claim7 := { stood := { row := fnExactParseGatesUptoRow, standIns := [], harness := (true, "6881947d492b37a0f7cc539027965a45bb110da8b532b9dbc7ed1c773496a13f"), looks := true }, kinds := [], alts := [], laidByText := true, laidKinds := [.data, .data, .data, .data, .sentinel, .sentinel, .pinned], laidTests := true, laidLooks := .later }
def FnExactParseGatesUptoCardSaid : Prop := Claim7.holds Tryd.pinned (.plain (OpenSpec.upto fnExactParseGatesSpec)) fnExactParseGatesUptoCard

/-- THE SECOND FORM's CARD OF 'laws.FnExactWidthsText'. -/
def fnExactWidthsTextUptoCard : Claim7 := { stood := { row := fnExactWidthsTextUptoRow, standIns := [], harness := (true, "6881947d492b37a0f7cc539027965a45bb110da8b532b9dbc7ed1c773496a13f"), looks := true }, kinds := [], alts := [], laidByText := true, laidKinds := [.data, .data, .data], laidTests := true, laidLooks := .later }
def FnExactWidthsTextUptoCardSaid : Prop := Claim7.holds Tryd.pinned (.plain (OpenSpec.upto fnExactWidthsTextSpec)) fnExactWidthsTextUptoCard

/-- THE SECOND FORM's CARD OF 'laws.FnExactParseWidths'. -/
def fnExactParseWidthsUptoCard : Claim7 := { stood := { row := fnExactParseWidthsUptoRow, standIns := [], harness := (true, "6881947d492b37a0f7cc539027965a45bb110da8b532b9dbc7ed1c773496a13f"), looks := true }, kinds := [], alts := [], laidByText := true, laidKinds := [.data, .data, .data, .data, .sentinel, .sentinel, .pinned], laidTests := true, laidLooks := .later }
def FnExactParseWidthsUptoCardSaid : Prop := Claim7.holds Tryd.pinned (.plain (OpenSpec.upto fnExactParseWidthsSpec)) fnExactParseWidthsUptoCard

/-- THE SECOND FORM's CARD OF 'laws.FnExactRailsText'. -/
def fnExactRailsTextUptoCard : Claim7 := { stood := { row := fnExactRailsTextUptoRow, standIns := [], harness := (true, "6881947d492b37a0f7cc539027965a45bb110da8b532b9dbc7ed1c773496a13f"), looks := true }, kinds := [], alts := [], laidByText := true, laidKinds := [.data, .data, .data], laidTests := true, laidLooks := .later }
def FnExactRailsTextUptoCardSaid : Prop := Claim7.holds Tryd.pinned (.plain (OpenSpec.upto fnExactRailsTextSpec)) fnExactRailsTextUptoCard

/-- THE SECOND FORM's CARD OF 'laws.FnExactParseRails'. -/
def fnExactParseRailsUptoCard : Claim7 := { stood := { row := fnExactParseRailsUptoRow, standIns := [], harness := (true, "6881947d492b37a0f7cc539027965a45bb110da8b532b9dbc7ed1c773496a13f"), looks := true }, kinds := [], alts := [], laidByText := true, laidKinds := [.data, .data, .data, .data, .sentinel, .sentinel, .pinned], laidTests := true, laidLooks := .later }
def FnExactParseRailsUptoCardSaid : Prop := Claim7.holds Tryd.pinned (.plain (OpenSpec.upto fnExactParseRailsSpec)) fnExactParseRailsUptoCard

/-- THE SECOND FORM's CARD OF 'laws.FnExactHeightsText'. -/
def fnExactHeightsTextUptoCard : Claim7 := { stood := { row := fnExactHeightsTextUptoRow, standIns := [], harness := (true, "6881947d492b37a0f7cc539027965a45bb110da8b532b9dbc7ed1c773496a13f"), looks := true }, kinds := [], alts := [], laidByText := true, laidKinds := [.data, .data, .data], laidTests := true, laidLooks := .later }
def FnExactHeightsTextUptoCardSaid : Prop := Claim7.holds Tryd.pinned (.plain (OpenSpec.upto fnExactHeightsTextSpec)) fnExactHeightsTextUptoCard

/-- THE SECOND FORM's CARD OF 'laws.FnExactParseHeights'. -/
def fnExactParseHeightsUptoCard : Claim7 := { stood := { row := fnExactParseHeightsUptoRow, standIns := [], harness := (true, "6881947d492b37a0f7cc539027965a45bb110da8b532b9dbc7ed1c773496a13f"), looks := true }, kinds := [], alts := [], laidByText := true, laidKinds := [.data, .data, .data, .data, .sentinel, .sentinel, .pinned], laidTests := true, laidLooks := .later }
def FnExactParseHeightsUptoCardSaid : Prop := Claim7.holds Tryd.pinned (.plain (OpenSpec.upto fnExactParseHeightsSpec)) fnExactParseHeightsUptoCard
end Rows
end Go.Proofs.YtbocdhibimcobaaDoor
