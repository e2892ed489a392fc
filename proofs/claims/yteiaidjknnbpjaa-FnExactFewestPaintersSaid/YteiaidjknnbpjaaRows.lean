/-
  No cell of these rows narrows 'for every input' (looked for: loops, veiled, ifaces, maps, wideKeys, modest, calm, conditions, laid).
  DERIVED. THE GIVEN ROWS OF THIS SEAT. 19 by the template 'for every input the law returns true; each argument reads behind the call as it read before'; 0 by the template 'total and deterministic' (their statements: YteiaidjknnbpjaaTotals.lean).
  GIVEN WITH THE SEED: the statements are not yours to turn. If you find one false, say at which input.
  Laid BY PROGRAM, IN A SANDBOX (cutbox-rows.mjs): the forced cells as the released guide's own fill.sh prints them over the translation 53dce5364a42d7b7… (all of the seat's roots in one cut). By AI agents, Wed Nov 11 2026. No macro, syntax, notation, axiom, sorry.
-/
import Derived.Test.YteiaidjknnbpjaaChecked
import GoSem.Claim
import GoSem.ClaimJoined
import GoSem.ClaimMapViews
import Derived.JoinedTies
import Derived.KernelRfl
namespace Go.Proofs.Yteiaidjknnbpjaa
/- THE CELL 'sum', in the pinned program and in every row, IS THE sha256 OF THE DUMP (.gsa) THAT YteiaidjknnbpjaaProg.lean LOADS. Nothing in Lean hashes anything: it is a label: what it is worth is what the hold of that sum in a sandbox is worth. -/
noncomputable def Try.pinned : Pinned := { name := "yteiaidjknnbpjaa", sum := "53dce5364a42d7b75d9f38f67fedc8733d0f7fb8eafdc460e49b276dc2094c8d", checked := Try.checked }
namespace Rows
def none {H : Type} : Left H := { results := [], args := [] }

/-- 'laws.FnSharesRated': WHATEVER THE INPUT: true; the input reads as it did. -/
def fnSharesRatedSpec : ChangeSpec := { name := "fnSharesRated", fn := fun _ => fun
  | [d1, d2] => { results := [.lit (.bool true)], args := [d1, d2] }
  | _ => none }
def fnSharesRatedRow : OpenClaim := { program := "yteiaidjknnbpjaa", sum := "53dce5364a42d7b75d9f38f67fedc8733d0f7fb8eafdc460e49b276dc2094c8d", func := "loop.example/g01373/laws.FnSharesRated", spec := "fnSharesRated", unfollowed := true, recurses := true, apart := false }
def FnSharesRatedSaid : Prop := fnSharesRatedRow.holds Try.pinned (OpenSpec.ofChange fnSharesRatedSpec)

/-- ITS FALSE NEIGHBOUR: 'it returns false'. Refute it at one input. -/
def fnSharesRatedWrong : ChangeSpec := { name := "fnSharesRated", fn := fun _ => fun
  | [d1, d2] => { results := [.lit (.bool false)], args := [d1, d2] }
  | _ => none }
def FnSharesRatedWrongFalsely : Prop := fnSharesRatedRow.holds Try.pinned (OpenSpec.ofChange fnSharesRatedWrong)

/-- 'laws.FnExactAreWidths': WHATEVER THE INPUT: true; the input reads as it did. -/
def fnExactAreWidthsSpec : ChangeSpec := { name := "fnExactAreWidths", fn := fun _ => fun
  | [d] => { results := [.lit (.bool true)], args := [d] }
  | _ => none }
def fnExactAreWidthsRow : OpenClaim := { program := "yteiaidjknnbpjaa", sum := "53dce5364a42d7b75d9f38f67fedc8733d0f7fb8eafdc460e49b276dc2094c8d", func := "loop.example/g01373/laws.FnExactAreWidths", spec := "fnExactAreWidths", apart := false }
def FnExactAreWidthsSaid : Prop := fnExactAreWidthsRow.holds Try.pinned (OpenSpec.ofChange fnExactAreWidthsSpec)

/-- ITS FALSE NEIGHBOUR: 'it returns false'. Refute it at one input. -/
def fnExactAreWidthsWrong : ChangeSpec := { name := "fnExactAreWidths", fn := fun _ => fun
  | [d] => { results := [.lit (.bool false)], args := [d] }
  | _ => none }
def FnExactAreWidthsWrongFalsely : Prop := fnExactAreWidthsRow.holds Try.pinned (OpenSpec.ofChange fnExactAreWidthsWrong)

/-- 'laws.FnExactAreRates': WHATEVER THE INPUT: true; the input reads as it did. -/
def fnExactAreRatesSpec : ChangeSpec := { name := "fnExactAreRates", fn := fun _ => fun
  | [d] => { results := [.lit (.bool true)], args := [d] }
  | _ => none }
def fnExactAreRatesRow : OpenClaim := { program := "yteiaidjknnbpjaa", sum := "53dce5364a42d7b75d9f38f67fedc8733d0f7fb8eafdc460e49b276dc2094c8d", func := "loop.example/g01373/laws.FnExactAreRates", spec := "fnExactAreRates", apart := false }
def FnExactAreRatesSaid : Prop := fnExactAreRatesRow.holds Try.pinned (OpenSpec.ofChange fnExactAreRatesSpec)

/-- ITS FALSE NEIGHBOUR: 'it returns false'. Refute it at one input. -/
def fnExactAreRatesWrong : ChangeSpec := { name := "fnExactAreRates", fn := fun _ => fun
  | [d] => { results := [.lit (.bool false)], args := [d] }
  | _ => none }
def FnExactAreRatesWrongFalsely : Prop := fnExactAreRatesRow.holds Try.pinned (OpenSpec.ofChange fnExactAreRatesWrong)

/-- 'laws.FnExactIsShare': WHATEVER THE INPUT: true; the input reads as it did. -/
def fnExactIsShareSpec : ChangeSpec := { name := "fnExactIsShare", fn := fun _ => fun
  | [d1, d2, d3] => { results := [.lit (.bool true)], args := [d1, d2, d3] }
  | _ => none }
def fnExactIsShareRow : OpenClaim := { program := "yteiaidjknnbpjaa", sum := "53dce5364a42d7b75d9f38f67fedc8733d0f7fb8eafdc460e49b276dc2094c8d", func := "loop.example/g01373/laws.FnExactIsShare", spec := "fnExactIsShare", apart := false }
def FnExactIsShareSaid : Prop := fnExactIsShareRow.holds Try.pinned (OpenSpec.ofChange fnExactIsShareSpec)

/-- ITS FALSE NEIGHBOUR: 'it returns false'. Refute it at one input. -/
def fnExactIsShareWrong : ChangeSpec := { name := "fnExactIsShare", fn := fun _ => fun
  | [d1, d2, d3] => { results := [.lit (.bool false)], args := [d1, d2, d3] }
  | _ => none }
def FnExactIsShareWrongFalsely : Prop := fnExactIsShareRow.holds Try.pinned (OpenSpec.ofChange fnExactIsShareWrong)

/-- 'laws.FnExactWorkOf': WHATEVER THE INPUT: true; the input reads as it did. -/
def fnExactWorkOfSpec : ChangeSpec := { name := "fnExactWorkOf", fn := fun _ => fun
  | [d1, d2, d3] => { results := [.lit (.bool true)], args := [d1, d2, d3] }
  | _ => none }
def fnExactWorkOfRow : OpenClaim := { program := "yteiaidjknnbpjaa", sum := "53dce5364a42d7b75d9f38f67fedc8733d0f7fb8eafdc460e49b276dc2094c8d", func := "loop.example/g01373/laws.FnExactWorkOf", spec := "fnExactWorkOf", apart := false }
def FnExactWorkOfSaid : Prop := fnExactWorkOfRow.holds Try.pinned (OpenSpec.ofChange fnExactWorkOfSpec)

/-- ITS FALSE NEIGHBOUR: 'it returns false'. Refute it at one input. -/
def fnExactWorkOfWrong : ChangeSpec := { name := "fnExactWorkOf", fn := fun _ => fun
  | [d1, d2, d3] => { results := [.lit (.bool false)], args := [d1, d2, d3] }
  | _ => none }
def FnExactWorkOfWrongFalsely : Prop := fnExactWorkOfRow.holds Try.pinned (OpenSpec.ofChange fnExactWorkOfWrong)

/-- 'laws.FnExactLeastWork': WHATEVER THE INPUT: true; the input reads as it did. -/
def fnExactLeastWorkSpec : ChangeSpec := { name := "fnExactLeastWork", fn := fun _ => fun
  | [d1, d2] => { results := [.lit (.bool true)], args := [d1, d2] }
  | _ => none }
def fnExactLeastWorkRow : OpenClaim := { program := "yteiaidjknnbpjaa", sum := "53dce5364a42d7b75d9f38f67fedc8733d0f7fb8eafdc460e49b276dc2094c8d", func := "loop.example/g01373/laws.FnExactLeastWork", spec := "fnExactLeastWork", unfollowed := true, recurses := true, apart := false }
def FnExactLeastWorkSaid : Prop := fnExactLeastWorkRow.holds Try.pinned (OpenSpec.ofChange fnExactLeastWorkSpec)

/-- ITS FALSE NEIGHBOUR: 'it returns false'. Refute it at one input. -/
def fnExactLeastWorkWrong : ChangeSpec := { name := "fnExactLeastWork", fn := fun _ => fun
  | [d1, d2] => { results := [.lit (.bool false)], args := [d1, d2] }
  | _ => none }
def FnExactLeastWorkWrongFalsely : Prop := fnExactLeastWorkRow.holds Try.pinned (OpenSpec.ofChange fnExactLeastWorkWrong)

/-- 'laws.FnExactFirstShare': WHATEVER THE INPUT: true; the input reads as it did. -/
def fnExactFirstShareSpec : ChangeSpec := { name := "fnExactFirstShare", fn := fun _ => fun
  | [d1, d2] => { results := [.lit (.bool true)], args := [d1, d2] }
  | _ => none }
def fnExactFirstShareRow : OpenClaim := { program := "yteiaidjknnbpjaa", sum := "53dce5364a42d7b75d9f38f67fedc8733d0f7fb8eafdc460e49b276dc2094c8d", func := "loop.example/g01373/laws.FnExactFirstShare", spec := "fnExactFirstShare", unfollowed := true, recurses := true, apart := false }
def FnExactFirstShareSaid : Prop := fnExactFirstShareRow.holds Try.pinned (OpenSpec.ofChange fnExactFirstShareSpec)

/-- ITS FALSE NEIGHBOUR: 'it returns false'. Refute it at one input. -/
def fnExactFirstShareWrong : ChangeSpec := { name := "fnExactFirstShare", fn := fun _ => fun
  | [d1, d2] => { results := [.lit (.bool false)], args := [d1, d2] }
  | _ => none }
def FnExactFirstShareWrongFalsely : Prop := fnExactFirstShareRow.holds Try.pinned (OpenSpec.ofChange fnExactFirstShareWrong)

/-- 'laws.FnExactCountShares': WHATEVER THE INPUT: true; the input reads as it did. -/
def fnExactCountSharesSpec : ChangeSpec := { name := "fnExactCountShares", fn := fun _ => fun
  | [d1, d2] => { results := [.lit (.bool true)], args := [d1, d2] }
  | _ => none }
def fnExactCountSharesRow : OpenClaim := { program := "yteiaidjknnbpjaa", sum := "53dce5364a42d7b75d9f38f67fedc8733d0f7fb8eafdc460e49b276dc2094c8d", func := "loop.example/g01373/laws.FnExactCountShares", spec := "fnExactCountShares", unfollowed := true, recurses := true, apart := false }
def FnExactCountSharesSaid : Prop := fnExactCountSharesRow.holds Try.pinned (OpenSpec.ofChange fnExactCountSharesSpec)

/-- ITS FALSE NEIGHBOUR: 'it returns false'. Refute it at one input. -/
def fnExactCountSharesWrong : ChangeSpec := { name := "fnExactCountShares", fn := fun _ => fun
  | [d1, d2] => { results := [.lit (.bool false)], args := [d1, d2] }
  | _ => none }
def FnExactCountSharesWrongFalsely : Prop := fnExactCountSharesRow.holds Try.pinned (OpenSpec.ofChange fnExactCountSharesWrong)

/-- 'laws.FnExactFewestPainters': WHATEVER THE INPUT: true; the input reads as it did. -/
def fnExactFewestPaintersSpec : ChangeSpec := { name := "fnExactFewestPainters", fn := fun _ => fun
  | [d1, d2] => { results := [.lit (.bool true)], args := [d1, d2] }
  | _ => none }
def fnExactFewestPaintersRow : OpenClaim := { program := "yteiaidjknnbpjaa", sum := "53dce5364a42d7b75d9f38f67fedc8733d0f7fb8eafdc460e49b276dc2094c8d", func := "loop.example/g01373/laws.FnExactFewestPainters", spec := "fnExactFewestPainters", unfollowed := true, recurses := true, apart := false }
def FnExactFewestPaintersSaid : Prop := fnExactFewestPaintersRow.holds Try.pinned (OpenSpec.ofChange fnExactFewestPaintersSpec)

/-- ITS FALSE NEIGHBOUR: 'it returns false'. Refute it at one input. -/
def fnExactFewestPaintersWrong : ChangeSpec := { name := "fnExactFewestPainters", fn := fun _ => fun
  | [d1, d2] => { results := [.lit (.bool false)], args := [d1, d2] }
  | _ => none }
def FnExactFewestPaintersWrongFalsely : Prop := fnExactFewestPaintersRow.holds Try.pinned (OpenSpec.ofChange fnExactFewestPaintersWrong)

/-- 'laws.FnExactGreedyShare': WHATEVER THE INPUT: true; the input reads as it did. -/
def fnExactGreedyShareSpec : ChangeSpec := { name := "fnExactGreedyShare", fn := fun _ => fun
  | [d1, d2] => { results := [.lit (.bool true)], args := [d1, d2] }
  | _ => none }
def fnExactGreedyShareRow : OpenClaim := { program := "yteiaidjknnbpjaa", sum := "53dce5364a42d7b75d9f38f67fedc8733d0f7fb8eafdc460e49b276dc2094c8d", func := "loop.example/g01373/laws.FnExactGreedyShare", spec := "fnExactGreedyShare", unfollowed := true, recurses := true, apart := false }
def FnExactGreedyShareSaid : Prop := fnExactGreedyShareRow.holds Try.pinned (OpenSpec.ofChange fnExactGreedyShareSpec)

/-- ITS FALSE NEIGHBOUR: 'it returns false'. Refute it at one input. -/
def fnExactGreedyShareWrong : ChangeSpec := { name := "fnExactGreedyShare", fn := fun _ => fun
  | [d1, d2] => { results := [.lit (.bool false)], args := [d1, d2] }
  | _ => none }
def FnExactGreedyShareWrongFalsely : Prop := fnExactGreedyShareRow.holds Try.pinned (OpenSpec.ofChange fnExactGreedyShareWrong)

/-- 'laws.FnExactTimesOf': WHATEVER THE INPUT: true; the input reads as it did. -/
def fnExactTimesOfSpec : ChangeSpec := { name := "fnExactTimesOf", fn := fun _ => fun
  | [d1, d2, d3] => { results := [.lit (.bool true)], args := [d1, d2, d3] }
  | _ => none }
def fnExactTimesOfRow : OpenClaim := { program := "yteiaidjknnbpjaa", sum := "53dce5364a42d7b75d9f38f67fedc8733d0f7fb8eafdc460e49b276dc2094c8d", func := "loop.example/g01373/laws.FnExactTimesOf", spec := "fnExactTimesOf", apart := false }
def FnExactTimesOfSaid : Prop := fnExactTimesOfRow.holds Try.pinned (OpenSpec.ofChange fnExactTimesOfSpec)

/-- ITS FALSE NEIGHBOUR: 'it returns false'. Refute it at one input. -/
def fnExactTimesOfWrong : ChangeSpec := { name := "fnExactTimesOf", fn := fun _ => fun
  | [d1, d2, d3] => { results := [.lit (.bool false)], args := [d1, d2, d3] }
  | _ => none }
def FnExactTimesOfWrongFalsely : Prop := fnExactTimesOfRow.holds Try.pinned (OpenSpec.ofChange fnExactTimesOfWrong)

/-- 'laws.FnExactLeastTime': WHATEVER THE INPUT: true; the input reads as it did. -/
def fnExactLeastTimeSpec : ChangeSpec := { name := "fnExactLeastTime", fn := fun _ => fun
  | [d1, d2] => { results := [.lit (.bool true)], args := [d1, d2] }
  | _ => none }
def fnExactLeastTimeRow : OpenClaim := { program := "yteiaidjknnbpjaa", sum := "53dce5364a42d7b75d9f38f67fedc8733d0f7fb8eafdc460e49b276dc2094c8d", func := "loop.example/g01373/laws.FnExactLeastTime", spec := "fnExactLeastTime", unfollowed := true, recurses := true, apart := false }
def FnExactLeastTimeSaid : Prop := fnExactLeastTimeRow.holds Try.pinned (OpenSpec.ofChange fnExactLeastTimeSpec)

/-- ITS FALSE NEIGHBOUR: 'it returns false'. Refute it at one input. -/
def fnExactLeastTimeWrong : ChangeSpec := { name := "fnExactLeastTime", fn := fun _ => fun
  | [d1, d2] => { results := [.lit (.bool false)], args := [d1, d2] }
  | _ => none }
def FnExactLeastTimeWrongFalsely : Prop := fnExactLeastTimeRow.holds Try.pinned (OpenSpec.ofChange fnExactLeastTimeWrong)

/-- 'laws.FnExactFirstRated': WHATEVER THE INPUT: true; the input reads as it did. -/
def fnExactFirstRatedSpec : ChangeSpec := { name := "fnExactFirstRated", fn := fun _ => fun
  | [d1, d2] => { results := [.lit (.bool true)], args := [d1, d2] }
  | _ => none }
def fnExactFirstRatedRow : OpenClaim := { program := "yteiaidjknnbpjaa", sum := "53dce5364a42d7b75d9f38f67fedc8733d0f7fb8eafdc460e49b276dc2094c8d", func := "loop.example/g01373/laws.FnExactFirstRated", spec := "fnExactFirstRated", unfollowed := true, recurses := true, apart := false }
def FnExactFirstRatedSaid : Prop := fnExactFirstRatedRow.holds Try.pinned (OpenSpec.ofChange fnExactFirstRatedSpec)

/-- ITS FALSE NEIGHBOUR: 'it returns false'. Refute it at one input. -/
def fnExactFirstRatedWrong : ChangeSpec := { name := "fnExactFirstRated", fn := fun _ => fun
  | [d1, d2] => { results := [.lit (.bool false)], args := [d1, d2] }
  | _ => none }
def FnExactFirstRatedWrongFalsely : Prop := fnExactFirstRatedRow.holds Try.pinned (OpenSpec.ofChange fnExactFirstRatedWrong)

/-- 'laws.FnExactBestOrder': WHATEVER THE INPUT: true; the input reads as it did. -/
def fnExactBestOrderSpec : ChangeSpec := { name := "fnExactBestOrder", fn := fun _ => fun
  | [d1, d2] => { results := [.lit (.bool true)], args := [d1, d2] }
  | _ => none }
def fnExactBestOrderRow : OpenClaim := { program := "yteiaidjknnbpjaa", sum := "53dce5364a42d7b75d9f38f67fedc8733d0f7fb8eafdc460e49b276dc2094c8d", func := "loop.example/g01373/laws.FnExactBestOrder", spec := "fnExactBestOrder", unfollowed := true, recurses := true, apart := false }
def FnExactBestOrderSaid : Prop := fnExactBestOrderRow.holds Try.pinned (OpenSpec.ofChange fnExactBestOrderSpec)

/-- ITS FALSE NEIGHBOUR: 'it returns false'. Refute it at one input. -/
def fnExactBestOrderWrong : ChangeSpec := { name := "fnExactBestOrder", fn := fun _ => fun
  | [d1, d2] => { results := [.lit (.bool false)], args := [d1, d2] }
  | _ => none }
def FnExactBestOrderWrongFalsely : Prop := fnExactBestOrderRow.holds Try.pinned (OpenSpec.ofChange fnExactBestOrderWrong)

/-- 'laws.FnExactMeetTime': WHATEVER THE INPUT: true; the input reads as it did. -/
def fnExactMeetTimeSpec : ChangeSpec := { name := "fnExactMeetTime", fn := fun _ => fun
  | [d1, d2, d3] => { results := [.lit (.bool true)], args := [d1, d2, d3] }
  | _ => none }
def fnExactMeetTimeRow : OpenClaim := { program := "yteiaidjknnbpjaa", sum := "53dce5364a42d7b75d9f38f67fedc8733d0f7fb8eafdc460e49b276dc2094c8d", func := "loop.example/g01373/laws.FnExactMeetTime", spec := "fnExactMeetTime", apart := false }
def FnExactMeetTimeSaid : Prop := fnExactMeetTimeRow.holds Try.pinned (OpenSpec.ofChange fnExactMeetTimeSpec)

/-- ITS FALSE NEIGHBOUR: 'it returns false'. Refute it at one input. -/
def fnExactMeetTimeWrong : ChangeSpec := { name := "fnExactMeetTime", fn := fun _ => fun
  | [d1, d2, d3] => { results := [.lit (.bool false)], args := [d1, d2, d3] }
  | _ => none }
def FnExactMeetTimeWrongFalsely : Prop := fnExactMeetTimeRow.holds Try.pinned (OpenSpec.ofChange fnExactMeetTimeWrong)

/-- 'laws.FnExactMeetPlace': WHATEVER THE INPUT: true; the input reads as it did. -/
def fnExactMeetPlaceSpec : ChangeSpec := { name := "fnExactMeetPlace", fn := fun _ => fun
  | [d1, d2, d3] => { results := [.lit (.bool true)], args := [d1, d2, d3] }
  | _ => none }
def fnExactMeetPlaceRow : OpenClaim := { program := "yteiaidjknnbpjaa", sum := "53dce5364a42d7b75d9f38f67fedc8733d0f7fb8eafdc460e49b276dc2094c8d", func := "loop.example/g01373/laws.FnExactMeetPlace", spec := "fnExactMeetPlace", apart := false }
def FnExactMeetPlaceSaid : Prop := fnExactMeetPlaceRow.holds Try.pinned (OpenSpec.ofChange fnExactMeetPlaceSpec)

/-- ITS FALSE NEIGHBOUR: 'it returns false'. Refute it at one input. -/
def fnExactMeetPlaceWrong : ChangeSpec := { name := "fnExactMeetPlace", fn := fun _ => fun
  | [d1, d2, d3] => { results := [.lit (.bool false)], args := [d1, d2, d3] }
  | _ => none }
def FnExactMeetPlaceWrongFalsely : Prop := fnExactMeetPlaceRow.holds Try.pinned (OpenSpec.ofChange fnExactMeetPlaceWrong)

/-- 'laws.FnExactTogetherTime': WHATEVER THE INPUT: true; the input reads as it did. -/
def fnExactTogetherTimeSpec : ChangeSpec := { name := "fnExactTogetherTime", fn := fun _ => fun
  | [d1, d2] => { results := [.lit (.bool true)], args := [d1, d2] }
  | _ => none }
def fnExactTogetherTimeRow : OpenClaim := { program := "yteiaidjknnbpjaa", sum := "53dce5364a42d7b75d9f38f67fedc8733d0f7fb8eafdc460e49b276dc2094c8d", func := "loop.example/g01373/laws.FnExactTogetherTime", spec := "fnExactTogetherTime", apart := false }
def FnExactTogetherTimeSaid : Prop := fnExactTogetherTimeRow.holds Try.pinned (OpenSpec.ofChange fnExactTogetherTimeSpec)

/-- ITS FALSE NEIGHBOUR: 'it returns false'. Refute it at one input. -/
def fnExactTogetherTimeWrong : ChangeSpec := { name := "fnExactTogetherTime", fn := fun _ => fun
  | [d1, d2] => { results := [.lit (.bool false)], args := [d1, d2] }
  | _ => none }
def FnExactTogetherTimeWrongFalsely : Prop := fnExactTogetherTimeRow.holds Try.pinned (OpenSpec.ofChange fnExactTogetherTimeWrong)

/-- 'laws.FnExactPartOfPainter': WHATEVER THE INPUT: true; the input reads as it did. -/
def fnExactPartOfPainterSpec : ChangeSpec := { name := "fnExactPartOfPainter", fn := fun _ => fun
  | [d1, d2, d3] => { results := [.lit (.bool true)], args := [d1, d2, d3] }
  | _ => none }
def fnExactPartOfPainterRow : OpenClaim := { program := "yteiaidjknnbpjaa", sum := "53dce5364a42d7b75d9f38f67fedc8733d0f7fb8eafdc460e49b276dc2094c8d", func := "loop.example/g01373/laws.FnExactPartOfPainter", spec := "fnExactPartOfPainter", apart := false }
def FnExactPartOfPainterSaid : Prop := fnExactPartOfPainterRow.holds Try.pinned (OpenSpec.ofChange fnExactPartOfPainterSpec)

/-- ITS FALSE NEIGHBOUR: 'it returns false'. Refute it at one input. -/
def fnExactPartOfPainterWrong : ChangeSpec := { name := "fnExactPartOfPainter", fn := fun _ => fun
  | [d1, d2, d3] => { results := [.lit (.bool false)], args := [d1, d2, d3] }
  | _ => none }
def FnExactPartOfPainterWrongFalsely : Prop := fnExactPartOfPainterRow.holds Try.pinned (OpenSpec.ofChange fnExactPartOfPainterWrong)

/-- 'laws.FnExactWidestBoards': WHATEVER THE INPUT: true; the input reads as it did. -/
def fnExactWidestBoardsSpec : ChangeSpec := { name := "fnExactWidestBoards", fn := fun _ => fun
  | [d] => { results := [.lit (.bool true)], args := [d] }
  | _ => none }
def fnExactWidestBoardsRow : OpenClaim := { program := "yteiaidjknnbpjaa", sum := "53dce5364a42d7b75d9f38f67fedc8733d0f7fb8eafdc460e49b276dc2094c8d", func := "loop.example/g01373/laws.FnExactWidestBoards", spec := "fnExactWidestBoards", apart := false }
def FnExactWidestBoardsSaid : Prop := fnExactWidestBoardsRow.holds Try.pinned (OpenSpec.ofChange fnExactWidestBoardsSpec)

/-- ITS FALSE NEIGHBOUR: 'it returns false'. Refute it at one input. -/
def fnExactWidestBoardsWrong : ChangeSpec := { name := "fnExactWidestBoards", fn := fun _ => fun
  | [d] => { results := [.lit (.bool false)], args := [d] }
  | _ => none }
def FnExactWidestBoardsWrongFalsely : Prop := fnExactWidestBoardsRow.holds Try.pinned (OpenSpec.ofChange fnExactWidestBoardsWrong)

/- THE SECOND FORM. 'bulk': how many values and letters a reading holds, each counted each time it is reached (what is shared counts as often as it is met; a slice's spare places count too). A statement '..UptoSaid' is the law's where the arguments, and the package variables that the reading takes, are together of bulk at most 1048576: NARROWER than '..Said'. Prove '..Said' where nothing that the law and all that it calls make is longer than what came in: it says more and counts as full. Else prove '..UptoSaid'. A law counts once. -/
mutual
def uptoBulk {H : Type} : DataW H → Nat
  | .lit (.string bytes) => bytes.length + 1
  | .lit _ => 1
  | .nil => 1
  | .ptr d => uptoBulk d + 1
  | .slice elems spare => uptoBulkAll elems + uptoBulkAll spare + 1
  | .agg parts => uptoBulkAll parts + 1
  | .iface _ d => uptoBulk d + 1
  | .map entries => uptoBulkEntries entries + 1
  | .held _ => 1
def uptoBulkAll {H : Type} : List (DataW H) → Nat
  | [] => 0
  | d :: r => uptoBulk d + uptoBulkAll r
def uptoBulkEntries {H : Type} : List (Lit × DataW H) → Nat
  | [] => 0
  | x :: r => uptoBulkEntry x + uptoBulkEntries r
def uptoBulkEntry {H : Type} : Lit × DataW H → Nat
  | (.string bytes, d) => bytes.length + uptoBulk d + 1
  | (_, d) => uptoBulk d + 1
 end
def uptoSmall : (H : Type) → List (DataW H) → Bool := fun _ ds => decide (uptoBulkAll ds ≤ 1048576)
def OpenSpec.upto (s : _root_.Go.ChangeSpec) : _root_.Go.OpenSpec := { _root_.Go.OpenSpec.ofChange s with cond := some uptoSmall }

/-- 'laws.FnSharesRated', WHERE WHAT IT READS IS OF BULK AT MOST 1048576: true; the input reads as it did. -/
def fnSharesRatedUptoRow : OpenClaim := { program := "yteiaidjknnbpjaa", sum := "53dce5364a42d7b75d9f38f67fedc8733d0f7fb8eafdc460e49b276dc2094c8d", func := "loop.example/g01373/laws.FnSharesRated", spec := "fnSharesRated", unfollowed := true, recurses := true, apart := false, narrowed := true }
def FnSharesRatedUptoSaid : Prop := fnSharesRatedUptoRow.holds Try.pinned (OpenSpec.upto fnSharesRatedSpec)

/-- 'laws.FnExactAreWidths', WHERE WHAT IT READS IS OF BULK AT MOST 1048576: true; the input reads as it did. -/
def fnExactAreWidthsUptoRow : OpenClaim := { program := "yteiaidjknnbpjaa", sum := "53dce5364a42d7b75d9f38f67fedc8733d0f7fb8eafdc460e49b276dc2094c8d", func := "loop.example/g01373/laws.FnExactAreWidths", spec := "fnExactAreWidths", apart := false, narrowed := true }
def FnExactAreWidthsUptoSaid : Prop := fnExactAreWidthsUptoRow.holds Try.pinned (OpenSpec.upto fnExactAreWidthsSpec)

/-- 'laws.FnExactAreRates', WHERE WHAT IT READS IS OF BULK AT MOST 1048576: true; the input reads as it did. -/
def fnExactAreRatesUptoRow : OpenClaim := { program := "yteiaidjknnbpjaa", sum := "53dce5364a42d7b75d9f38f67fedc8733d0f7fb8eafdc460e49b276dc2094c8d", func := "loop.example/g01373/laws.FnExactAreRates", spec := "fnExactAreRates", apart := false, narrowed := true }
def FnExactAreRatesUptoSaid : Prop := fnExactAreRatesUptoRow.holds Try.pinned (OpenSpec.upto fnExactAreRatesSpec)

/-- 'laws.FnExactIsShare', WHERE WHAT IT READS IS OF BULK AT MOST 1048576: true; the input reads as it did. -/
def fnExactIsShareUptoRow : OpenClaim := { program := "yteiaidjknnbpjaa", sum := "53dce5364a42d7b75d9f38f67fedc8733d0f7fb8eafdc460e49b276dc2094c8d", func := "loop.example/g01373/laws.FnExactIsShare", spec := "fnExactIsShare", apart := false, narrowed := true }
def FnExactIsShareUptoSaid : Prop := fnExactIsShareUptoRow.holds Try.pinned (OpenSpec.upto fnExactIsShareSpec)

/-- 'laws.FnExactWorkOf', WHERE WHAT IT READS IS OF BULK AT MOST 1048576: true; the input reads as it did. -/
def fnExactWorkOfUptoRow : OpenClaim := { program := "yteiaidjknnbpjaa", sum := "53dce5364a42d7b75d9f38f67fedc8733d0f7fb8eafdc460e49b276dc2094c8d", func := "loop.example/g01373/laws.FnExactWorkOf", spec := "fnExactWorkOf", apart := false, narrowed := true }
def FnExactWorkOfUptoSaid : Prop := fnExactWorkOfUptoRow.holds Try.pinned (OpenSpec.upto fnExactWorkOfSpec)

/-- 'laws.FnExactLeastWork', WHERE WHAT IT READS IS OF BULK AT MOST 1048576: true; the input reads as it did. -/
def fnExactLeastWorkUptoRow : OpenClaim := { program := "yteiaidjknnbpjaa", sum := "53dce5364a42d7b75d9f38f67fedc8733d0f7fb8eafdc460e49b276dc2094c8d", func := "loop.example/g01373/laws.FnExactLeastWork", spec := "fnExactLeastWork", unfollowed := true, recurses := true, apart := false, narrowed := true }
def FnExactLeastWorkUptoSaid : Prop := fnExactLeastWorkUptoRow.holds Try.pinned (OpenSpec.upto fnExactLeastWorkSpec)

/-- 'laws.FnExactFirstShare', WHERE WHAT IT READS IS OF BULK AT MOST 1048576: true; the input reads as it did. -/
def fnExactFirstShareUptoRow : OpenClaim := { program := "yteiaidjknnbpjaa", sum := "53dce5364a42d7b75d9f38f67fedc8733d0f7fb8eafdc460e49b276dc2094c8d", func := "loop.example/g01373/laws.FnExactFirstShare", spec := "fnExactFirstShare", unfollowed := true, recurses := true, apart := false, narrowed := true }
def FnExactFirstShareUptoSaid : Prop := fnExactFirstShareUptoRow.holds Try.pinned (OpenSpec.upto fnExactFirstShareSpec)

/-- 'laws.FnExactCountShares', WHERE WHAT IT READS IS OF BULK AT MOST 1048576: true; the input reads as it did. -/
def fnExactCountSharesUptoRow : OpenClaim := { program := "yteiaidjknnbpjaa", sum := "53dce5364a42d7b75d9f38f67fedc8733d0f7fb8eafdc460e49b276dc2094c8d", func := "loop.example/g01373/laws.FnExactCountShares", spec := "fnExactCountShares", unfollowed := true, recurses := true, apart := false, narrowed := true }
def FnExactCountSharesUptoSaid : Prop := fnExactCountSharesUptoRow.holds Try.pinned (OpenSpec.upto fnExactCountSharesSpec)

/-- 'laws.FnExactFewestPainters', WHERE WHAT IT READS IS OF BULK AT MOST 1048576: true; the input reads as it did. -/
def fnExactFewestPaintersUptoRow : OpenClaim := { program := "yteiaidjknnbpjaa", sum := "53dce5364a42d7b75d9f38f67fedc8733d0f7fb8eafdc460e49b276dc2094c8d", func := "loop.example/g01373/laws.FnExactFewestPainters", spec := "fnExactFewestPainters", unfollowed := true, recurses := true, apart := false, narrowed := true }
def FnExactFewestPaintersUptoSaid : Prop := fnExactFewestPaintersUptoRow.holds Try.pinned (OpenSpec.upto fnExactFewestPaintersSpec)

/-- 'laws.FnExactGreedyShare', WHERE WHAT IT READS IS OF BULK AT MOST 1048576: true; the input reads as it did. -/
def fnExactGreedyShareUptoRow : OpenClaim := { program := "yteiaidjknnbpjaa", sum := "53dce5364a42d7b75d9f38f67fedc8733d0f7fb8eafdc460e49b276dc2094c8d", func := "loop.example/g01373/laws.FnExactGreedyShare", spec := "fnExactGreedyShare", unfollowed := true, recurses := true, apart := false, narrowed := true }
def FnExactGreedyShareUptoSaid : Prop := fnExactGreedyShareUptoRow.holds Try.pinned (OpenSpec.upto fnExactGreedyShareSpec)

/-- 'laws.FnExactTimesOf', WHERE WHAT IT READS IS OF BULK AT MOST 1048576: true; the input reads as it did. -/
def fnExactTimesOfUptoRow : OpenClaim := { program := "yteiaidjknnbpjaa", sum := "53dce5364a42d7b75d9f38f67fedc8733d0f7fb8eafdc460e49b276dc2094c8d", func := "loop.example/g01373/laws.FnExactTimesOf", spec := "fnExactTimesOf", apart := false, narrowed := true }
def FnExactTimesOfUptoSaid : Prop := fnExactTimesOfUptoRow.holds Try.pinned (OpenSpec.upto fnExactTimesOfSpec)

/-- 'laws.FnExactLeastTime', WHERE WHAT IT READS IS OF BULK AT MOST 1048576: true; the input reads as it did. -/
def fnExactLeastTimeUptoRow : OpenClaim := { program := "yteiaidjknnbpjaa", sum := "53dce5364a42d7b75d9f38f67fedc8733d0f7fb8eafdc460e49b276dc2094c8d", func := "loop.example/g01373/laws.FnExactLeastTime", spec := "fnExactLeastTime", unfollowed := true, recurses := true, apart := false, narrowed := true }
def FnExactLeastTimeUptoSaid : Prop := fnExactLeastTimeUptoRow.holds Try.pinned (OpenSpec.upto fnExactLeastTimeSpec)

/-- 'laws.FnExactFirstRated', WHERE WHAT IT READS IS OF BULK AT MOST 1048576: true; the input reads as it did. -/
def fnExactFirstRatedUptoRow : OpenClaim := { program := "yteiaidjknnbpjaa", sum := "53dce5364a42d7b75d9f38f67fedc8733d0f7fb8eafdc460e49b276dc2094c8d", func := "loop.example/g01373/laws.FnExactFirstRated", spec := "fnExactFirstRated", unfollowed := true, recurses := true, apart := false, narrowed := true }
def FnExactFirstRatedUptoSaid : Prop := fnExactFirstRatedUptoRow.holds Try.pinned (OpenSpec.upto fnExactFirstRatedSpec)

/-- 'laws.FnExactBestOrder', WHERE WHAT IT READS IS OF BULK AT MOST 1048576: true; the input reads as it did. -/
def fnExactBestOrderUptoRow : OpenClaim := { program := "yteiaidjknnbpjaa", sum := "53dce5364a42d7b75d9f38f67fedc8733d0f7fb8eafdc460e49b276dc2094c8d", func := "loop.example/g01373/laws.FnExactBestOrder", spec := "fnExactBestOrder", unfollowed := true, recurses := true, apart := false, narrowed := true }
def FnExactBestOrderUptoSaid : Prop := fnExactBestOrderUptoRow.holds Try.pinned (OpenSpec.upto fnExactBestOrderSpec)

/-- 'laws.FnExactMeetTime', WHERE WHAT IT READS IS OF BULK AT MOST 1048576: true; the input reads as it did. -/
def fnExactMeetTimeUptoRow : OpenClaim := { program := "yteiaidjknnbpjaa", sum := "53dce5364a42d7b75d9f38f67fedc8733d0f7fb8eafdc460e49b276dc2094c8d", func := "loop.example/g01373/laws.FnExactMeetTime", spec := "fnExactMeetTime", apart := false, narrowed := true }
def FnExactMeetTimeUptoSaid : Prop := fnExactMeetTimeUptoRow.holds Try.pinned (OpenSpec.upto fnExactMeetTimeSpec)

/-- 'laws.FnExactMeetPlace', WHERE WHAT IT READS IS OF BULK AT MOST 1048576: true; the input reads as it did. -/
def fnExactMeetPlaceUptoRow : OpenClaim := { program := "yteiaidjknnbpjaa", sum := "53dce5364a42d7b75d9f38f67fedc8733d0f7fb8eafdc460e49b276dc2094c8d", func := "loop.example/g01373/laws.FnExactMeetPlace", spec := "fnExactMeetPlace", apart := false, narrowed := true }
def FnExactMeetPlaceUptoSaid : Prop := fnExactMeetPlaceUptoRow.holds Try.pinned (OpenSpec.upto fnExactMeetPlaceSpec)

/-- 'laws.FnExactTogetherTime', WHERE WHAT IT READS IS OF BULK AT MOST 1048576: true; the input reads as it did. -/
def fnExactTogetherTimeUptoRow : OpenClaim := { program := "yteiaidjknnbpjaa", sum := "53dce5364a42d7b75d9f38f67fedc8733d0f7fb8eafdc460e49b276dc2094c8d", func := "loop.example/g01373/laws.FnExactTogetherTime", spec := "fnExactTogetherTime", apart := false, narrowed := true }
def FnExactTogetherTimeUptoSaid : Prop := fnExactTogetherTimeUptoRow.holds Try.pinned (OpenSpec.upto fnExactTogetherTimeSpec)

/-- 'laws.FnExactPartOfPainter', WHERE WHAT IT READS IS OF BULK AT MOST 1048576: true; the input reads as it did. -/
def fnExactPartOfPainterUptoRow : OpenClaim := { program := "yteiaidjknnbpjaa", sum := "53dce5364a42d7b75d9f38f67fedc8733d0f7fb8eafdc460e49b276dc2094c8d", func := "loop.example/g01373/laws.FnExactPartOfPainter", spec := "fnExactPartOfPainter", apart := false, narrowed := true }
def FnExactPartOfPainterUptoSaid : Prop := fnExactPartOfPainterUptoRow.holds Try.pinned (OpenSpec.upto fnExactPartOfPainterSpec)

/-- 'laws.FnExactWidestBoards', WHERE WHAT IT READS IS OF BULK AT MOST 1048576: true; the input reads as it did. -/
def fnExactWidestBoardsUptoRow : OpenClaim := { program := "yteiaidjknnbpjaa", sum := "53dce5364a42d7b75d9f38f67fedc8733d0f7fb8eafdc460e49b276dc2094c8d", func := "loop.example/g01373/laws.FnExactWidestBoards", spec := "fnExactWidestBoards", apart := false, narrowed := true }
def FnExactWidestBoardsUptoSaid : Prop := fnExactWidestBoardsUptoRow.holds Try.pinned (OpenSpec.upto fnExactWidestBoardsSpec)

end Rows
end Go.Proofs.Yteiaidjknnbpjaa
