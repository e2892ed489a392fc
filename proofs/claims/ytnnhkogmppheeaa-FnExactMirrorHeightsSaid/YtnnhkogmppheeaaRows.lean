/-
  No cell of these rows narrows 'for every input' (looked for: loops, veiled, ifaces, maps, wideKeys, modest, calm, conditions, laid).
  DERIVED. THE GIVEN ROWS OF THIS SEAT. 19 by the template 'for every input the law returns true; each argument reads behind the call as it read before'; 0 by the template 'total and deterministic' (their statements: YtnnhkogmppheeaaTotals.lean).
  GIVEN WITH THE SEED: the statements are not yours to turn. If you find one false, say at which input.
  Laid BY PROGRAM, IN A SANDBOX (cutbox-rows.mjs): the forced cells as the released guide's own fill.sh prints them over the translation 389dda97e05bfa18… (all of the seat's roots in one cut). By AI agents, Wed Nov 11 2026. No macro, syntax, notation, axiom, sorry.
-/
import Derived.Test.YtnnhkogmppheeaaChecked
import GoSem.Claim
import GoSem.ClaimJoined
import GoSem.ClaimMapViews
import Derived.JoinedTies
import Derived.KernelRfl
namespace Go.Proofs.Ytnnhkogmppheeaa
/- THE CELL 'sum', in the pinned program and in every row, IS THE sha256 OF THE DUMP (.gsa) THAT YtnnhkogmppheeaaProg.lean LOADS. Nothing in Lean hashes anything: it is a label: what it is worth is what the hold of that sum in a sandbox is worth. -/
noncomputable def Try.pinned : Pinned := { name := "ytnnhkogmppheeaa", sum := "389dda97e05bfa1807ea34ef5ba6840fa26f6c96a2876f3c5b0a00870caf7b47", checked := Try.checked }
namespace Rows
def none {H : Type} : Left H := { results := [], args := [] }

/-- 'laws.FnExactAreHeights': WHATEVER THE INPUT: true; the input reads as it did. -/
def fnExactAreHeightsSpec : ChangeSpec := { name := "fnExactAreHeights", fn := fun _ => fun
  | [d] => { results := [.lit (.bool true)], args := [d] }
  | _ => none }
def fnExactAreHeightsRow : OpenClaim := { program := "ytnnhkogmppheeaa", sum := "389dda97e05bfa1807ea34ef5ba6840fa26f6c96a2876f3c5b0a00870caf7b47", func := "loop.example/g01373/laws.FnExactAreHeights", spec := "fnExactAreHeights", apart := false }
def FnExactAreHeightsSaid : Prop := fnExactAreHeightsRow.holds Try.pinned (OpenSpec.ofChange fnExactAreHeightsSpec)

/-- ITS FALSE NEIGHBOUR: 'it returns false'. Refute it at one input. -/
def fnExactAreHeightsWrong : ChangeSpec := { name := "fnExactAreHeights", fn := fun _ => fun
  | [d] => { results := [.lit (.bool false)], args := [d] }
  | _ => none }
def FnExactAreHeightsWrongFalsely : Prop := fnExactAreHeightsRow.holds Try.pinned (OpenSpec.ofChange fnExactAreHeightsWrong)

/-- 'laws.FnExactIsCatWay': WHATEVER THE INPUT: true; the input reads as it did. -/
def fnExactIsCatWaySpec : ChangeSpec := { name := "fnExactIsCatWay", fn := fun _ => fun
  | [d1, d2, d3, d4] => { results := [.lit (.bool true)], args := [d1, d2, d3, d4] }
  | _ => none }
def fnExactIsCatWayRow : OpenClaim := { program := "ytnnhkogmppheeaa", sum := "389dda97e05bfa1807ea34ef5ba6840fa26f6c96a2876f3c5b0a00870caf7b47", func := "loop.example/g01373/laws.FnExactIsCatWay", spec := "fnExactIsCatWay", unfollowed := true, recurses := true, leaving := true, apart := false }
def FnExactIsCatWaySaid : Prop := fnExactIsCatWayRow.holds Try.pinned (OpenSpec.ofChange fnExactIsCatWaySpec)

/-- ITS FALSE NEIGHBOUR: 'it returns false'. Refute it at one input. -/
def fnExactIsCatWayWrong : ChangeSpec := { name := "fnExactIsCatWay", fn := fun _ => fun
  | [d1, d2, d3, d4] => { results := [.lit (.bool false)], args := [d1, d2, d3, d4] }
  | _ => none }
def FnExactIsCatWayWrongFalsely : Prop := fnExactIsCatWayRow.holds Try.pinned (OpenSpec.ofChange fnExactIsCatWayWrong)

/-- 'laws.FnExactClimbOf': WHATEVER THE INPUT: true; the input reads as it did. -/
def fnExactClimbOfSpec : ChangeSpec := { name := "fnExactClimbOf", fn := fun _ => fun
  | [d1, d2] => { results := [.lit (.bool true)], args := [d1, d2] }
  | _ => none }
def fnExactClimbOfRow : OpenClaim := { program := "ytnnhkogmppheeaa", sum := "389dda97e05bfa1807ea34ef5ba6840fa26f6c96a2876f3c5b0a00870caf7b47", func := "loop.example/g01373/laws.FnExactClimbOf", spec := "fnExactClimbOf", unfollowed := true, recurses := true, leaving := true, apart := false }
def FnExactClimbOfSaid : Prop := fnExactClimbOfRow.holds Try.pinned (OpenSpec.ofChange fnExactClimbOfSpec)

/-- ITS FALSE NEIGHBOUR: 'it returns false'. Refute it at one input. -/
def fnExactClimbOfWrong : ChangeSpec := { name := "fnExactClimbOf", fn := fun _ => fun
  | [d1, d2] => { results := [.lit (.bool false)], args := [d1, d2] }
  | _ => none }
def FnExactClimbOfWrongFalsely : Prop := fnExactClimbOfRow.holds Try.pinned (OpenSpec.ofChange fnExactClimbOfWrong)

/-- 'laws.FnExactLeastClimb': WHATEVER THE INPUT: true; the input reads as it did. -/
def fnExactLeastClimbSpec : ChangeSpec := { name := "fnExactLeastClimb", fn := fun _ => fun
  | [d1, d2] => { results := [.lit (.bool true)], args := [d1, d2] }
  | _ => none }
def fnExactLeastClimbRow : OpenClaim := { program := "ytnnhkogmppheeaa", sum := "389dda97e05bfa1807ea34ef5ba6840fa26f6c96a2876f3c5b0a00870caf7b47", func := "loop.example/g01373/laws.FnExactLeastClimb", spec := "fnExactLeastClimb", unfollowed := true, recurses := true, leaving := true, apart := false }
def FnExactLeastClimbSaid : Prop := fnExactLeastClimbRow.holds Try.pinned (OpenSpec.ofChange fnExactLeastClimbSpec)

/-- ITS FALSE NEIGHBOUR: 'it returns false'. Refute it at one input. -/
def fnExactLeastClimbWrong : ChangeSpec := { name := "fnExactLeastClimb", fn := fun _ => fun
  | [d1, d2] => { results := [.lit (.bool false)], args := [d1, d2] }
  | _ => none }
def FnExactLeastClimbWrongFalsely : Prop := fnExactLeastClimbRow.holds Try.pinned (OpenSpec.ofChange fnExactLeastClimbWrong)

/-- 'laws.FnExactFirstLeastClimb': WHATEVER THE INPUT: true; the input reads as it did. -/
def fnExactFirstLeastClimbSpec : ChangeSpec := { name := "fnExactFirstLeastClimb", fn := fun _ => fun
  | [d1, d2] => { results := [.lit (.bool true)], args := [d1, d2] }
  | _ => none }
def fnExactFirstLeastClimbRow : OpenClaim := { program := "ytnnhkogmppheeaa", sum := "389dda97e05bfa1807ea34ef5ba6840fa26f6c96a2876f3c5b0a00870caf7b47", func := "loop.example/g01373/laws.FnExactFirstLeastClimb", spec := "fnExactFirstLeastClimb", unfollowed := true, recurses := true, leaving := true, apart := false }
def FnExactFirstLeastClimbSaid : Prop := fnExactFirstLeastClimbRow.holds Try.pinned (OpenSpec.ofChange fnExactFirstLeastClimbSpec)

/-- ITS FALSE NEIGHBOUR: 'it returns false'. Refute it at one input. -/
def fnExactFirstLeastClimbWrong : ChangeSpec := { name := "fnExactFirstLeastClimb", fn := fun _ => fun
  | [d1, d2] => { results := [.lit (.bool false)], args := [d1, d2] }
  | _ => none }
def FnExactFirstLeastClimbWrongFalsely : Prop := fnExactFirstLeastClimbRow.holds Try.pinned (OpenSpec.ofChange fnExactFirstLeastClimbWrong)

/-- 'laws.FnExactFewestJumps': WHATEVER THE INPUT: true; the input reads as it did. -/
def fnExactFewestJumpsSpec : ChangeSpec := { name := "fnExactFewestJumps", fn := fun _ => fun
  | [d1, d2, d3] => { results := [.lit (.bool true)], args := [d1, d2, d3] }
  | _ => none }
def fnExactFewestJumpsRow : OpenClaim := { program := "ytnnhkogmppheeaa", sum := "389dda97e05bfa1807ea34ef5ba6840fa26f6c96a2876f3c5b0a00870caf7b47", func := "loop.example/g01373/laws.FnExactFewestJumps", spec := "fnExactFewestJumps", unfollowed := true, recurses := true, leaving := true, apart := false }
def FnExactFewestJumpsSaid : Prop := fnExactFewestJumpsRow.holds Try.pinned (OpenSpec.ofChange fnExactFewestJumpsSpec)

/-- ITS FALSE NEIGHBOUR: 'it returns false'. Refute it at one input. -/
def fnExactFewestJumpsWrong : ChangeSpec := { name := "fnExactFewestJumps", fn := fun _ => fun
  | [d1, d2, d3] => { results := [.lit (.bool false)], args := [d1, d2, d3] }
  | _ => none }
def FnExactFewestJumpsWrongFalsely : Prop := fnExactFewestJumpsRow.holds Try.pinned (OpenSpec.ofChange fnExactFewestJumpsWrong)

/-- 'laws.FnExactFirstFewestJumps': WHATEVER THE INPUT: true; the input reads as it did. -/
def fnExactFirstFewestJumpsSpec : ChangeSpec := { name := "fnExactFirstFewestJumps", fn := fun _ => fun
  | [d1, d2, d3] => { results := [.lit (.bool true)], args := [d1, d2, d3] }
  | _ => none }
def fnExactFirstFewestJumpsRow : OpenClaim := { program := "ytnnhkogmppheeaa", sum := "389dda97e05bfa1807ea34ef5ba6840fa26f6c96a2876f3c5b0a00870caf7b47", func := "loop.example/g01373/laws.FnExactFirstFewestJumps", spec := "fnExactFirstFewestJumps", unfollowed := true, recurses := true, leaving := true, apart := false }
def FnExactFirstFewestJumpsSaid : Prop := fnExactFirstFewestJumpsRow.holds Try.pinned (OpenSpec.ofChange fnExactFirstFewestJumpsSpec)

/-- ITS FALSE NEIGHBOUR: 'it returns false'. Refute it at one input. -/
def fnExactFirstFewestJumpsWrong : ChangeSpec := { name := "fnExactFirstFewestJumps", fn := fun _ => fun
  | [d1, d2, d3] => { results := [.lit (.bool false)], args := [d1, d2, d3] }
  | _ => none }
def FnExactFirstFewestJumpsWrongFalsely : Prop := fnExactFirstFewestJumpsRow.holds Try.pinned (OpenSpec.ofChange fnExactFirstFewestJumpsWrong)

/-- 'laws.FnExactCountCatWays': WHATEVER THE INPUT: true; the input reads as it did. -/
def fnExactCountCatWaysSpec : ChangeSpec := { name := "fnExactCountCatWays", fn := fun _ => fun
  | [d1, d2, d3] => { results := [.lit (.bool true)], args := [d1, d2, d3] }
  | _ => none }
def fnExactCountCatWaysRow : OpenClaim := { program := "ytnnhkogmppheeaa", sum := "389dda97e05bfa1807ea34ef5ba6840fa26f6c96a2876f3c5b0a00870caf7b47", func := "loop.example/g01373/laws.FnExactCountCatWays", spec := "fnExactCountCatWays", unfollowed := true, recurses := true, leaving := true, apart := false }
def FnExactCountCatWaysSaid : Prop := fnExactCountCatWaysRow.holds Try.pinned (OpenSpec.ofChange fnExactCountCatWaysSpec)

/-- ITS FALSE NEIGHBOUR: 'it returns false'. Refute it at one input. -/
def fnExactCountCatWaysWrong : ChangeSpec := { name := "fnExactCountCatWays", fn := fun _ => fun
  | [d1, d2, d3] => { results := [.lit (.bool false)], args := [d1, d2, d3] }
  | _ => none }
def FnExactCountCatWaysWrongFalsely : Prop := fnExactCountCatWaysRow.holds Try.pinned (OpenSpec.ofChange fnExactCountCatWaysWrong)

/-- 'laws.FnExactReachedBoards': WHATEVER THE INPUT: true; the input reads as it did. -/
def fnExactReachedBoardsSpec : ChangeSpec := { name := "fnExactReachedBoards", fn := fun _ => fun
  | [d1, d2, d3] => { results := [.lit (.bool true)], args := [d1, d2, d3] }
  | _ => none }
def fnExactReachedBoardsRow : OpenClaim := { program := "ytnnhkogmppheeaa", sum := "389dda97e05bfa1807ea34ef5ba6840fa26f6c96a2876f3c5b0a00870caf7b47", func := "loop.example/g01373/laws.FnExactReachedBoards", spec := "fnExactReachedBoards", unfollowed := true, recurses := true, leaving := true, apart := false }
def FnExactReachedBoardsSaid : Prop := fnExactReachedBoardsRow.holds Try.pinned (OpenSpec.ofChange fnExactReachedBoardsSpec)

/-- ITS FALSE NEIGHBOUR: 'it returns false'. Refute it at one input. -/
def fnExactReachedBoardsWrong : ChangeSpec := { name := "fnExactReachedBoards", fn := fun _ => fun
  | [d1, d2, d3] => { results := [.lit (.bool false)], args := [d1, d2, d3] }
  | _ => none }
def FnExactReachedBoardsWrongFalsely : Prop := fnExactReachedBoardsRow.holds Try.pinned (OpenSpec.ofChange fnExactReachedBoardsWrong)

/-- 'laws.FnExactEasiestClimb': WHATEVER THE INPUT: true; the input reads as it did. -/
def fnExactEasiestClimbSpec : ChangeSpec := { name := "fnExactEasiestClimb", fn := fun _ => fun
  | [d1, d2] => { results := [.lit (.bool true)], args := [d1, d2] }
  | _ => none }
def fnExactEasiestClimbRow : OpenClaim := { program := "ytnnhkogmppheeaa", sum := "389dda97e05bfa1807ea34ef5ba6840fa26f6c96a2876f3c5b0a00870caf7b47", func := "loop.example/g01373/laws.FnExactEasiestClimb", spec := "fnExactEasiestClimb", unfollowed := true, recurses := true, leaving := true, apart := false }
def FnExactEasiestClimbSaid : Prop := fnExactEasiestClimbRow.holds Try.pinned (OpenSpec.ofChange fnExactEasiestClimbSpec)

/-- ITS FALSE NEIGHBOUR: 'it returns false'. Refute it at one input. -/
def fnExactEasiestClimbWrong : ChangeSpec := { name := "fnExactEasiestClimb", fn := fun _ => fun
  | [d1, d2] => { results := [.lit (.bool false)], args := [d1, d2] }
  | _ => none }
def FnExactEasiestClimbWrongFalsely : Prop := fnExactEasiestClimbRow.holds Try.pinned (OpenSpec.ofChange fnExactEasiestClimbWrong)

/-- 'laws.FnExactNeededBoards': WHATEVER THE INPUT: true; the input reads as it did. -/
def fnExactNeededBoardsSpec : ChangeSpec := { name := "fnExactNeededBoards", fn := fun _ => fun
  | [d1, d2, d3] => { results := [.lit (.bool true)], args := [d1, d2, d3] }
  | _ => none }
def fnExactNeededBoardsRow : OpenClaim := { program := "ytnnhkogmppheeaa", sum := "389dda97e05bfa1807ea34ef5ba6840fa26f6c96a2876f3c5b0a00870caf7b47", func := "loop.example/g01373/laws.FnExactNeededBoards", spec := "fnExactNeededBoards", unfollowed := true, recurses := true, leaving := true, apart := false }
def FnExactNeededBoardsSaid : Prop := fnExactNeededBoardsRow.holds Try.pinned (OpenSpec.ofChange fnExactNeededBoardsSpec)

/-- ITS FALSE NEIGHBOUR: 'it returns false'. Refute it at one input. -/
def fnExactNeededBoardsWrong : ChangeSpec := { name := "fnExactNeededBoards", fn := fun _ => fun
  | [d1, d2, d3] => { results := [.lit (.bool false)], args := [d1, d2, d3] }
  | _ => none }
def FnExactNeededBoardsWrongFalsely : Prop := fnExactNeededBoardsRow.holds Try.pinned (OpenSpec.ofChange fnExactNeededBoardsWrong)

/-- 'laws.FnExactLongestDown': WHATEVER THE INPUT: true; the input reads as it did. -/
def fnExactLongestDownSpec : ChangeSpec := { name := "fnExactLongestDown", fn := fun _ => fun
  | [d1, d2] => { results := [.lit (.bool true)], args := [d1, d2] }
  | _ => none }
def fnExactLongestDownRow : OpenClaim := { program := "ytnnhkogmppheeaa", sum := "389dda97e05bfa1807ea34ef5ba6840fa26f6c96a2876f3c5b0a00870caf7b47", func := "loop.example/g01373/laws.FnExactLongestDown", spec := "fnExactLongestDown", unfollowed := true, recurses := true, leaving := true, apart := false }
def FnExactLongestDownSaid : Prop := fnExactLongestDownRow.holds Try.pinned (OpenSpec.ofChange fnExactLongestDownSpec)

/-- ITS FALSE NEIGHBOUR: 'it returns false'. Refute it at one input. -/
def fnExactLongestDownWrong : ChangeSpec := { name := "fnExactLongestDown", fn := fun _ => fun
  | [d1, d2] => { results := [.lit (.bool false)], args := [d1, d2] }
  | _ => none }
def FnExactLongestDownWrongFalsely : Prop := fnExactLongestDownRow.holds Try.pinned (OpenSpec.ofChange fnExactLongestDownWrong)

/-- 'laws.FnExactTopsOf': WHATEVER THE INPUT: true; the input reads as it did. -/
def fnExactTopsOfSpec : ChangeSpec := { name := "fnExactTopsOf", fn := fun _ => fun
  | [d] => { results := [.lit (.bool true)], args := [d] }
  | _ => none }
def fnExactTopsOfRow : OpenClaim := { program := "ytnnhkogmppheeaa", sum := "389dda97e05bfa1807ea34ef5ba6840fa26f6c96a2876f3c5b0a00870caf7b47", func := "loop.example/g01373/laws.FnExactTopsOf", spec := "fnExactTopsOf", unfollowed := true, recurses := true, leaving := true, apart := false }
def FnExactTopsOfSaid : Prop := fnExactTopsOfRow.holds Try.pinned (OpenSpec.ofChange fnExactTopsOfSpec)

/-- ITS FALSE NEIGHBOUR: 'it returns false'. Refute it at one input. -/
def fnExactTopsOfWrong : ChangeSpec := { name := "fnExactTopsOf", fn := fun _ => fun
  | [d] => { results := [.lit (.bool false)], args := [d] }
  | _ => none }
def FnExactTopsOfWrongFalsely : Prop := fnExactTopsOfRow.holds Try.pinned (OpenSpec.ofChange fnExactTopsOfWrong)

/-- 'laws.FnExactHollowsOf': WHATEVER THE INPUT: true; the input reads as it did. -/
def fnExactHollowsOfSpec : ChangeSpec := { name := "fnExactHollowsOf", fn := fun _ => fun
  | [d] => { results := [.lit (.bool true)], args := [d] }
  | _ => none }
def fnExactHollowsOfRow : OpenClaim := { program := "ytnnhkogmppheeaa", sum := "389dda97e05bfa1807ea34ef5ba6840fa26f6c96a2876f3c5b0a00870caf7b47", func := "loop.example/g01373/laws.FnExactHollowsOf", spec := "fnExactHollowsOf", unfollowed := true, recurses := true, leaving := true, apart := false }
def FnExactHollowsOfSaid : Prop := fnExactHollowsOfRow.holds Try.pinned (OpenSpec.ofChange fnExactHollowsOfSpec)

/-- ITS FALSE NEIGHBOUR: 'it returns false'. Refute it at one input. -/
def fnExactHollowsOfWrong : ChangeSpec := { name := "fnExactHollowsOf", fn := fun _ => fun
  | [d] => { results := [.lit (.bool false)], args := [d] }
  | _ => none }
def FnExactHollowsOfWrongFalsely : Prop := fnExactHollowsOfRow.holds Try.pinned (OpenSpec.ofChange fnExactHollowsOfWrong)

/-- 'laws.FnExactSeenFrom': WHATEVER THE INPUT: true; the input reads as it did. -/
def fnExactSeenFromSpec : ChangeSpec := { name := "fnExactSeenFrom", fn := fun _ => fun
  | [d1, d2] => { results := [.lit (.bool true)], args := [d1, d2] }
  | _ => none }
def fnExactSeenFromRow : OpenClaim := { program := "ytnnhkogmppheeaa", sum := "389dda97e05bfa1807ea34ef5ba6840fa26f6c96a2876f3c5b0a00870caf7b47", func := "loop.example/g01373/laws.FnExactSeenFrom", spec := "fnExactSeenFrom", unfollowed := true, recurses := true, leaving := true, apart := false }
def FnExactSeenFromSaid : Prop := fnExactSeenFromRow.holds Try.pinned (OpenSpec.ofChange fnExactSeenFromSpec)

/-- ITS FALSE NEIGHBOUR: 'it returns false'. Refute it at one input. -/
def fnExactSeenFromWrong : ChangeSpec := { name := "fnExactSeenFrom", fn := fun _ => fun
  | [d1, d2] => { results := [.lit (.bool false)], args := [d1, d2] }
  | _ => none }
def FnExactSeenFromWrongFalsely : Prop := fnExactSeenFromRow.holds Try.pinned (OpenSpec.ofChange fnExactSeenFromWrong)

/-- 'laws.FnExactSeenFromLeft': WHATEVER THE INPUT: true; the input reads as it did. -/
def fnExactSeenFromLeftSpec : ChangeSpec := { name := "fnExactSeenFromLeft", fn := fun _ => fun
  | [d] => { results := [.lit (.bool true)], args := [d] }
  | _ => none }
def fnExactSeenFromLeftRow : OpenClaim := { program := "ytnnhkogmppheeaa", sum := "389dda97e05bfa1807ea34ef5ba6840fa26f6c96a2876f3c5b0a00870caf7b47", func := "loop.example/g01373/laws.FnExactSeenFromLeft", spec := "fnExactSeenFromLeft", unfollowed := true, recurses := true, leaving := true, apart := false }
def FnExactSeenFromLeftSaid : Prop := fnExactSeenFromLeftRow.holds Try.pinned (OpenSpec.ofChange fnExactSeenFromLeftSpec)

/-- ITS FALSE NEIGHBOUR: 'it returns false'. Refute it at one input. -/
def fnExactSeenFromLeftWrong : ChangeSpec := { name := "fnExactSeenFromLeft", fn := fun _ => fun
  | [d] => { results := [.lit (.bool false)], args := [d] }
  | _ => none }
def FnExactSeenFromLeftWrongFalsely : Prop := fnExactSeenFromLeftRow.holds Try.pinned (OpenSpec.ofChange fnExactSeenFromLeftWrong)

/-- 'laws.FnExactMostSeen': WHATEVER THE INPUT: true; the input reads as it did. -/
def fnExactMostSeenSpec : ChangeSpec := { name := "fnExactMostSeen", fn := fun _ => fun
  | [d] => { results := [.lit (.bool true)], args := [d] }
  | _ => none }
def fnExactMostSeenRow : OpenClaim := { program := "ytnnhkogmppheeaa", sum := "389dda97e05bfa1807ea34ef5ba6840fa26f6c96a2876f3c5b0a00870caf7b47", func := "loop.example/g01373/laws.FnExactMostSeen", spec := "fnExactMostSeen", unfollowed := true, recurses := true, leaving := true, apart := false }
def FnExactMostSeenSaid : Prop := fnExactMostSeenRow.holds Try.pinned (OpenSpec.ofChange fnExactMostSeenSpec)

/-- ITS FALSE NEIGHBOUR: 'it returns false'. Refute it at one input. -/
def fnExactMostSeenWrong : ChangeSpec := { name := "fnExactMostSeen", fn := fun _ => fun
  | [d] => { results := [.lit (.bool false)], args := [d] }
  | _ => none }
def FnExactMostSeenWrongFalsely : Prop := fnExactMostSeenRow.holds Try.pinned (OpenSpec.ofChange fnExactMostSeenWrong)

/-- 'laws.FnExactRaiseBoard': WHATEVER THE INPUT: true; the input reads as it did. -/
def fnExactRaiseBoardSpec : ChangeSpec := { name := "fnExactRaiseBoard", fn := fun _ => fun
  | [d1, d2, d3] => { results := [.lit (.bool true)], args := [d1, d2, d3] }
  | _ => none }
def fnExactRaiseBoardRow : OpenClaim := { program := "ytnnhkogmppheeaa", sum := "389dda97e05bfa1807ea34ef5ba6840fa26f6c96a2876f3c5b0a00870caf7b47", func := "loop.example/g01373/laws.FnExactRaiseBoard", spec := "fnExactRaiseBoard", apart := false }
def FnExactRaiseBoardSaid : Prop := fnExactRaiseBoardRow.holds Try.pinned (OpenSpec.ofChange fnExactRaiseBoardSpec)

/-- ITS FALSE NEIGHBOUR: 'it returns false'. Refute it at one input. -/
def fnExactRaiseBoardWrong : ChangeSpec := { name := "fnExactRaiseBoard", fn := fun _ => fun
  | [d1, d2, d3] => { results := [.lit (.bool false)], args := [d1, d2, d3] }
  | _ => none }
def FnExactRaiseBoardWrongFalsely : Prop := fnExactRaiseBoardRow.holds Try.pinned (OpenSpec.ofChange fnExactRaiseBoardWrong)

/-- 'laws.FnExactMirrorHeights': WHATEVER THE INPUT: true; the input reads as it did. -/
def fnExactMirrorHeightsSpec : ChangeSpec := { name := "fnExactMirrorHeights", fn := fun _ => fun
  | [d] => { results := [.lit (.bool true)], args := [d] }
  | _ => none }
def fnExactMirrorHeightsRow : OpenClaim := { program := "ytnnhkogmppheeaa", sum := "389dda97e05bfa1807ea34ef5ba6840fa26f6c96a2876f3c5b0a00870caf7b47", func := "loop.example/g01373/laws.FnExactMirrorHeights", spec := "fnExactMirrorHeights", apart := false }
def FnExactMirrorHeightsSaid : Prop := fnExactMirrorHeightsRow.holds Try.pinned (OpenSpec.ofChange fnExactMirrorHeightsSpec)

/-- ITS FALSE NEIGHBOUR: 'it returns false'. Refute it at one input. -/
def fnExactMirrorHeightsWrong : ChangeSpec := { name := "fnExactMirrorHeights", fn := fun _ => fun
  | [d] => { results := [.lit (.bool false)], args := [d] }
  | _ => none }
def FnExactMirrorHeightsWrongFalsely : Prop := fnExactMirrorHeightsRow.holds Try.pinned (OpenSpec.ofChange fnExactMirrorHeightsWrong)

/- THE SECOND FORM. 'bulk': how many values and letters a reading holds, each counted each time it is reached (what is shared counts as often as it is met; a slice's spare places count too). A statement '..UptoSaid' is the law's where the arguments, and the package variables that the reading takes, are together of bulk at most 1048576: NARROWER than '..Said'. Prove '..Said' where nothing that the law and all that it calls make is longer than what came in: it says more and counts as full. Else prove '..UptoSaid'. A law counts once. -/
mutual
def uptoBulk {H : Type} : DataW H → Nat
  | .lit (.string bytes) => bytes.length + 1
  | .lit _ => 1
  | .nil => 1
  | .ptr d => uptoBulk d + 1
  | .slice elems spare => uptoBulkAll elems + uptoBulkAll spare + 1
  | .agg parts => uptoBulkAll parts + 1
  | .iface _ d => uptoBulk d + 1
  | .map entries => uptoBulkEntries entries + 1
  | .held _ => 1
def uptoBulkAll {H : Type} : List (DataW H) → Nat
  | [] => 0
  | d :: r => uptoBulk d + uptoBulkAll r
def uptoBulkEntries {H : Type} : List (Lit × DataW H) → Nat
  | [] => 0
  | x :: r => uptoBulkEntry x + uptoBulkEntries r
def uptoBulkEntry {H : Type} : Lit × DataW H → Nat
  | (.string bytes, d) => bytes.length + uptoBulk d + 1
  | (_, d) => uptoBulk d + 1
 end
def uptoSmall : (H : Type) → List (DataW H) → Bool := fun _ ds => decide (uptoBulkAll ds ≤ 1048576)
def OpenSpec.upto (s : _root_.Go.ChangeSpec) : _root_.Go.OpenSpec := { _root_.Go.OpenSpec.ofChange s with cond := some uptoSmall }

/-- 'laws.FnExactAreHeights', WHERE WHAT IT READS IS OF BULK AT MOST 1048576: true; the input reads as it did. -/
def fnExactAreHeightsUptoRow : OpenClaim := { program := "ytnnhkogmppheeaa", sum := "389dda97e05bfa1807ea34ef5ba6840fa26f6c96a2876f3c5b0a00870caf7b47", func := "loop.example/g01373/laws.FnExactAreHeights", spec := "fnExactAreHeights", apart := false, narrowed := true }
def FnExactAreHeightsUptoSaid : Prop := fnExactAreHeightsUptoRow.holds Try.pinned (OpenSpec.upto fnExactAreHeightsSpec)

/-- 'laws.FnExactIsCatWay', WHERE WHAT IT READS IS OF BULK AT MOST 1048576: true; the input reads as it did. -/
def fnExactIsCatWayUptoRow : OpenClaim := { program := "ytnnhkogmppheeaa", sum := "389dda97e05bfa1807ea34ef5ba6840fa26f6c96a2876f3c5b0a00870caf7b47", func := "loop.example/g01373/laws.FnExactIsCatWay", spec := "fnExactIsCatWay", unfollowed := true, recurses := true, leaving := true, apart := false, narrowed := true }
def FnExactIsCatWayUptoSaid : Prop := fnExactIsCatWayUptoRow.holds Try.pinned (OpenSpec.upto fnExactIsCatWaySpec)

/-- 'laws.FnExactClimbOf', WHERE WHAT IT READS IS OF BULK AT MOST 1048576: true; the input reads as it did. -/
def fnExactClimbOfUptoRow : OpenClaim := { program := "ytnnhkogmppheeaa", sum := "389dda97e05bfa1807ea34ef5ba6840fa26f6c96a2876f3c5b0a00870caf7b47", func := "loop.example/g01373/laws.FnExactClimbOf", spec := "fnExactClimbOf", unfollowed := true, recurses := true, leaving := true, apart := false, narrowed := true }
def FnExactClimbOfUptoSaid : Prop := fnExactClimbOfUptoRow.holds Try.pinned (OpenSpec.upto fnExactClimbOfSpec)

/-- 'laws.FnExactLeastClimb', WHERE WHAT IT READS IS OF BULK AT MOST 1048576: true; the input reads as it did. -/
def fnExactLeastClimbUptoRow : OpenClaim := { program := "ytnnhkogmppheeaa", sum := "389dda97e05bfa1807ea34ef5ba6840fa26f6c96a2876f3c5b0a00870caf7b47", func := "loop.example/g01373/laws.FnExactLeastClimb", spec := "fnExactLeastClimb", unfollowed := true, recurses := true, leaving := true, apart := false, narrowed := true }
def FnExactLeastClimbUptoSaid : Prop := fnExactLeastClimbUptoRow.holds Try.pinned (OpenSpec.upto fnExactLeastClimbSpec)

/-- 'laws.FnExactFirstLeastClimb', WHERE WHAT IT READS IS OF BULK AT MOST 1048576: true; the input reads as it did. -/
def fnExactFirstLeastClimbUptoRow : OpenClaim := { program := "ytnnhkogmppheeaa", sum := "389dda97e05bfa1807ea34ef5ba6840fa26f6c96a2876f3c5b0a00870caf7b47", func := "loop.example/g01373/laws.FnExactFirstLeastClimb", spec := "fnExactFirstLeastClimb", unfollowed := true, recurses := true, leaving := true, apart := false, narrowed := true }
def FnExactFirstLeastClimbUptoSaid : Prop := fnExactFirstLeastClimbUptoRow.holds Try.pinned (OpenSpec.upto fnExactFirstLeastClimbSpec)

/-- 'laws.FnExactFewestJumps', WHERE WHAT IT READS IS OF BULK AT MOST 1048576: true; the input reads as it did. -/
def fnExactFewestJumpsUptoRow : OpenClaim := { program := "ytnnhkogmppheeaa", sum := "389dda97e05bfa1807ea34ef5ba6840fa26f6c96a2876f3c5b0a00870caf7b47", func := "loop.example/g01373/laws.FnExactFewestJumps", spec := "fnExactFewestJumps", unfollowed := true, recurses := true, leaving := true, apart := false, narrowed := true }
def FnExactFewestJumpsUptoSaid : Prop := fnExactFewestJumpsUptoRow.holds Try.pinned (OpenSpec.upto fnExactFewestJumpsSpec)

/-- 'laws.FnExactFirstFewestJumps', WHERE WHAT IT READS IS OF BULK AT MOST 1048576: true; the input reads as it did. -/
def fnExactFirstFewestJumpsUptoRow : OpenClaim := { program := "ytnnhkogmppheeaa", sum := "389dda97e05bfa1807ea34ef5ba6840fa26f6c96a2876f3c5b0a00870caf7b47", func := "loop.example/g01373/laws.FnExactFirstFewestJumps", spec := "fnExactFirstFewestJumps", unfollowed := true, recurses := true, leaving := true, apart := false, narrowed := true }
def FnExactFirstFewestJumpsUptoSaid : Prop := fnExactFirstFewestJumpsUptoRow.holds Try.pinned (OpenSpec.upto fnExactFirstFewestJumpsSpec)

/-- 'laws.FnExactCountCatWays', WHERE WHAT IT READS IS OF BULK AT MOST 1048576: true; the input reads as it did. -/
def fnExactCountCatWaysUptoRow : OpenClaim := { program := "ytnnhkogmppheeaa", sum := "389dda97e05bfa1807ea34ef5ba6840fa26f6c96a2876f3c5b0a00870caf7b47", func := "loop.example/g01373/laws.FnExactCountCatWays", spec := "fnExactCountCatWays", unfollowed := true, recurses := true, leaving := true, apart := false, narrowed := true }
def FnExactCountCatWaysUptoSaid : Prop := fnExactCountCatWaysUptoRow.holds Try.pinned (OpenSpec.upto fnExactCountCatWaysSpec)

/-- 'laws.FnExactReachedBoards', WHERE WHAT IT READS IS OF BULK AT MOST 1048576: true; the input reads as it did. -/
def fnExactReachedBoardsUptoRow : OpenClaim := { program := "ytnnhkogmppheeaa", sum := "389dda97e05bfa1807ea34ef5ba6840fa26f6c96a2876f3c5b0a00870caf7b47", func := "loop.example/g01373/laws.FnExactReachedBoards", spec := "fnExactReachedBoards", unfollowed := true, recurses := true, leaving := true, apart := false, narrowed := true }
def FnExactReachedBoardsUptoSaid : Prop := fnExactReachedBoardsUptoRow.holds Try.pinned (OpenSpec.upto fnExactReachedBoardsSpec)

/-- 'laws.FnExactEasiestClimb', WHERE WHAT IT READS IS OF BULK AT MOST 1048576: true; the input reads as it did. -/
def fnExactEasiestClimbUptoRow : OpenClaim := { program := "ytnnhkogmppheeaa", sum := "389dda97e05bfa1807ea34ef5ba6840fa26f6c96a2876f3c5b0a00870caf7b47", func := "loop.example/g01373/laws.FnExactEasiestClimb", spec := "fnExactEasiestClimb", unfollowed := true, recurses := true, leaving := true, apart := false, narrowed := true }
def FnExactEasiestClimbUptoSaid : Prop := fnExactEasiestClimbUptoRow.holds Try.pinned (OpenSpec.upto fnExactEasiestClimbSpec)

/-- 'laws.FnExactNeededBoards', WHERE WHAT IT READS IS OF BULK AT MOST 1048576: true; the input reads as it did. -/
def fnExactNeededBoardsUptoRow : OpenClaim := { program := "ytnnhkogmppheeaa", sum := "389dda97e05bfa1807ea34ef5ba6840fa26f6c96a2876f3c5b0a00870caf7b47", func := "loop.example/g01373/laws.FnExactNeededBoards", spec := "fnExactNeededBoards", unfollowed := true, recurses := true, leaving := true, apart := false, narrowed := true }
def FnExactNeededBoardsUptoSaid : Prop := fnExactNeededBoardsUptoRow.holds Try.pinned (OpenSpec.upto fnExactNeededBoardsSpec)

/-- 'laws.FnExactLongestDown', WHERE WHAT IT READS IS OF BULK AT MOST 1048576: true; the input reads as it did. -/
def fnExactLongestDownUptoRow : OpenClaim := { program := "ytnnhkogmppheeaa", sum := "389dda97e05bfa1807ea34ef5ba6840fa26f6c96a2876f3c5b0a00870caf7b47", func := "loop.example/g01373/laws.FnExactLongestDown", spec := "fnExactLongestDown", unfollowed := true, recurses := true, leaving := true, apart := false, narrowed := true }
def FnExactLongestDownUptoSaid : Prop := fnExactLongestDownUptoRow.holds Try.pinned (OpenSpec.upto fnExactLongestDownSpec)

/-- 'laws.FnExactTopsOf', WHERE WHAT IT READS IS OF BULK AT MOST 1048576: true; the input reads as it did. -/
def fnExactTopsOfUptoRow : OpenClaim := { program := "ytnnhkogmppheeaa", sum := "389dda97e05bfa1807ea34ef5ba6840fa26f6c96a2876f3c5b0a00870caf7b47", func := "loop.example/g01373/laws.FnExactTopsOf", spec := "fnExactTopsOf", unfollowed := true, recurses := true, leaving := true, apart := false, narrowed := true }
def FnExactTopsOfUptoSaid : Prop := fnExactTopsOfUptoRow.holds Try.pinned (OpenSpec.upto fnExactTopsOfSpec)

/-- 'laws.FnExactHollowsOf', WHERE WHAT IT READS IS OF BULK AT MOST 1048576: true; the input reads as it did. -/
def fnExactHollowsOfUptoRow : OpenClaim := { program := "ytnnhkogmppheeaa", sum := "389dda97e05bfa1807ea34ef5ba6840fa26f6c96a2876f3c5b0a00870caf7b47", func := "loop.example/g01373/laws.FnExactHollowsOf", spec := "fnExactHollowsOf", unfollowed := true, recurses := true, leaving := true, apart := false, narrowed := true }
def FnExactHollowsOfUptoSaid : Prop := fnExactHollowsOfUptoRow.holds Try.pinned (OpenSpec.upto fnExactHollowsOfSpec)

/-- 'laws.FnExactSeenFrom', WHERE WHAT IT READS IS OF BULK AT MOST 1048576: true; the input reads as it did. -/
def fnExactSeenFromUptoRow : OpenClaim := { program := "ytnnhkogmppheeaa", sum := "389dda97e05bfa1807ea34ef5ba6840fa26f6c96a2876f3c5b0a00870caf7b47", func := "loop.example/g01373/laws.FnExactSeenFrom", spec := "fnExactSeenFrom", unfollowed := true, recurses := true, leaving := true, apart := false, narrowed := true }
def FnExactSeenFromUptoSaid : Prop := fnExactSeenFromUptoRow.holds Try.pinned (OpenSpec.upto fnExactSeenFromSpec)

/-- 'laws.FnExactSeenFromLeft', WHERE WHAT IT READS IS OF BULK AT MOST 1048576: true; the input reads as it did. -/
def fnExactSeenFromLeftUptoRow : OpenClaim := { program := "ytnnhkogmppheeaa", sum := "389dda97e05bfa1807ea34ef5ba6840fa26f6c96a2876f3c5b0a00870caf7b47", func := "loop.example/g01373/laws.FnExactSeenFromLeft", spec := "fnExactSeenFromLeft", unfollowed := true, recurses := true, leaving := true, apart := false, narrowed := true }
def FnExactSeenFromLeftUptoSaid : Prop := fnExactSeenFromLeftUptoRow.holds Try.pinned (OpenSpec.upto fnExactSeenFromLeftSpec)

/-- 'laws.FnExactMostSeen', WHERE WHAT IT READS IS OF BULK AT MOST 1048576: true; the input reads as it did. -/
def fnExactMostSeenUptoRow : OpenClaim := { program := "ytnnhkogmppheeaa", sum := "389dda97e05bfa1807ea34ef5ba6840fa26f6c96a2876f3c5b0a00870caf7b47", func := "loop.example/g01373/laws.FnExactMostSeen", spec := "fnExactMostSeen", unfollowed := true, recurses := true, leaving := true, apart := false, narrowed := true }
def FnExactMostSeenUptoSaid : Prop := fnExactMostSeenUptoRow.holds Try.pinned (OpenSpec.upto fnExactMostSeenSpec)

/-- 'laws.FnExactRaiseBoard', WHERE WHAT IT READS IS OF BULK AT MOST 1048576: true; the input reads as it did. -/
def fnExactRaiseBoardUptoRow : OpenClaim := { program := "ytnnhkogmppheeaa", sum := "389dda97e05bfa1807ea34ef5ba6840fa26f6c96a2876f3c5b0a00870caf7b47", func := "loop.example/g01373/laws.FnExactRaiseBoard", spec := "fnExactRaiseBoard", apart := false, narrowed := true }
def FnExactRaiseBoardUptoSaid : Prop := fnExactRaiseBoardUptoRow.holds Try.pinned (OpenSpec.upto fnExactRaiseBoardSpec)

/-- 'laws.FnExactMirrorHeights', WHERE WHAT IT READS IS OF BULK AT MOST 1048576: true; the input reads as it did. -/
def fnExactMirrorHeightsUptoRow : OpenClaim := { program := "ytnnhkogmppheeaa", sum := "389dda97e05bfa1807ea34ef5ba6840fa26f6c96a2876f3c5b0a00870caf7b47", func := "loop.example/g01373/laws.FnExactMirrorHeights", spec := "fnExactMirrorHeights", apart := false, narrowed := true }
def FnExactMirrorHeightsUptoSaid : Prop := fnExactMirrorHeightsUptoRow.holds Try.pinned (OpenSpec.upto fnExactMirrorHeightsSpec)

end Rows
end Go.Proofs.Ytnnhkogmppheeaa
