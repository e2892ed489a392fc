/-
  No cell of these rows narrows 'for every input' (looked for: loops, veiled, ifaces, maps, wideKeys, modest, calm, conditions, laid).
  DERIVED. THE GIVEN ROWS OF THIS SEAT. 20 by the template 'for every input the law returns true; each argument reads behind the call as it read before'; 0 by the template 'total and deterministic' (their statements: YtfickmbfbmbjcaaTotals.lean).
  GIVEN WITH THE SEED: the statements are not yours to turn. If you find one false, say at which input.
  Laid BY PROGRAM, IN A SANDBOX (cutbox-rows.mjs): the forced cells as the released guide's own fill.sh prints them over the translation 4ec3797468855c2f… (all of the seat's roots in one cut). By AI agents, Wed Nov 11 2026. No macro, syntax, notation, axiom, sorry.
-/
import Derived.Test.YtfickmbfbmbjcaaChecked
import GoSem.Claim
import GoSem.ClaimJoined
import GoSem.ClaimMapViews
import Derived.JoinedTies
import Derived.KernelRfl
namespace Go.Proofs.Ytfickmbfbmbjcaa
/- THE CELL 'sum', in the pinned program and in every row, IS THE sha256 OF THE DUMP (.gsa) THAT YtfickmbfbmbjcaaProg.lean LOADS. Nothing in Lean hashes anything: it is a label: what it is worth is what the hold of that sum in a sandbox is worth. -/
noncomputable def Try.pinned : Pinned := { name := "ytfickmbfbmbjcaa", sum := "4ec3797468855c2f6a2c4c3bbd92cbb94cc3c0ca318f15925143a8416f4e83fd", checked := Try.checked }
namespace Rows
def none {H : Type} : Left H := { results := [], args := [] }

/-- 'laws.FnExactIsYard': WHATEVER THE INPUT: true; the input reads as it did. -/
def fnExactIsYardSpec : ChangeSpec := { name := "fnExactIsYard", fn := fun _ => fun
  | [d] => { results := [.lit (.bool true)], args := [d] }
  | _ => none }
def fnExactIsYardRow : OpenClaim := { program := "ytfickmbfbmbjcaa", sum := "4ec3797468855c2f6a2c4c3bbd92cbb94cc3c0ca318f15925143a8416f4e83fd", func := "loop.example/g01373/laws.FnExactIsYard", spec := "fnExactIsYard", apart := false }
def FnExactIsYardSaid : Prop := fnExactIsYardRow.holds Try.pinned (OpenSpec.ofChange fnExactIsYardSpec)

/-- ITS FALSE NEIGHBOUR: 'it returns false'. Refute it at one input. -/
def fnExactIsYardWrong : ChangeSpec := { name := "fnExactIsYard", fn := fun _ => fun
  | [d] => { results := [.lit (.bool false)], args := [d] }
  | _ => none }
def FnExactIsYardWrongFalsely : Prop := fnExactIsYardRow.holds Try.pinned (OpenSpec.ofChange fnExactIsYardWrong)

/-- 'laws.FnExactBrokenOf': WHATEVER THE INPUT: true; the input reads as it did. -/
def fnExactBrokenOfSpec : ChangeSpec := { name := "fnExactBrokenOf", fn := fun _ => fun
  | [d] => { results := [.lit (.bool true)], args := [d] }
  | _ => none }
def fnExactBrokenOfRow : OpenClaim := { program := "ytfickmbfbmbjcaa", sum := "4ec3797468855c2f6a2c4c3bbd92cbb94cc3c0ca318f15925143a8416f4e83fd", func := "loop.example/g01373/laws.FnExactBrokenOf", spec := "fnExactBrokenOf", apart := false }
def FnExactBrokenOfSaid : Prop := fnExactBrokenOfRow.holds Try.pinned (OpenSpec.ofChange fnExactBrokenOfSpec)

/-- ITS FALSE NEIGHBOUR: 'it returns false'. Refute it at one input. -/
def fnExactBrokenOfWrong : ChangeSpec := { name := "fnExactBrokenOf", fn := fun _ => fun
  | [d] => { results := [.lit (.bool false)], args := [d] }
  | _ => none }
def FnExactBrokenOfWrongFalsely : Prop := fnExactBrokenOfRow.holds Try.pinned (OpenSpec.ofChange fnExactBrokenOfWrong)

/-- 'laws.FnExactYardOf': WHATEVER THE INPUT: true; the input reads as it did. -/
def fnExactYardOfSpec : ChangeSpec := { name := "fnExactYardOf", fn := fun _ => fun
  | [d1, d2] => { results := [.lit (.bool true)], args := [d1, d2] }
  | _ => none }
def fnExactYardOfRow : OpenClaim := { program := "ytfickmbfbmbjcaa", sum := "4ec3797468855c2f6a2c4c3bbd92cbb94cc3c0ca318f15925143a8416f4e83fd", func := "loop.example/g01373/laws.FnExactYardOf", spec := "fnExactYardOf", inPlace := ["internal/abi.NoEscape", "internal/bytealg.MakeNoZero"], apart := false }
def FnExactYardOfSaid : Prop := fnExactYardOfRow.holds Try.pinned (OpenSpec.ofChange fnExactYardOfSpec)

/-- ITS FALSE NEIGHBOUR: 'it returns false'. Refute it at one input. -/
def fnExactYardOfWrong : ChangeSpec := { name := "fnExactYardOf", fn := fun _ => fun
  | [d1, d2] => { results := [.lit (.bool false)], args := [d1, d2] }
  | _ => none }
def FnExactYardOfWrongFalsely : Prop := fnExactYardOfRow.holds Try.pinned (OpenSpec.ofChange fnExactYardOfWrong)

/-- 'laws.FnExactGapsOf': WHATEVER THE INPUT: true; the input reads as it did. -/
def fnExactGapsOfSpec : ChangeSpec := { name := "fnExactGapsOf", fn := fun _ => fun
  | [d] => { results := [.lit (.bool true)], args := [d] }
  | _ => none }
def fnExactGapsOfRow : OpenClaim := { program := "ytfickmbfbmbjcaa", sum := "4ec3797468855c2f6a2c4c3bbd92cbb94cc3c0ca318f15925143a8416f4e83fd", func := "loop.example/g01373/laws.FnExactGapsOf", spec := "fnExactGapsOf", unfollowed := true, recurses := true, leaving := true, apart := false }
def FnExactGapsOfSaid : Prop := fnExactGapsOfRow.holds Try.pinned (OpenSpec.ofChange fnExactGapsOfSpec)

/-- ITS FALSE NEIGHBOUR: 'it returns false'. Refute it at one input. -/
def fnExactGapsOfWrong : ChangeSpec := { name := "fnExactGapsOf", fn := fun _ => fun
  | [d] => { results := [.lit (.bool false)], args := [d] }
  | _ => none }
def FnExactGapsOfWrongFalsely : Prop := fnExactGapsOfRow.holds Try.pinned (OpenSpec.ofChange fnExactGapsOfWrong)

/-- 'laws.FnExactSoundParts': WHATEVER THE INPUT: true; the input reads as it did. -/
def fnExactSoundPartsSpec : ChangeSpec := { name := "fnExactSoundParts", fn := fun _ => fun
  | [d] => { results := [.lit (.bool true)], args := [d] }
  | _ => none }
def fnExactSoundPartsRow : OpenClaim := { program := "ytfickmbfbmbjcaa", sum := "4ec3797468855c2f6a2c4c3bbd92cbb94cc3c0ca318f15925143a8416f4e83fd", func := "loop.example/g01373/laws.FnExactSoundParts", spec := "fnExactSoundParts", apart := false }
def FnExactSoundPartsSaid : Prop := fnExactSoundPartsRow.holds Try.pinned (OpenSpec.ofChange fnExactSoundPartsSpec)

/-- ITS FALSE NEIGHBOUR: 'it returns false'. Refute it at one input. -/
def fnExactSoundPartsWrong : ChangeSpec := { name := "fnExactSoundParts", fn := fun _ => fun
  | [d] => { results := [.lit (.bool false)], args := [d] }
  | _ => none }
def FnExactSoundPartsWrongFalsely : Prop := fnExactSoundPartsRow.holds Try.pinned (OpenSpec.ofChange fnExactSoundPartsWrong)

/-- 'laws.FnExactLongestSound': WHATEVER THE INPUT: true; the input reads as it did. -/
def fnExactLongestSoundSpec : ChangeSpec := { name := "fnExactLongestSound", fn := fun _ => fun
  | [d] => { results := [.lit (.bool true)], args := [d] }
  | _ => none }
def fnExactLongestSoundRow : OpenClaim := { program := "ytfickmbfbmbjcaa", sum := "4ec3797468855c2f6a2c4c3bbd92cbb94cc3c0ca318f15925143a8416f4e83fd", func := "loop.example/g01373/laws.FnExactLongestSound", spec := "fnExactLongestSound", apart := false }
def FnExactLongestSoundSaid : Prop := fnExactLongestSoundRow.holds Try.pinned (OpenSpec.ofChange fnExactLongestSoundSpec)

/-- ITS FALSE NEIGHBOUR: 'it returns false'. Refute it at one input. -/
def fnExactLongestSoundWrong : ChangeSpec := { name := "fnExactLongestSound", fn := fun _ => fun
  | [d] => { results := [.lit (.bool false)], args := [d] }
  | _ => none }
def FnExactLongestSoundWrongFalsely : Prop := fnExactLongestSoundRow.holds Try.pinned (OpenSpec.ofChange fnExactLongestSoundWrong)

/-- 'laws.FnExactLeastBoards': WHATEVER THE INPUT: true; the input reads as it did. -/
def fnExactLeastBoardsSpec : ChangeSpec := { name := "fnExactLeastBoards", fn := fun _ => fun
  | [d1, d2] => { results := [.lit (.bool true)], args := [d1, d2] }
  | _ => none }
def fnExactLeastBoardsRow : OpenClaim := { program := "ytfickmbfbmbjcaa", sum := "4ec3797468855c2f6a2c4c3bbd92cbb94cc3c0ca318f15925143a8416f4e83fd", func := "loop.example/g01373/laws.FnExactLeastBoards", spec := "fnExactLeastBoards", inPlace := ["internal/bytealg.IndexByteString"], unfollowed := true, recurses := true, leaving := true, apart := false }
def FnExactLeastBoardsSaid : Prop := fnExactLeastBoardsRow.holds Try.pinned (OpenSpec.ofChange fnExactLeastBoardsSpec)

/-- ITS FALSE NEIGHBOUR: 'it returns false'. Refute it at one input. -/
def fnExactLeastBoardsWrong : ChangeSpec := { name := "fnExactLeastBoards", fn := fun _ => fun
  | [d1, d2] => { results := [.lit (.bool false)], args := [d1, d2] }
  | _ => none }
def FnExactLeastBoardsWrongFalsely : Prop := fnExactLeastBoardsRow.holds Try.pinned (OpenSpec.ofChange fnExactLeastBoardsWrong)

/-- 'laws.FnExactFirstPatches': WHATEVER THE INPUT: true; the input reads as it did. -/
def fnExactFirstPatchesSpec : ChangeSpec := { name := "fnExactFirstPatches", fn := fun _ => fun
  | [d1, d2] => { results := [.lit (.bool true)], args := [d1, d2] }
  | _ => none }
def fnExactFirstPatchesRow : OpenClaim := { program := "ytfickmbfbmbjcaa", sum := "4ec3797468855c2f6a2c4c3bbd92cbb94cc3c0ca318f15925143a8416f4e83fd", func := "loop.example/g01373/laws.FnExactFirstPatches", spec := "fnExactFirstPatches", inPlace := ["internal/bytealg.IndexByteString"], unfollowed := true, recurses := true, leaving := true, apart := false }
def FnExactFirstPatchesSaid : Prop := fnExactFirstPatchesRow.holds Try.pinned (OpenSpec.ofChange fnExactFirstPatchesSpec)

/-- ITS FALSE NEIGHBOUR: 'it returns false'. Refute it at one input. -/
def fnExactFirstPatchesWrong : ChangeSpec := { name := "fnExactFirstPatches", fn := fun _ => fun
  | [d1, d2] => { results := [.lit (.bool false)], args := [d1, d2] }
  | _ => none }
def FnExactFirstPatchesWrongFalsely : Prop := fnExactFirstPatchesRow.holds Try.pinned (OpenSpec.ofChange fnExactFirstPatchesWrong)

/-- 'laws.FnExactFewestPatches': WHATEVER THE INPUT: true; the input reads as it did. -/
def fnExactFewestPatchesSpec : ChangeSpec := { name := "fnExactFewestPatches", fn := fun _ => fun
  | [d1, d2] => { results := [.lit (.bool true)], args := [d1, d2] }
  | _ => none }
def fnExactFewestPatchesRow : OpenClaim := { program := "ytfickmbfbmbjcaa", sum := "4ec3797468855c2f6a2c4c3bbd92cbb94cc3c0ca318f15925143a8416f4e83fd", func := "loop.example/g01373/laws.FnExactFewestPatches", spec := "fnExactFewestPatches", inPlace := ["internal/bytealg.IndexByteString"], unfollowed := true, recurses := true, leaving := true, apart := false }
def FnExactFewestPatchesSaid : Prop := fnExactFewestPatchesRow.holds Try.pinned (OpenSpec.ofChange fnExactFewestPatchesSpec)

/-- ITS FALSE NEIGHBOUR: 'it returns false'. Refute it at one input. -/
def fnExactFewestPatchesWrong : ChangeSpec := { name := "fnExactFewestPatches", fn := fun _ => fun
  | [d1, d2] => { results := [.lit (.bool false)], args := [d1, d2] }
  | _ => none }
def FnExactFewestPatchesWrongFalsely : Prop := fnExactFewestPatchesRow.holds Try.pinned (OpenSpec.ofChange fnExactFewestPatchesWrong)

/-- 'laws.FnExactFewestOfLength': WHATEVER THE INPUT: true; the input reads as it did. -/
def fnExactFewestOfLengthSpec : ChangeSpec := { name := "fnExactFewestOfLength", fn := fun _ => fun
  | [d1, d2] => { results := [.lit (.bool true)], args := [d1, d2] }
  | _ => none }
def fnExactFewestOfLengthRow : OpenClaim := { program := "ytfickmbfbmbjcaa", sum := "4ec3797468855c2f6a2c4c3bbd92cbb94cc3c0ca318f15925143a8416f4e83fd", func := "loop.example/g01373/laws.FnExactFewestOfLength", spec := "fnExactFewestOfLength", apart := false }
def FnExactFewestOfLengthSaid : Prop := fnExactFewestOfLengthRow.holds Try.pinned (OpenSpec.ofChange fnExactFewestOfLengthSpec)

/-- ITS FALSE NEIGHBOUR: 'it returns false'. Refute it at one input. -/
def fnExactFewestOfLengthWrong : ChangeSpec := { name := "fnExactFewestOfLength", fn := fun _ => fun
  | [d1, d2] => { results := [.lit (.bool false)], args := [d1, d2] }
  | _ => none }
def FnExactFewestOfLengthWrongFalsely : Prop := fnExactFewestOfLengthRow.holds Try.pinned (OpenSpec.ofChange fnExactFewestOfLengthWrong)

/-- 'laws.FnExactStartsOfLength': WHATEVER THE INPUT: true; the input reads as it did. -/
def fnExactStartsOfLengthSpec : ChangeSpec := { name := "fnExactStartsOfLength", fn := fun _ => fun
  | [d1, d2] => { results := [.lit (.bool true)], args := [d1, d2] }
  | _ => none }
def fnExactStartsOfLengthRow : OpenClaim := { program := "ytfickmbfbmbjcaa", sum := "4ec3797468855c2f6a2c4c3bbd92cbb94cc3c0ca318f15925143a8416f4e83fd", func := "loop.example/g01373/laws.FnExactStartsOfLength", spec := "fnExactStartsOfLength", apart := false }
def FnExactStartsOfLengthSaid : Prop := fnExactStartsOfLengthRow.holds Try.pinned (OpenSpec.ofChange fnExactStartsOfLengthSpec)

/-- ITS FALSE NEIGHBOUR: 'it returns false'. Refute it at one input. -/
def fnExactStartsOfLengthWrong : ChangeSpec := { name := "fnExactStartsOfLength", fn := fun _ => fun
  | [d1, d2] => { results := [.lit (.bool false)], args := [d1, d2] }
  | _ => none }
def FnExactStartsOfLengthWrongFalsely : Prop := fnExactStartsOfLengthRow.holds Try.pinned (OpenSpec.ofChange fnExactStartsOfLengthWrong)

/-- 'laws.FnExactAreCovering': WHATEVER THE INPUT: true; the input reads as it did. -/
def fnExactAreCoveringSpec : ChangeSpec := { name := "fnExactAreCovering", fn := fun _ => fun
  | [d1, d2] => { results := [.lit (.bool true)], args := [d1, d2] }
  | _ => none }
def fnExactAreCoveringRow : OpenClaim := { program := "ytfickmbfbmbjcaa", sum := "4ec3797468855c2f6a2c4c3bbd92cbb94cc3c0ca318f15925143a8416f4e83fd", func := "loop.example/g01373/laws.FnExactAreCovering", spec := "fnExactAreCovering", inPlace := ["internal/abi.NoEscape", "internal/bytealg.MakeNoZero", "internal/bytealg.IndexByteString", "internal/bytealg.IndexString"], named := ["internal/bytealg.MaxLen"], apart := false }
def FnExactAreCoveringSaid : Prop := fnExactAreCoveringRow.holds Try.pinned (OpenSpec.ofChange fnExactAreCoveringSpec)

/-- ITS FALSE NEIGHBOUR: 'it returns false'. Refute it at one input. -/
def fnExactAreCoveringWrong : ChangeSpec := { name := "fnExactAreCovering", fn := fun _ => fun
  | [d1, d2] => { results := [.lit (.bool false)], args := [d1, d2] }
  | _ => none }
def FnExactAreCoveringWrongFalsely : Prop := fnExactAreCoveringRow.holds Try.pinned (OpenSpec.ofChange fnExactAreCoveringWrong)

/-- 'laws.FnExactLeastPrice': WHATEVER THE INPUT: true; the input reads as it did. -/
def fnExactLeastPriceSpec : ChangeSpec := { name := "fnExactLeastPrice", fn := fun _ => fun
  | [d1, d2, d3] => { results := [.lit (.bool true)], args := [d1, d2, d3] }
  | _ => none }
def fnExactLeastPriceRow : OpenClaim := { program := "ytfickmbfbmbjcaa", sum := "4ec3797468855c2f6a2c4c3bbd92cbb94cc3c0ca318f15925143a8416f4e83fd", func := "loop.example/g01373/laws.FnExactLeastPrice", spec := "fnExactLeastPrice", inPlace := ["internal/bytealg.IndexByteString"], unfollowed := true, recurses := true, leaving := true, apart := false }
def FnExactLeastPriceSaid : Prop := fnExactLeastPriceRow.holds Try.pinned (OpenSpec.ofChange fnExactLeastPriceSpec)

/-- ITS FALSE NEIGHBOUR: 'it returns false'. Refute it at one input. -/
def fnExactLeastPriceWrong : ChangeSpec := { name := "fnExactLeastPrice", fn := fun _ => fun
  | [d1, d2, d3] => { results := [.lit (.bool false)], args := [d1, d2, d3] }
  | _ => none }
def FnExactLeastPriceWrongFalsely : Prop := fnExactLeastPriceRow.holds Try.pinned (OpenSpec.ofChange fnExactLeastPriceWrong)

/-- 'laws.FnExactPatchesForPrice': WHATEVER THE INPUT: true; the input reads as it did. -/
def fnExactPatchesForPriceSpec : ChangeSpec := { name := "fnExactPatchesForPrice", fn := fun _ => fun
  | [d1, d2, d3] => { results := [.lit (.bool true)], args := [d1, d2, d3] }
  | _ => none }
def fnExactPatchesForPriceRow : OpenClaim := { program := "ytfickmbfbmbjcaa", sum := "4ec3797468855c2f6a2c4c3bbd92cbb94cc3c0ca318f15925143a8416f4e83fd", func := "loop.example/g01373/laws.FnExactPatchesForPrice", spec := "fnExactPatchesForPrice", inPlace := ["internal/bytealg.IndexByteString"], unfollowed := true, recurses := true, leaving := true, apart := false }
def FnExactPatchesForPriceSaid : Prop := fnExactPatchesForPriceRow.holds Try.pinned (OpenSpec.ofChange fnExactPatchesForPriceSpec)

/-- ITS FALSE NEIGHBOUR: 'it returns false'. Refute it at one input. -/
def fnExactPatchesForPriceWrong : ChangeSpec := { name := "fnExactPatchesForPrice", fn := fun _ => fun
  | [d1, d2, d3] => { results := [.lit (.bool false)], args := [d1, d2, d3] }
  | _ => none }
def FnExactPatchesForPriceWrongFalsely : Prop := fnExactPatchesForPriceRow.holds Try.pinned (OpenSpec.ofChange fnExactPatchesForPriceWrong)

/-- 'laws.FnExactIdlePatches': WHATEVER THE INPUT: true; the input reads as it did. -/
def fnExactIdlePatchesSpec : ChangeSpec := { name := "fnExactIdlePatches", fn := fun _ => fun
  | [d1, d2] => { results := [.lit (.bool true)], args := [d1, d2] }
  | _ => none }
def fnExactIdlePatchesRow : OpenClaim := { program := "ytfickmbfbmbjcaa", sum := "4ec3797468855c2f6a2c4c3bbd92cbb94cc3c0ca318f15925143a8416f4e83fd", func := "loop.example/g01373/laws.FnExactIdlePatches", spec := "fnExactIdlePatches", inPlace := ["internal/abi.NoEscape", "internal/bytealg.MakeNoZero", "internal/bytealg.IndexByteString", "internal/bytealg.IndexString"], named := ["internal/bytealg.MaxLen"], apart := false }
def FnExactIdlePatchesSaid : Prop := fnExactIdlePatchesRow.holds Try.pinned (OpenSpec.ofChange fnExactIdlePatchesSpec)

/-- ITS FALSE NEIGHBOUR: 'it returns false'. Refute it at one input. -/
def fnExactIdlePatchesWrong : ChangeSpec := { name := "fnExactIdlePatches", fn := fun _ => fun
  | [d1, d2] => { results := [.lit (.bool false)], args := [d1, d2] }
  | _ => none }
def FnExactIdlePatchesWrongFalsely : Prop := fnExactIdlePatchesRow.holds Try.pinned (OpenSpec.ofChange fnExactIdlePatchesWrong)

/-- 'laws.FnExactBreakBoard': WHATEVER THE INPUT: true; the input reads as it did. -/
def fnExactBreakBoardSpec : ChangeSpec := { name := "fnExactBreakBoard", fn := fun _ => fun
  | [d1, d2] => { results := [.lit (.bool true)], args := [d1, d2] }
  | _ => none }
def fnExactBreakBoardRow : OpenClaim := { program := "ytfickmbfbmbjcaa", sum := "4ec3797468855c2f6a2c4c3bbd92cbb94cc3c0ca318f15925143a8416f4e83fd", func := "loop.example/g01373/laws.FnExactBreakBoard", spec := "fnExactBreakBoard", apart := false }
def FnExactBreakBoardSaid : Prop := fnExactBreakBoardRow.holds Try.pinned (OpenSpec.ofChange fnExactBreakBoardSpec)

/-- ITS FALSE NEIGHBOUR: 'it returns false'. Refute it at one input. -/
def fnExactBreakBoardWrong : ChangeSpec := { name := "fnExactBreakBoard", fn := fun _ => fun
  | [d1, d2] => { results := [.lit (.bool false)], args := [d1, d2] }
  | _ => none }
def FnExactBreakBoardWrongFalsely : Prop := fnExactBreakBoardRow.holds Try.pinned (OpenSpec.ofChange fnExactBreakBoardWrong)

/-- 'laws.FnExactMendBoards': WHATEVER THE INPUT: true; the input reads as it did. -/
def fnExactMendBoardsSpec : ChangeSpec := { name := "fnExactMendBoards", fn := fun _ => fun
  | [d1, d2, d3] => { results := [.lit (.bool true)], args := [d1, d2, d3] }
  | _ => none }
def fnExactMendBoardsRow : OpenClaim := { program := "ytfickmbfbmbjcaa", sum := "4ec3797468855c2f6a2c4c3bbd92cbb94cc3c0ca318f15925143a8416f4e83fd", func := "loop.example/g01373/laws.FnExactMendBoards", spec := "fnExactMendBoards", inPlace := ["internal/abi.NoEscape", "internal/bytealg.MakeNoZero"], apart := false }
def FnExactMendBoardsSaid : Prop := fnExactMendBoardsRow.holds Try.pinned (OpenSpec.ofChange fnExactMendBoardsSpec)

/-- ITS FALSE NEIGHBOUR: 'it returns false'. Refute it at one input. -/
def fnExactMendBoardsWrong : ChangeSpec := { name := "fnExactMendBoards", fn := fun _ => fun
  | [d1, d2, d3] => { results := [.lit (.bool false)], args := [d1, d2, d3] }
  | _ => none }
def FnExactMendBoardsWrongFalsely : Prop := fnExactMendBoardsRow.holds Try.pinned (OpenSpec.ofChange fnExactMendBoardsWrong)

/-- 'laws.FnExactWorstBreak': WHATEVER THE INPUT: true; the input reads as it did. -/
def fnExactWorstBreakSpec : ChangeSpec := { name := "fnExactWorstBreak", fn := fun _ => fun
  | [d1, d2] => { results := [.lit (.bool true)], args := [d1, d2] }
  | _ => none }
def fnExactWorstBreakRow : OpenClaim := { program := "ytfickmbfbmbjcaa", sum := "4ec3797468855c2f6a2c4c3bbd92cbb94cc3c0ca318f15925143a8416f4e83fd", func := "loop.example/g01373/laws.FnExactWorstBreak", spec := "fnExactWorstBreak", inPlace := ["internal/bytealg.IndexByteString"], unfollowed := true, recurses := true, leaving := true, apart := false }
def FnExactWorstBreakSaid : Prop := fnExactWorstBreakRow.holds Try.pinned (OpenSpec.ofChange fnExactWorstBreakSpec)

/-- ITS FALSE NEIGHBOUR: 'it returns false'. Refute it at one input. -/
def fnExactWorstBreakWrong : ChangeSpec := { name := "fnExactWorstBreak", fn := fun _ => fun
  | [d1, d2] => { results := [.lit (.bool false)], args := [d1, d2] }
  | _ => none }
def FnExactWorstBreakWrongFalsely : Prop := fnExactWorstBreakRow.holds Try.pinned (OpenSpec.ofChange fnExactWorstBreakWrong)

/-- 'laws.FnExactMirrorYard': WHATEVER THE INPUT: true; the input reads as it did. -/
def fnExactMirrorYardSpec : ChangeSpec := { name := "fnExactMirrorYard", fn := fun _ => fun
  | [d] => { results := [.lit (.bool true)], args := [d] }
  | _ => none }
def fnExactMirrorYardRow : OpenClaim := { program := "ytfickmbfbmbjcaa", sum := "4ec3797468855c2f6a2c4c3bbd92cbb94cc3c0ca318f15925143a8416f4e83fd", func := "loop.example/g01373/laws.FnExactMirrorYard", spec := "fnExactMirrorYard", apart := false }
def FnExactMirrorYardSaid : Prop := fnExactMirrorYardRow.holds Try.pinned (OpenSpec.ofChange fnExactMirrorYardSpec)

/-- ITS FALSE NEIGHBOUR: 'it returns false'. Refute it at one input. -/
def fnExactMirrorYardWrong : ChangeSpec := { name := "fnExactMirrorYard", fn := fun _ => fun
  | [d] => { results := [.lit (.bool false)], args := [d] }
  | _ => none }
def FnExactMirrorYardWrongFalsely : Prop := fnExactMirrorYardRow.holds Try.pinned (OpenSpec.ofChange fnExactMirrorYardWrong)

/-- 'laws.FnExactMirrorFence': WHATEVER THE INPUT: true; the input reads as it did. -/
def fnExactMirrorFenceSpec : ChangeSpec := { name := "fnExactMirrorFence", fn := fun _ => fun
  | [d] => { results := [.lit (.bool true)], args := [d] }
  | _ => none }
def fnExactMirrorFenceRow : OpenClaim := { program := "ytfickmbfbmbjcaa", sum := "4ec3797468855c2f6a2c4c3bbd92cbb94cc3c0ca318f15925143a8416f4e83fd", func := "loop.example/g01373/laws.FnExactMirrorFence", spec := "fnExactMirrorFence", inPlace := ["internal/bytealg.IndexByteString", "internal/bytealg.IndexString"], named := ["internal/bytealg.MaxLen"], apart := false }
def FnExactMirrorFenceSaid : Prop := fnExactMirrorFenceRow.holds Try.pinned (OpenSpec.ofChange fnExactMirrorFenceSpec)

/-- ITS FALSE NEIGHBOUR: 'it returns false'. Refute it at one input. -/
def fnExactMirrorFenceWrong : ChangeSpec := { name := "fnExactMirrorFence", fn := fun _ => fun
  | [d] => { results := [.lit (.bool false)], args := [d] }
  | _ => none }
def FnExactMirrorFenceWrongFalsely : Prop := fnExactMirrorFenceRow.holds Try.pinned (OpenSpec.ofChange fnExactMirrorFenceWrong)

/- THE SECOND FORM. 'bulk': how many values and letters a reading holds, each counted each time it is reached (what is shared counts as often as it is met; a slice's spare places count too). A statement '..UptoSaid' is the law's where the arguments, and the package variables that the reading takes, are together of bulk at most 1048576: NARROWER than '..Said'. Prove '..Said' where nothing that the law and all that it calls make is longer than what came in: it says more and counts as full. Else prove '..UptoSaid'. A law counts once. -/
mutual
def uptoBulk {H : Type} : DataW H → Nat
  | .lit (.string bytes) => bytes.length + 1
  | .lit _ => 1
  | .nil => 1
  | .ptr d => uptoBulk d + 1
  | .slice elems spare => uptoBulkAll elems + uptoBulkAll spare + 1
  | .agg parts => uptoBulkAll parts + 1
  | .iface _ d => uptoBulk d + 1
  | .map entries => uptoBulkEntries entries + 1
  | .held _ => 1
def uptoBulkAll {H : Type} : List (DataW H) → Nat
  | [] => 0
  | d :: r => uptoBulk d + uptoBulkAll r
def uptoBulkEntries {H : Type} : List (Lit × DataW H) → Nat
  | [] => 0
  | x :: r => uptoBulkEntry x + uptoBulkEntries r
def uptoBulkEntry {H : Type} : Lit × DataW H → Nat
  | (.string bytes, d) => bytes.length + uptoBulk d + 1
  | (_, d) => uptoBulk d + 1
 end
def uptoSmall : (H : Type) → List (DataW H) → Bool := fun _ ds => decide (uptoBulkAll ds ≤ 1048576)
def OpenSpec.upto (s : _root_.Go.ChangeSpec) : _root_.Go.OpenSpec := { _root_.Go.OpenSpec.ofChange s with cond := some uptoSmall }

/-- 'laws.FnExactIsYard', WHERE WHAT IT READS IS OF BULK AT MOST 1048576: true; the input reads as it did. -/
def fnExactIsYardUptoRow : OpenClaim := { program := "ytfickmbfbmbjcaa", sum := "4ec3797468855c2f6a2c4c3bbd92cbb94cc3c0ca318f15925143a8416f4e83fd", func := "loop.example/g01373/laws.FnExactIsYard", spec := "fnExactIsYard", apart := false, narrowed := true }
def FnExactIsYardUptoSaid : Prop := fnExactIsYardUptoRow.holds Try.pinned (OpenSpec.upto fnExactIsYardSpec)

/-- 'laws.FnExactBrokenOf', WHERE WHAT IT READS IS OF BULK AT MOST 1048576: true; the input reads as it did. -/
def fnExactBrokenOfUptoRow : OpenClaim := { program := "ytfickmbfbmbjcaa", sum := "4ec3797468855c2f6a2c4c3bbd92cbb94cc3c0ca318f15925143a8416f4e83fd", func := "loop.example/g01373/laws.FnExactBrokenOf", spec := "fnExactBrokenOf", apart := false, narrowed := true }
def FnExactBrokenOfUptoSaid : Prop := fnExactBrokenOfUptoRow.holds Try.pinned (OpenSpec.upto fnExactBrokenOfSpec)

/-- 'laws.FnExactYardOf', WHERE WHAT IT READS IS OF BULK AT MOST 1048576: true; the input reads as it did. -/
def fnExactYardOfUptoRow : OpenClaim := { program := "ytfickmbfbmbjcaa", sum := "4ec3797468855c2f6a2c4c3bbd92cbb94cc3c0ca318f15925143a8416f4e83fd", func := "loop.example/g01373/laws.FnExactYardOf", spec := "fnExactYardOf", inPlace := ["internal/abi.NoEscape", "internal/bytealg.MakeNoZero"], apart := false, narrowed := true }
def FnExactYardOfUptoSaid : Prop := fnExactYardOfUptoRow.holds Try.pinned (OpenSpec.upto fnExactYardOfSpec)

/-- 'laws.FnExactGapsOf', WHERE WHAT IT READS IS OF BULK AT MOST 1048576: true; the input reads as it did. -/
def fnExactGapsOfUptoRow : OpenClaim := { program := "ytfickmbfbmbjcaa", sum := "4ec3797468855c2f6a2c4c3bbd92cbb94cc3c0ca318f15925143a8416f4e83fd", func := "loop.example/g01373/laws.FnExactGapsOf", spec := "fnExactGapsOf", unfollowed := true, recurses := true, leaving := true, apart := false, narrowed := true }
def FnExactGapsOfUptoSaid : Prop := fnExactGapsOfUptoRow.holds Try.pinned (OpenSpec.upto fnExactGapsOfSpec)

/-- 'laws.FnExactSoundParts', WHERE WHAT IT READS IS OF BULK AT MOST 1048576: true; the input reads as it did. -/
def fnExactSoundPartsUptoRow : OpenClaim := { program := "ytfickmbfbmbjcaa", sum := "4ec3797468855c2f6a2c4c3bbd92cbb94cc3c0ca318f15925143a8416f4e83fd", func := "loop.example/g01373/laws.FnExactSoundParts", spec := "fnExactSoundParts", apart := false, narrowed := true }
def FnExactSoundPartsUptoSaid : Prop := fnExactSoundPartsUptoRow.holds Try.pinned (OpenSpec.upto fnExactSoundPartsSpec)

/-- 'laws.FnExactLongestSound', WHERE WHAT IT READS IS OF BULK AT MOST 1048576: true; the input reads as it did. -/
def fnExactLongestSoundUptoRow : OpenClaim := { program := "ytfickmbfbmbjcaa", sum := "4ec3797468855c2f6a2c4c3bbd92cbb94cc3c0ca318f15925143a8416f4e83fd", func := "loop.example/g01373/laws.FnExactLongestSound", spec := "fnExactLongestSound", apart := false, narrowed := true }
def FnExactLongestSoundUptoSaid : Prop := fnExactLongestSoundUptoRow.holds Try.pinned (OpenSpec.upto fnExactLongestSoundSpec)

/-- 'laws.FnExactLeastBoards', WHERE WHAT IT READS IS OF BULK AT MOST 1048576: true; the input reads as it did. -/
def fnExactLeastBoardsUptoRow : OpenClaim := { program := "ytfickmbfbmbjcaa", sum := "4ec3797468855c2f6a2c4c3bbd92cbb94cc3c0ca318f15925143a8416f4e83fd", func := "loop.example/g01373/laws.FnExactLeastBoards", spec := "fnExactLeastBoards", inPlace := ["internal/bytealg.IndexByteString"], unfollowed := true, recurses := true, leaving := true, apart := false, narrowed := true }
def FnExactLeastBoardsUptoSaid : Prop := fnExactLeastBoardsUptoRow.holds Try.pinned (OpenSpec.upto fnExactLeastBoardsSpec)

/-- 'laws.FnExactFirstPatches', WHERE WHAT IT READS IS OF BULK AT MOST 1048576: true; the input reads as it did. -/
def fnExactFirstPatchesUptoRow : OpenClaim := { program := "ytfickmbfbmbjcaa", sum := "4ec3797468855c2f6a2c4c3bbd92cbb94cc3c0ca318f15925143a8416f4e83fd", func := "loop.example/g01373/laws.FnExactFirstPatches", spec := "fnExactFirstPatches", inPlace := ["internal/bytealg.IndexByteString"], unfollowed := true, recurses := true, leaving := true, apart := false, narrowed := true }
def FnExactFirstPatchesUptoSaid : Prop := fnExactFirstPatchesUptoRow.holds Try.pinned (OpenSpec.upto fnExactFirstPatchesSpec)

/-- 'laws.FnExactFewestPatches', WHERE WHAT IT READS IS OF BULK AT MOST 1048576: true; the input reads as it did. -/
def fnExactFewestPatchesUptoRow : OpenClaim := { program := "ytfickmbfbmbjcaa", sum := "4ec3797468855c2f6a2c4c3bbd92cbb94cc3c0ca318f15925143a8416f4e83fd", func := "loop.example/g01373/laws.FnExactFewestPatches", spec := "fnExactFewestPatches", inPlace := ["internal/bytealg.IndexByteString"], unfollowed := true, recurses := true, leaving := true, apart := false, narrowed := true }
def FnExactFewestPatchesUptoSaid : Prop := fnExactFewestPatchesUptoRow.holds Try.pinned (OpenSpec.upto fnExactFewestPatchesSpec)

/-- 'laws.FnExactFewestOfLength', WHERE WHAT IT READS IS OF BULK AT MOST 1048576: true; the input reads as it did. -/
def fnExactFewestOfLengthUptoRow : OpenClaim := { program := "ytfickmbfbmbjcaa", sum := "4ec3797468855c2f6a2c4c3bbd92cbb94cc3c0ca318f15925143a8416f4e83fd", func := "loop.example/g01373/laws.FnExactFewestOfLength", spec := "fnExactFewestOfLength", apart := false, narrowed := true }
def FnExactFewestOfLengthUptoSaid : Prop := fnExactFewestOfLengthUptoRow.holds Try.pinned (OpenSpec.upto fnExactFewestOfLengthSpec)

/-- 'laws.FnExactStartsOfLength', WHERE WHAT IT READS IS OF BULK AT MOST 1048576: true; the input reads as it did. -/
def fnExactStartsOfLengthUptoRow : OpenClaim := { program := "ytfickmbfbmbjcaa", sum := "4ec3797468855c2f6a2c4c3bbd92cbb94cc3c0ca318f15925143a8416f4e83fd", func := "loop.example/g01373/laws.FnExactStartsOfLength", spec := "fnExactStartsOfLength", apart := false, narrowed := true }
def FnExactStartsOfLengthUptoSaid : Prop := fnExactStartsOfLengthUptoRow.holds Try.pinned (OpenSpec.upto fnExactStartsOfLengthSpec)

/-- 'laws.FnExactAreCovering', WHERE WHAT IT READS IS OF BULK AT MOST 1048576: true; the input reads as it did. -/
def fnExactAreCoveringUptoRow : OpenClaim := { program := "ytfickmbfbmbjcaa", sum := "4ec3797468855c2f6a2c4c3bbd92cbb94cc3c0ca318f15925143a8416f4e83fd", func := "loop.example/g01373/laws.FnExactAreCovering", spec := "fnExactAreCovering", inPlace := ["internal/abi.NoEscape", "internal/bytealg.MakeNoZero", "internal/bytealg.IndexByteString", "internal/bytealg.IndexString"], named := ["internal/bytealg.MaxLen"], apart := false, narrowed := true }
def FnExactAreCoveringUptoSaid : Prop := fnExactAreCoveringUptoRow.holds Try.pinned (OpenSpec.upto fnExactAreCoveringSpec)

/-- 'laws.FnExactLeastPrice', WHERE WHAT IT READS IS OF BULK AT MOST 1048576: true; the input reads as it did. -/
def fnExactLeastPriceUptoRow : OpenClaim := { program := "ytfickmbfbmbjcaa", sum := "4ec3797468855c2f6a2c4c3bbd92cbb94cc3c0ca318f15925143a8416f4e83fd", func := "loop.example/g01373/laws.FnExactLeastPrice", spec := "fnExactLeastPrice", inPlace := ["internal/bytealg.IndexByteString"], unfollowed := true, recurses := true, leaving := true, apart := false, narrowed := true }
def FnExactLeastPriceUptoSaid : Prop := fnExactLeastPriceUptoRow.holds Try.pinned (OpenSpec.upto fnExactLeastPriceSpec)

/-- 'laws.FnExactPatchesForPrice', WHERE WHAT IT READS IS OF BULK AT MOST 1048576: true; the input reads as it did. -/
def fnExactPatchesForPriceUptoRow : OpenClaim := { program := "ytfickmbfbmbjcaa", sum := "4ec3797468855c2f6a2c4c3bbd92cbb94cc3c0ca318f15925143a8416f4e83fd", func := "loop.example/g01373/laws.FnExactPatchesForPrice", spec := "fnExactPatchesForPrice", inPlace := ["internal/bytealg.IndexByteString"], unfollowed := true, recurses := true, leaving := true, apart := false, narrowed := true }
def FnExactPatchesForPriceUptoSaid : Prop := fnExactPatchesForPriceUptoRow.holds Try.pinned (OpenSpec.upto fnExactPatchesForPriceSpec)

/-- 'laws.FnExactIdlePatches', WHERE WHAT IT READS IS OF BULK AT MOST 1048576: true; the input reads as it did. -/
def fnExactIdlePatchesUptoRow : OpenClaim := { program := "ytfickmbfbmbjcaa", sum := "4ec3797468855c2f6a2c4c3bbd92cbb94cc3c0ca318f15925143a8416f4e83fd", func := "loop.example/g01373/laws.FnExactIdlePatches", spec := "fnExactIdlePatches", inPlace := ["internal/abi.NoEscape", "internal/bytealg.MakeNoZero", "internal/bytealg.IndexByteString", "internal/bytealg.IndexString"], named := ["internal/bytealg.MaxLen"], apart := false, narrowed := true }
def FnExactIdlePatchesUptoSaid : Prop := fnExactIdlePatchesUptoRow.holds Try.pinned (OpenSpec.upto fnExactIdlePatchesSpec)

/-- 'laws.FnExactBreakBoard', WHERE WHAT IT READS IS OF BULK AT MOST 1048576: true; the input reads as it did. -/
def fnExactBreakBoardUptoRow : OpenClaim := { program := "ytfickmbfbmbjcaa", sum := "4ec3797468855c2f6a2c4c3bbd92cbb94cc3c0ca318f15925143a8416f4e83fd", func := "loop.example/g01373/laws.FnExactBreakBoard", spec := "fnExactBreakBoard", apart := false, narrowed := true }
def FnExactBreakBoardUptoSaid : Prop := fnExactBreakBoardUptoRow.holds Try.pinned (OpenSpec.upto fnExactBreakBoardSpec)

/-- 'laws.FnExactMendBoards', WHERE WHAT IT READS IS OF BULK AT MOST 1048576: true; the input reads as it did. -/
def fnExactMendBoardsUptoRow : OpenClaim := { program := "ytfickmbfbmbjcaa", sum := "4ec3797468855c2f6a2c4c3bbd92cbb94cc3c0ca318f15925143a8416f4e83fd", func := "loop.example/g01373/laws.FnExactMendBoards", spec := "fnExactMendBoards", inPlace := ["internal/abi.NoEscape", "internal/bytealg.MakeNoZero"], apart := false, narrowed := true }
def FnExactMendBoardsUptoSaid : Prop := fnExactMendBoardsUptoRow.holds Try.pinned (OpenSpec.upto fnExactMendBoardsSpec)

/-- 'laws.FnExactWorstBreak', WHERE WHAT IT READS IS OF BULK AT MOST 1048576: true; the input reads as it did. -/
def fnExactWorstBreakUptoRow : OpenClaim := { program := "ytfickmbfbmbjcaa", sum := "4ec3797468855c2f6a2c4c3bbd92cbb94cc3c0ca318f15925143a8416f4e83fd", func := "loop.example/g01373/laws.FnExactWorstBreak", spec := "fnExactWorstBreak", inPlace := ["internal/bytealg.IndexByteString"], unfollowed := true, recurses := true, leaving := true, apart := false, narrowed := true }
def FnExactWorstBreakUptoSaid : Prop := fnExactWorstBreakUptoRow.holds Try.pinned (OpenSpec.upto fnExactWorstBreakSpec)

/-- 'laws.FnExactMirrorYard', WHERE WHAT IT READS IS OF BULK AT MOST 1048576: true; the input reads as it did. -/
def fnExactMirrorYardUptoRow : OpenClaim := { program := "ytfickmbfbmbjcaa", sum := "4ec3797468855c2f6a2c4c3bbd92cbb94cc3c0ca318f15925143a8416f4e83fd", func := "loop.example/g01373/laws.FnExactMirrorYard", spec := "fnExactMirrorYard", apart := false, narrowed := true }
def FnExactMirrorYardUptoSaid : Prop := fnExactMirrorYardUptoRow.holds Try.pinned (OpenSpec.upto fnExactMirrorYardSpec)

/-- 'laws.FnExactMirrorFence', WHERE WHAT IT READS IS OF BULK AT MOST 1048576: true; the input reads as it did. -/
def fnExactMirrorFenceUptoRow : OpenClaim := { program := "ytfickmbfbmbjcaa", sum := "4ec3797468855c2f6a2c4c3bbd92cbb94cc3c0ca318f15925143a8416f4e83fd", func := "loop.example/g01373/laws.FnExactMirrorFence", spec := "fnExactMirrorFence", inPlace := ["internal/bytealg.IndexByteString", "internal/bytealg.IndexString"], named := ["internal/bytealg.MaxLen"], apart := false, narrowed := true }
def FnExactMirrorFenceUptoSaid : Prop := fnExactMirrorFenceUptoRow.holds Try.pinned (OpenSpec.upto fnExactMirrorFenceSpec)

end Rows
end Go.Proofs.Ytfickmbfbmbjcaa
