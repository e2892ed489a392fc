/-
  No cell of these rows narrows 'for every input' (looked for: loops, veiled, ifaces, maps, wideKeys, modest, calm, conditions, laid).
  DERIVED. THE GIVEN ROWS OF THIS SEAT. 20 by the template 'for every input the law returns true; each argument reads behind the call as it read before'; 0 by the template 'total and deterministic' (their statements: YtacncacpcllgcaaTotals.lean).
  GIVEN WITH THE SEED: the statements are not yours to turn. If you find one false, say at which input.
  Laid BY PROGRAM, IN A SANDBOX (cutbox-rows.mjs): the forced cells as the released guide's own fill.sh prints them over the translation b1a949c103d757d2… (all of the seat's roots in one cut). By AI agents, Wed Nov 11 2026. No macro, syntax, notation, axiom, sorry.
-/
import Derived.Test.YtacncacpcllgcaaChecked
import GoSem.Claim
import GoSem.ClaimJoined
import GoSem.ClaimMapViews
import Derived.JoinedTies
import Derived.KernelRfl
namespace Go.Proofs.Ytacncacpcllgcaa
/- THE CELL 'sum', in the pinned program and in every row, IS THE sha256 OF THE DUMP (.gsa) THAT YtacncacpcllgcaaProg.lean LOADS. Nothing in Lean hashes anything: it is a label: what it is worth is what the hold of that sum in a sandbox is worth. -/
noncomputable def Try.pinned : Pinned := { name := "ytacncacpcllgcaa", sum := "b1a949c103d757d2d2f1daf03bff167b582bcb56d31f54aa4c6468dfc6f33953", checked := Try.checked }
namespace Rows
def none {H : Type} : Left H := { results := [], args := [] }

/-- 'laws.FnPostsPlaced': WHATEVER THE INPUT: true; the input reads as it did. -/
def fnPostsPlacedSpec : ChangeSpec := { name := "fnPostsPlaced", fn := fun _ => fun
  | [d1, d2] => { results := [.lit (.bool true)], args := [d1, d2] }
  | _ => none }
def fnPostsPlacedRow : OpenClaim := { program := "ytacncacpcllgcaa", sum := "b1a949c103d757d2d2f1daf03bff167b582bcb56d31f54aa4c6468dfc6f33953", func := "loop.example/g01373/laws.FnPostsPlaced", spec := "fnPostsPlaced", apart := false }
def FnPostsPlacedSaid : Prop := fnPostsPlacedRow.holds Try.pinned (OpenSpec.ofChange fnPostsPlacedSpec)

/-- ITS FALSE NEIGHBOUR: 'it returns false'. Refute it at one input. -/
def fnPostsPlacedWrong : ChangeSpec := { name := "fnPostsPlaced", fn := fun _ => fun
  | [d1, d2] => { results := [.lit (.bool false)], args := [d1, d2] }
  | _ => none }
def FnPostsPlacedWrongFalsely : Prop := fnPostsPlacedRow.holds Try.pinned (OpenSpec.ofChange fnPostsPlacedWrong)

/-- 'laws.FnExactFewestPosts': WHATEVER THE INPUT: true; the input reads as it did. -/
def fnExactFewestPostsSpec : ChangeSpec := { name := "fnExactFewestPosts", fn := fun _ => fun
  | [d1, d2] => { results := [.lit (.bool true)], args := [d1, d2] }
  | _ => none }
def fnExactFewestPostsRow : OpenClaim := { program := "ytacncacpcllgcaa", sum := "b1a949c103d757d2d2f1daf03bff167b582bcb56d31f54aa4c6468dfc6f33953", func := "loop.example/g01373/laws.FnExactFewestPosts", spec := "fnExactFewestPosts", apart := false }
def FnExactFewestPostsSaid : Prop := fnExactFewestPostsRow.holds Try.pinned (OpenSpec.ofChange fnExactFewestPostsSpec)

/-- ITS FALSE NEIGHBOUR: 'it returns false'. Refute it at one input. -/
def fnExactFewestPostsWrong : ChangeSpec := { name := "fnExactFewestPosts", fn := fun _ => fun
  | [d1, d2] => { results := [.lit (.bool false)], args := [d1, d2] }
  | _ => none }
def FnExactFewestPostsWrongFalsely : Prop := fnExactFewestPostsRow.holds Try.pinned (OpenSpec.ofChange fnExactFewestPostsWrong)

/-- 'laws.FnExactPlacesOfPosts': WHATEVER THE INPUT: true; the input reads as it did. -/
def fnExactPlacesOfPostsSpec : ChangeSpec := { name := "fnExactPlacesOfPosts", fn := fun _ => fun
  | [d1, d2] => { results := [.lit (.bool true)], args := [d1, d2] }
  | _ => none }
def fnExactPlacesOfPostsRow : OpenClaim := { program := "ytacncacpcllgcaa", sum := "b1a949c103d757d2d2f1daf03bff167b582bcb56d31f54aa4c6468dfc6f33953", func := "loop.example/g01373/laws.FnExactPlacesOfPosts", spec := "fnExactPlacesOfPosts", apart := false }
def FnExactPlacesOfPostsSaid : Prop := fnExactPlacesOfPostsRow.holds Try.pinned (OpenSpec.ofChange fnExactPlacesOfPostsSpec)

/-- ITS FALSE NEIGHBOUR: 'it returns false'. Refute it at one input. -/
def fnExactPlacesOfPostsWrong : ChangeSpec := { name := "fnExactPlacesOfPosts", fn := fun _ => fun
  | [d1, d2] => { results := [.lit (.bool false)], args := [d1, d2] }
  | _ => none }
def FnExactPlacesOfPostsWrongFalsely : Prop := fnExactPlacesOfPostsRow.holds Try.pinned (OpenSpec.ofChange fnExactPlacesOfPostsWrong)

/-- 'laws.FnExactEvenGap': WHATEVER THE INPUT: true; the input reads as it did. -/
def fnExactEvenGapSpec : ChangeSpec := { name := "fnExactEvenGap", fn := fun _ => fun
  | [d1, d2] => { results := [.lit (.bool true)], args := [d1, d2] }
  | _ => none }
def fnExactEvenGapRow : OpenClaim := { program := "ytacncacpcllgcaa", sum := "b1a949c103d757d2d2f1daf03bff167b582bcb56d31f54aa4c6468dfc6f33953", func := "loop.example/g01373/laws.FnExactEvenGap", spec := "fnExactEvenGap", apart := false }
def FnExactEvenGapSaid : Prop := fnExactEvenGapRow.holds Try.pinned (OpenSpec.ofChange fnExactEvenGapSpec)

/-- ITS FALSE NEIGHBOUR: 'it returns false'. Refute it at one input. -/
def fnExactEvenGapWrong : ChangeSpec := { name := "fnExactEvenGap", fn := fun _ => fun
  | [d1, d2] => { results := [.lit (.bool false)], args := [d1, d2] }
  | _ => none }
def FnExactEvenGapWrongFalsely : Prop := fnExactEvenGapRow.holds Try.pinned (OpenSpec.ofChange fnExactEvenGapWrong)

/-- 'laws.FnExactWholePlaces': WHATEVER THE INPUT: true; the input reads as it did. -/
def fnExactWholePlacesSpec : ChangeSpec := { name := "fnExactWholePlaces", fn := fun _ => fun
  | [d1, d2] => { results := [.lit (.bool true)], args := [d1, d2] }
  | _ => none }
def fnExactWholePlacesRow : OpenClaim := { program := "ytacncacpcllgcaa", sum := "b1a949c103d757d2d2f1daf03bff167b582bcb56d31f54aa4c6468dfc6f33953", func := "loop.example/g01373/laws.FnExactWholePlaces", spec := "fnExactWholePlaces", apart := false }
def FnExactWholePlacesSaid : Prop := fnExactWholePlacesRow.holds Try.pinned (OpenSpec.ofChange fnExactWholePlacesSpec)

/-- ITS FALSE NEIGHBOUR: 'it returns false'. Refute it at one input. -/
def fnExactWholePlacesWrong : ChangeSpec := { name := "fnExactWholePlaces", fn := fun _ => fun
  | [d1, d2] => { results := [.lit (.bool false)], args := [d1, d2] }
  | _ => none }
def FnExactWholePlacesWrongFalsely : Prop := fnExactWholePlacesRow.holds Try.pinned (OpenSpec.ofChange fnExactWholePlacesWrong)

/-- 'laws.FnExactPostsAround': WHATEVER THE INPUT: true; the input reads as it did. -/
def fnExactPostsAroundSpec : ChangeSpec := { name := "fnExactPostsAround", fn := fun _ => fun
  | [d1, d2, d3] => { results := [.lit (.bool true)], args := [d1, d2, d3] }
  | _ => none }
def fnExactPostsAroundRow : OpenClaim := { program := "ytacncacpcllgcaa", sum := "b1a949c103d757d2d2f1daf03bff167b582bcb56d31f54aa4c6468dfc6f33953", func := "loop.example/g01373/laws.FnExactPostsAround", spec := "fnExactPostsAround", apart := false }
def FnExactPostsAroundSaid : Prop := fnExactPostsAroundRow.holds Try.pinned (OpenSpec.ofChange fnExactPostsAroundSpec)

/-- ITS FALSE NEIGHBOUR: 'it returns false'. Refute it at one input. -/
def fnExactPostsAroundWrong : ChangeSpec := { name := "fnExactPostsAround", fn := fun _ => fun
  | [d1, d2, d3] => { results := [.lit (.bool false)], args := [d1, d2, d3] }
  | _ => none }
def FnExactPostsAroundWrongFalsely : Prop := fnExactPostsAroundRow.holds Try.pinned (OpenSpec.ofChange fnExactPostsAroundWrong)

/-- 'laws.FnExactGapAround': WHATEVER THE INPUT: true; the input reads as it did. -/
def fnExactGapAroundSpec : ChangeSpec := { name := "fnExactGapAround", fn := fun _ => fun
  | [d1, d2] => { results := [.lit (.bool true)], args := [d1, d2] }
  | _ => none }
def fnExactGapAroundRow : OpenClaim := { program := "ytacncacpcllgcaa", sum := "b1a949c103d757d2d2f1daf03bff167b582bcb56d31f54aa4c6468dfc6f33953", func := "loop.example/g01373/laws.FnExactGapAround", spec := "fnExactGapAround", apart := false }
def FnExactGapAroundSaid : Prop := fnExactGapAroundRow.holds Try.pinned (OpenSpec.ofChange fnExactGapAroundSpec)

/-- ITS FALSE NEIGHBOUR: 'it returns false'. Refute it at one input. -/
def fnExactGapAroundWrong : ChangeSpec := { name := "fnExactGapAround", fn := fun _ => fun
  | [d1, d2] => { results := [.lit (.bool false)], args := [d1, d2] }
  | _ => none }
def FnExactGapAroundWrongFalsely : Prop := fnExactGapAroundRow.holds Try.pinned (OpenSpec.ofChange fnExactGapAroundWrong)

/-- 'laws.FnExactSharedHoles': WHATEVER THE INPUT: true; the input reads as it did. -/
def fnExactSharedHolesSpec : ChangeSpec := { name := "fnExactSharedHoles", fn := fun _ => fun
  | [d1, d2, d3] => { results := [.lit (.bool true)], args := [d1, d2, d3] }
  | _ => none }
def fnExactSharedHolesRow : OpenClaim := { program := "ytacncacpcllgcaa", sum := "b1a949c103d757d2d2f1daf03bff167b582bcb56d31f54aa4c6468dfc6f33953", func := "loop.example/g01373/laws.FnExactSharedHoles", spec := "fnExactSharedHoles", apart := false }
def FnExactSharedHolesSaid : Prop := fnExactSharedHolesRow.holds Try.pinned (OpenSpec.ofChange fnExactSharedHolesSpec)

/-- ITS FALSE NEIGHBOUR: 'it returns false'. Refute it at one input. -/
def fnExactSharedHolesWrong : ChangeSpec := { name := "fnExactSharedHoles", fn := fun _ => fun
  | [d1, d2, d3] => { results := [.lit (.bool false)], args := [d1, d2, d3] }
  | _ => none }
def FnExactSharedHolesWrongFalsely : Prop := fnExactSharedHolesRow.holds Try.pinned (OpenSpec.ofChange fnExactSharedHolesWrong)

/-- 'laws.FnExactCountHoles': WHATEVER THE INPUT: true; the input reads as it did. -/
def fnExactCountHolesSpec : ChangeSpec := { name := "fnExactCountHoles", fn := fun _ => fun
  | [d1, d2, d3] => { results := [.lit (.bool true)], args := [d1, d2, d3] }
  | _ => none }
def fnExactCountHolesRow : OpenClaim := { program := "ytacncacpcllgcaa", sum := "b1a949c103d757d2d2f1daf03bff167b582bcb56d31f54aa4c6468dfc6f33953", func := "loop.example/g01373/laws.FnExactCountHoles", spec := "fnExactCountHoles", apart := false }
def FnExactCountHolesSaid : Prop := fnExactCountHolesRow.holds Try.pinned (OpenSpec.ofChange fnExactCountHolesSpec)

/-- ITS FALSE NEIGHBOUR: 'it returns false'. Refute it at one input. -/
def fnExactCountHolesWrong : ChangeSpec := { name := "fnExactCountHoles", fn := fun _ => fun
  | [d1, d2, d3] => { results := [.lit (.bool false)], args := [d1, d2, d3] }
  | _ => none }
def FnExactCountHolesWrongFalsely : Prop := fnExactCountHolesRow.holds Try.pinned (OpenSpec.ofChange fnExactCountHolesWrong)

/-- 'laws.FnExactAreRails': WHATEVER THE INPUT: true; the input reads as it did. -/
def fnExactAreRailsSpec : ChangeSpec := { name := "fnExactAreRails", fn := fun _ => fun
  | [d] => { results := [.lit (.bool true)], args := [d] }
  | _ => none }
def fnExactAreRailsRow : OpenClaim := { program := "ytacncacpcllgcaa", sum := "b1a949c103d757d2d2f1daf03bff167b582bcb56d31f54aa4c6468dfc6f33953", func := "loop.example/g01373/laws.FnExactAreRails", spec := "fnExactAreRails", apart := false }
def FnExactAreRailsSaid : Prop := fnExactAreRailsRow.holds Try.pinned (OpenSpec.ofChange fnExactAreRailsSpec)

/-- ITS FALSE NEIGHBOUR: 'it returns false'. Refute it at one input. -/
def fnExactAreRailsWrong : ChangeSpec := { name := "fnExactAreRails", fn := fun _ => fun
  | [d] => { results := [.lit (.bool false)], args := [d] }
  | _ => none }
def FnExactAreRailsWrongFalsely : Prop := fnExactAreRailsRow.holds Try.pinned (OpenSpec.ofChange fnExactAreRailsWrong)

/-- 'laws.FnExactIsCut': WHATEVER THE INPUT: true; the input reads as it did. -/
def fnExactIsCutSpec : ChangeSpec := { name := "fnExactIsCut", fn := fun _ => fun
  | [d1, d2, d3] => { results := [.lit (.bool true)], args := [d1, d2, d3] }
  | _ => none }
def fnExactIsCutRow : OpenClaim := { program := "ytacncacpcllgcaa", sum := "b1a949c103d757d2d2f1daf03bff167b582bcb56d31f54aa4c6468dfc6f33953", func := "loop.example/g01373/laws.FnExactIsCut", spec := "fnExactIsCut", apart := false }
def FnExactIsCutSaid : Prop := fnExactIsCutRow.holds Try.pinned (OpenSpec.ofChange fnExactIsCutSpec)

/-- ITS FALSE NEIGHBOUR: 'it returns false'. Refute it at one input. -/
def fnExactIsCutWrong : ChangeSpec := { name := "fnExactIsCut", fn := fun _ => fun
  | [d1, d2, d3] => { results := [.lit (.bool false)], args := [d1, d2, d3] }
  | _ => none }
def FnExactIsCutWrongFalsely : Prop := fnExactIsCutRow.holds Try.pinned (OpenSpec.ofChange fnExactIsCutWrong)

/-- 'laws.FnExactRestsOfCut': WHATEVER THE INPUT: true; the input reads as it did. -/
def fnExactRestsOfCutSpec : ChangeSpec := { name := "fnExactRestsOfCut", fn := fun _ => fun
  | [d1, d2, d3] => { results := [.lit (.bool true)], args := [d1, d2, d3] }
  | _ => none }
def fnExactRestsOfCutRow : OpenClaim := { program := "ytacncacpcllgcaa", sum := "b1a949c103d757d2d2f1daf03bff167b582bcb56d31f54aa4c6468dfc6f33953", func := "loop.example/g01373/laws.FnExactRestsOfCut", spec := "fnExactRestsOfCut", apart := false }
def FnExactRestsOfCutSaid : Prop := fnExactRestsOfCutRow.holds Try.pinned (OpenSpec.ofChange fnExactRestsOfCutSpec)

/-- ITS FALSE NEIGHBOUR: 'it returns false'. Refute it at one input. -/
def fnExactRestsOfCutWrong : ChangeSpec := { name := "fnExactRestsOfCut", fn := fun _ => fun
  | [d1, d2, d3] => { results := [.lit (.bool false)], args := [d1, d2, d3] }
  | _ => none }
def FnExactRestsOfCutWrongFalsely : Prop := fnExactRestsOfCutRow.holds Try.pinned (OpenSpec.ofChange fnExactRestsOfCutWrong)

/-- 'laws.FnExactFewestBars': WHATEVER THE INPUT: true; the input reads as it did. -/
def fnExactFewestBarsSpec : ChangeSpec := { name := "fnExactFewestBars", fn := fun _ => fun
  | [d1, d2] => { results := [.lit (.bool true)], args := [d1, d2] }
  | _ => none }
def fnExactFewestBarsRow : OpenClaim := { program := "ytacncacpcllgcaa", sum := "b1a949c103d757d2d2f1daf03bff167b582bcb56d31f54aa4c6468dfc6f33953", func := "loop.example/g01373/laws.FnExactFewestBars", spec := "fnExactFewestBars", unfollowed := true, recurses := true, apart := false }
def FnExactFewestBarsSaid : Prop := fnExactFewestBarsRow.holds Try.pinned (OpenSpec.ofChange fnExactFewestBarsSpec)

/-- ITS FALSE NEIGHBOUR: 'it returns false'. Refute it at one input. -/
def fnExactFewestBarsWrong : ChangeSpec := { name := "fnExactFewestBars", fn := fun _ => fun
  | [d1, d2] => { results := [.lit (.bool false)], args := [d1, d2] }
  | _ => none }
def FnExactFewestBarsWrongFalsely : Prop := fnExactFewestBarsRow.holds Try.pinned (OpenSpec.ofChange fnExactFewestBarsWrong)

/-- 'laws.FnExactFirstCut': WHATEVER THE INPUT: true; the input reads as it did. -/
def fnExactFirstCutSpec : ChangeSpec := { name := "fnExactFirstCut", fn := fun _ => fun
  | [d1, d2] => { results := [.lit (.bool true)], args := [d1, d2] }
  | _ => none }
def fnExactFirstCutRow : OpenClaim := { program := "ytacncacpcllgcaa", sum := "b1a949c103d757d2d2f1daf03bff167b582bcb56d31f54aa4c6468dfc6f33953", func := "loop.example/g01373/laws.FnExactFirstCut", spec := "fnExactFirstCut", unfollowed := true, recurses := true, apart := false }
def FnExactFirstCutSaid : Prop := fnExactFirstCutRow.holds Try.pinned (OpenSpec.ofChange fnExactFirstCutSpec)

/-- ITS FALSE NEIGHBOUR: 'it returns false'. Refute it at one input. -/
def fnExactFirstCutWrong : ChangeSpec := { name := "fnExactFirstCut", fn := fun _ => fun
  | [d1, d2] => { results := [.lit (.bool false)], args := [d1, d2] }
  | _ => none }
def FnExactFirstCutWrongFalsely : Prop := fnExactFirstCutRow.holds Try.pinned (OpenSpec.ofChange fnExactFirstCutWrong)

/-- 'laws.FnExactFirstFit': WHATEVER THE INPUT: true; the input reads as it did. -/
def fnExactFirstFitSpec : ChangeSpec := { name := "fnExactFirstFit", fn := fun _ => fun
  | [d1, d2] => { results := [.lit (.bool true)], args := [d1, d2] }
  | _ => none }
def fnExactFirstFitRow : OpenClaim := { program := "ytacncacpcllgcaa", sum := "b1a949c103d757d2d2f1daf03bff167b582bcb56d31f54aa4c6468dfc6f33953", func := "loop.example/g01373/laws.FnExactFirstFit", spec := "fnExactFirstFit", unfollowed := true, recurses := true, apart := false }
def FnExactFirstFitSaid : Prop := fnExactFirstFitRow.holds Try.pinned (OpenSpec.ofChange fnExactFirstFitSpec)

/-- ITS FALSE NEIGHBOUR: 'it returns false'. Refute it at one input. -/
def fnExactFirstFitWrong : ChangeSpec := { name := "fnExactFirstFit", fn := fun _ => fun
  | [d1, d2] => { results := [.lit (.bool false)], args := [d1, d2] }
  | _ => none }
def FnExactFirstFitWrongFalsely : Prop := fnExactFirstFitRow.holds Try.pinned (OpenSpec.ofChange fnExactFirstFitWrong)

/-- 'laws.FnExactLeastBar': WHATEVER THE INPUT: true; the input reads as it did. -/
def fnExactLeastBarSpec : ChangeSpec := { name := "fnExactLeastBar", fn := fun _ => fun
  | [d1, d2] => { results := [.lit (.bool true)], args := [d1, d2] }
  | _ => none }
def fnExactLeastBarRow : OpenClaim := { program := "ytacncacpcllgcaa", sum := "b1a949c103d757d2d2f1daf03bff167b582bcb56d31f54aa4c6468dfc6f33953", func := "loop.example/g01373/laws.FnExactLeastBar", spec := "fnExactLeastBar", unfollowed := true, recurses := true, apart := false }
def FnExactLeastBarSaid : Prop := fnExactLeastBarRow.holds Try.pinned (OpenSpec.ofChange fnExactLeastBarSpec)

/-- ITS FALSE NEIGHBOUR: 'it returns false'. Refute it at one input. -/
def fnExactLeastBarWrong : ChangeSpec := { name := "fnExactLeastBar", fn := fun _ => fun
  | [d1, d2] => { results := [.lit (.bool false)], args := [d1, d2] }
  | _ => none }
def FnExactLeastBarWrongFalsely : Prop := fnExactLeastBarRow.holds Try.pinned (OpenSpec.ofChange fnExactLeastBarWrong)

/-- 'laws.FnExactSquaresOfRails': WHATEVER THE INPUT: true; the input reads as it did. -/
def fnExactSquaresOfRailsSpec : ChangeSpec := { name := "fnExactSquaresOfRails", fn := fun _ => fun
  | [d1, d2] => { results := [.lit (.bool true)], args := [d1, d2] }
  | _ => none }
def fnExactSquaresOfRailsRow : OpenClaim := { program := "ytacncacpcllgcaa", sum := "b1a949c103d757d2d2f1daf03bff167b582bcb56d31f54aa4c6468dfc6f33953", func := "loop.example/g01373/laws.FnExactSquaresOfRails", spec := "fnExactSquaresOfRails", apart := false }
def FnExactSquaresOfRailsSaid : Prop := fnExactSquaresOfRailsRow.holds Try.pinned (OpenSpec.ofChange fnExactSquaresOfRailsSpec)

/-- ITS FALSE NEIGHBOUR: 'it returns false'. Refute it at one input. -/
def fnExactSquaresOfRailsWrong : ChangeSpec := { name := "fnExactSquaresOfRails", fn := fun _ => fun
  | [d1, d2] => { results := [.lit (.bool false)], args := [d1, d2] }
  | _ => none }
def FnExactSquaresOfRailsWrongFalsely : Prop := fnExactSquaresOfRailsRow.holds Try.pinned (OpenSpec.ofChange fnExactSquaresOfRailsWrong)

/-- 'laws.FnExactWholeRails': WHATEVER THE INPUT: true; the input reads as it did. -/
def fnExactWholeRailsSpec : ChangeSpec := { name := "fnExactWholeRails", fn := fun _ => fun
  | [d1, d2] => { results := [.lit (.bool true)], args := [d1, d2] }
  | _ => none }
def fnExactWholeRailsRow : OpenClaim := { program := "ytacncacpcllgcaa", sum := "b1a949c103d757d2d2f1daf03bff167b582bcb56d31f54aa4c6468dfc6f33953", func := "loop.example/g01373/laws.FnExactWholeRails", spec := "fnExactWholeRails", unfollowed := true, recurses := true, apart := false }
def FnExactWholeRailsSaid : Prop := fnExactWholeRailsRow.holds Try.pinned (OpenSpec.ofChange fnExactWholeRailsSpec)

/-- ITS FALSE NEIGHBOUR: 'it returns false'. Refute it at one input. -/
def fnExactWholeRailsWrong : ChangeSpec := { name := "fnExactWholeRails", fn := fun _ => fun
  | [d1, d2] => { results := [.lit (.bool false)], args := [d1, d2] }
  | _ => none }
def FnExactWholeRailsWrongFalsely : Prop := fnExactWholeRailsRow.holds Try.pinned (OpenSpec.ofChange fnExactWholeRailsWrong)

/-- 'laws.FnExactLevelSteps': WHATEVER THE INPUT: true; the input reads as it did. -/
def fnExactLevelStepsSpec : ChangeSpec := { name := "fnExactLevelSteps", fn := fun _ => fun
  | [d1, d2] => { results := [.lit (.bool true)], args := [d1, d2] }
  | _ => none }
def fnExactLevelStepsRow : OpenClaim := { program := "ytacncacpcllgcaa", sum := "b1a949c103d757d2d2f1daf03bff167b582bcb56d31f54aa4c6468dfc6f33953", func := "loop.example/g01373/laws.FnExactLevelSteps", spec := "fnExactLevelSteps", apart := false }
def FnExactLevelStepsSaid : Prop := fnExactLevelStepsRow.holds Try.pinned (OpenSpec.ofChange fnExactLevelStepsSpec)

/-- ITS FALSE NEIGHBOUR: 'it returns false'. Refute it at one input. -/
def fnExactLevelStepsWrong : ChangeSpec := { name := "fnExactLevelSteps", fn := fun _ => fun
  | [d1, d2] => { results := [.lit (.bool false)], args := [d1, d2] }
  | _ => none }
def FnExactLevelStepsWrongFalsely : Prop := fnExactLevelStepsRow.holds Try.pinned (OpenSpec.ofChange fnExactLevelStepsWrong)

/-- 'laws.FnExactFirstRails': WHATEVER THE INPUT: true; the input reads as it did. -/
def fnExactFirstRailsSpec : ChangeSpec := { name := "fnExactFirstRails", fn := fun _ => fun
  | [d] => { results := [.lit (.bool true)], args := [d] }
  | _ => none }
def fnExactFirstRailsRow : OpenClaim := { program := "ytacncacpcllgcaa", sum := "b1a949c103d757d2d2f1daf03bff167b582bcb56d31f54aa4c6468dfc6f33953", func := "loop.example/g01373/laws.FnExactFirstRails", spec := "fnExactFirstRails", unfollowed := true, recurses := true, apart := false }
def FnExactFirstRailsSaid : Prop := fnExactFirstRailsRow.holds Try.pinned (OpenSpec.ofChange fnExactFirstRailsSpec)

/-- ITS FALSE NEIGHBOUR: 'it returns false'. Refute it at one input. -/
def fnExactFirstRailsWrong : ChangeSpec := { name := "fnExactFirstRails", fn := fun _ => fun
  | [d] => { results := [.lit (.bool false)], args := [d] }
  | _ => none }
def FnExactFirstRailsWrongFalsely : Prop := fnExactFirstRailsRow.holds Try.pinned (OpenSpec.ofChange fnExactFirstRailsWrong)

/- THE SECOND FORM. 'bulk': how many values and letters a reading holds, each counted each time it is reached (what is shared counts as often as it is met; a slice's spare places count too). A statement '..UptoSaid' is the law's where the arguments, and the package variables that the reading takes, are together of bulk at most 1048576: NARROWER than '..Said'. Prove '..Said' where nothing that the law and all that it calls make is longer than what came in: it says more and counts as full. Else prove '..UptoSaid'. A law counts once. -/
mutual
def uptoBulk {H : Type} : DataW H → Nat
  | .lit (.string bytes) => bytes.length + 1
  | .lit _ => 1
  | .nil => 1
  | .ptr d => uptoBulk d + 1
  | .slice elems spare => uptoBulkAll elems + uptoBulkAll spare + 1
  | .agg parts => uptoBulkAll parts + 1
  | .iface _ d => uptoBulk d + 1
  | .map entries => uptoBulkEntries entries + 1
  | .held _ => 1
def uptoBulkAll {H : Type} : List (DataW H) → Nat
  | [] => 0
  | d :: r => uptoBulk d + uptoBulkAll r
def uptoBulkEntries {H : Type} : List (Lit × DataW H) → Nat
  | [] => 0
  | x :: r => uptoBulkEntry x + uptoBulkEntries r
def uptoBulkEntry {H : Type} : Lit × DataW H → Nat
  | (.string bytes, d) => bytes.length + uptoBulk d + 1
  | (_, d) => uptoBulk d + 1
 end
def uptoSmall : (H : Type) → List (DataW H) → Bool := fun _ ds => decide (uptoBulkAll ds ≤ 1048576)
def OpenSpec.upto (s : _root_.Go.ChangeSpec) : _root_.Go.OpenSpec := { _root_.Go.OpenSpec.ofChange s with cond := some uptoSmall }

/-- 'laws.FnPostsPlaced', WHERE WHAT IT READS IS OF BULK AT MOST 1048576: true; the input reads as it did. -/
def fnPostsPlacedUptoRow : OpenClaim := { program := "ytacncacpcllgcaa", sum := "b1a949c103d757d2d2f1daf03bff167b582bcb56d31f54aa4c6468dfc6f33953", func := "loop.example/g01373/laws.FnPostsPlaced", spec := "fnPostsPlaced", apart := false, narrowed := true }
def FnPostsPlacedUptoSaid : Prop := fnPostsPlacedUptoRow.holds Try.pinned (OpenSpec.upto fnPostsPlacedSpec)

/-- 'laws.FnExactFewestPosts', WHERE WHAT IT READS IS OF BULK AT MOST 1048576: true; the input reads as it did. -/
def fnExactFewestPostsUptoRow : OpenClaim := { program := "ytacncacpcllgcaa", sum := "b1a949c103d757d2d2f1daf03bff167b582bcb56d31f54aa4c6468dfc6f33953", func := "loop.example/g01373/laws.FnExactFewestPosts", spec := "fnExactFewestPosts", apart := false, narrowed := true }
def FnExactFewestPostsUptoSaid : Prop := fnExactFewestPostsUptoRow.holds Try.pinned (OpenSpec.upto fnExactFewestPostsSpec)

/-- 'laws.FnExactPlacesOfPosts', WHERE WHAT IT READS IS OF BULK AT MOST 1048576: true; the input reads as it did. -/
def fnExactPlacesOfPostsUptoRow : OpenClaim := { program := "ytacncacpcllgcaa", sum := "b1a949c103d757d2d2f1daf03bff167b582bcb56d31f54aa4c6468dfc6f33953", func := "loop.example/g01373/laws.FnExactPlacesOfPosts", spec := "fnExactPlacesOfPosts", apart := false, narrowed := true }
def FnExactPlacesOfPostsUptoSaid : Prop := fnExactPlacesOfPostsUptoRow.holds Try.pinned (OpenSpec.upto fnExactPlacesOfPostsSpec)

/-- 'laws.FnExactEvenGap', WHERE WHAT IT READS IS OF BULK AT MOST 1048576: true; the input reads as it did. -/
def fnExactEvenGapUptoRow : OpenClaim := { program := "ytacncacpcllgcaa", sum := "b1a949c103d757d2d2f1daf03bff167b582bcb56d31f54aa4c6468dfc6f33953", func := "loop.example/g01373/laws.FnExactEvenGap", spec := "fnExactEvenGap", apart := false, narrowed := true }
def FnExactEvenGapUptoSaid : Prop := fnExactEvenGapUptoRow.holds Try.pinned (OpenSpec.upto fnExactEvenGapSpec)

/-- 'laws.FnExactWholePlaces', WHERE WHAT IT READS IS OF BULK AT MOST 1048576: true; the input reads as it did. -/
def fnExactWholePlacesUptoRow : OpenClaim := { program := "ytacncacpcllgcaa", sum := "b1a949c103d757d2d2f1daf03bff167b582bcb56d31f54aa4c6468dfc6f33953", func := "loop.example/g01373/laws.FnExactWholePlaces", spec := "fnExactWholePlaces", apart := false, narrowed := true }
def FnExactWholePlacesUptoSaid : Prop := fnExactWholePlacesUptoRow.holds Try.pinned (OpenSpec.upto fnExactWholePlacesSpec)

/-- 'laws.FnExactPostsAround', WHERE WHAT IT READS IS OF BULK AT MOST 1048576: true; the input reads as it did. -/
def fnExactPostsAroundUptoRow : OpenClaim := { program := "ytacncacpcllgcaa", sum := "b1a949c103d757d2d2f1daf03bff167b582bcb56d31f54aa4c6468dfc6f33953", func := "loop.example/g01373/laws.FnExactPostsAround", spec := "fnExactPostsAround", apart := false, narrowed := true }
def FnExactPostsAroundUptoSaid : Prop := fnExactPostsAroundUptoRow.holds Try.pinned (OpenSpec.upto fnExactPostsAroundSpec)

/-- 'laws.FnExactGapAround', WHERE WHAT IT READS IS OF BULK AT MOST 1048576: true; the input reads as it did. -/
def fnExactGapAroundUptoRow : OpenClaim := { program := "ytacncacpcllgcaa", sum := "b1a949c103d757d2d2f1daf03bff167b582bcb56d31f54aa4c6468dfc6f33953", func := "loop.example/g01373/laws.FnExactGapAround", spec := "fnExactGapAround", apart := false, narrowed := true }
def FnExactGapAroundUptoSaid : Prop := fnExactGapAroundUptoRow.holds Try.pinned (OpenSpec.upto fnExactGapAroundSpec)

/-- 'laws.FnExactSharedHoles', WHERE WHAT IT READS IS OF BULK AT MOST 1048576: true; the input reads as it did. -/
def fnExactSharedHolesUptoRow : OpenClaim := { program := "ytacncacpcllgcaa", sum := "b1a949c103d757d2d2f1daf03bff167b582bcb56d31f54aa4c6468dfc6f33953", func := "loop.example/g01373/laws.FnExactSharedHoles", spec := "fnExactSharedHoles", apart := false, narrowed := true }
def FnExactSharedHolesUptoSaid : Prop := fnExactSharedHolesUptoRow.holds Try.pinned (OpenSpec.upto fnExactSharedHolesSpec)

/-- 'laws.FnExactCountHoles', WHERE WHAT IT READS IS OF BULK AT MOST 1048576: true; the input reads as it did. -/
def fnExactCountHolesUptoRow : OpenClaim := { program := "ytacncacpcllgcaa", sum := "b1a949c103d757d2d2f1daf03bff167b582bcb56d31f54aa4c6468dfc6f33953", func := "loop.example/g01373/laws.FnExactCountHoles", spec := "fnExactCountHoles", apart := false, narrowed := true }
def FnExactCountHolesUptoSaid : Prop := fnExactCountHolesUptoRow.holds Try.pinned (OpenSpec.upto fnExactCountHolesSpec)

/-- 'laws.FnExactAreRails', WHERE WHAT IT READS IS OF BULK AT MOST 1048576: true; the input reads as it did. -/
def fnExactAreRailsUptoRow : OpenClaim := { program := "ytacncacpcllgcaa", sum := "b1a949c103d757d2d2f1daf03bff167b582bcb56d31f54aa4c6468dfc6f33953", func := "loop.example/g01373/laws.FnExactAreRails", spec := "fnExactAreRails", apart := false, narrowed := true }
def FnExactAreRailsUptoSaid : Prop := fnExactAreRailsUptoRow.holds Try.pinned (OpenSpec.upto fnExactAreRailsSpec)

/-- 'laws.FnExactIsCut', WHERE WHAT IT READS IS OF BULK AT MOST 1048576: true; the input reads as it did. -/
def fnExactIsCutUptoRow : OpenClaim := { program := "ytacncacpcllgcaa", sum := "b1a949c103d757d2d2f1daf03bff167b582bcb56d31f54aa4c6468dfc6f33953", func := "loop.example/g01373/laws.FnExactIsCut", spec := "fnExactIsCut", apart := false, narrowed := true }
def FnExactIsCutUptoSaid : Prop := fnExactIsCutUptoRow.holds Try.pinned (OpenSpec.upto fnExactIsCutSpec)

/-- 'laws.FnExactRestsOfCut', WHERE WHAT IT READS IS OF BULK AT MOST 1048576: true; the input reads as it did. -/
def fnExactRestsOfCutUptoRow : OpenClaim := { program := "ytacncacpcllgcaa", sum := "b1a949c103d757d2d2f1daf03bff167b582bcb56d31f54aa4c6468dfc6f33953", func := "loop.example/g01373/laws.FnExactRestsOfCut", spec := "fnExactRestsOfCut", apart := false, narrowed := true }
def FnExactRestsOfCutUptoSaid : Prop := fnExactRestsOfCutUptoRow.holds Try.pinned (OpenSpec.upto fnExactRestsOfCutSpec)

/-- 'laws.FnExactFewestBars', WHERE WHAT IT READS IS OF BULK AT MOST 1048576: true; the input reads as it did. -/
def fnExactFewestBarsUptoRow : OpenClaim := { program := "ytacncacpcllgcaa", sum := "b1a949c103d757d2d2f1daf03bff167b582bcb56d31f54aa4c6468dfc6f33953", func := "loop.example/g01373/laws.FnExactFewestBars", spec := "fnExactFewestBars", unfollowed := true, recurses := true, apart := false, narrowed := true }
def FnExactFewestBarsUptoSaid : Prop := fnExactFewestBarsUptoRow.holds Try.pinned (OpenSpec.upto fnExactFewestBarsSpec)

/-- 'laws.FnExactFirstCut', WHERE WHAT IT READS IS OF BULK AT MOST 1048576: true; the input reads as it did. -/
def fnExactFirstCutUptoRow : OpenClaim := { program := "ytacncacpcllgcaa", sum := "b1a949c103d757d2d2f1daf03bff167b582bcb56d31f54aa4c6468dfc6f33953", func := "loop.example/g01373/laws.FnExactFirstCut", spec := "fnExactFirstCut", unfollowed := true, recurses := true, apart := false, narrowed := true }
def FnExactFirstCutUptoSaid : Prop := fnExactFirstCutUptoRow.holds Try.pinned (OpenSpec.upto fnExactFirstCutSpec)

/-- 'laws.FnExactFirstFit', WHERE WHAT IT READS IS OF BULK AT MOST 1048576: true; the input reads as it did. -/
def fnExactFirstFitUptoRow : OpenClaim := { program := "ytacncacpcllgcaa", sum := "b1a949c103d757d2d2f1daf03bff167b582bcb56d31f54aa4c6468dfc6f33953", func := "loop.example/g01373/laws.FnExactFirstFit", spec := "fnExactFirstFit", unfollowed := true, recurses := true, apart := false, narrowed := true }
def FnExactFirstFitUptoSaid : Prop := fnExactFirstFitUptoRow.holds Try.pinned (OpenSpec.upto fnExactFirstFitSpec)

/-- 'laws.FnExactLeastBar', WHERE WHAT IT READS IS OF BULK AT MOST 1048576: true; the input reads as it did. -/
def fnExactLeastBarUptoRow : OpenClaim := { program := "ytacncacpcllgcaa", sum := "b1a949c103d757d2d2f1daf03bff167b582bcb56d31f54aa4c6468dfc6f33953", func := "loop.example/g01373/laws.FnExactLeastBar", spec := "fnExactLeastBar", unfollowed := true, recurses := true, apart := false, narrowed := true }
def FnExactLeastBarUptoSaid : Prop := fnExactLeastBarUptoRow.holds Try.pinned (OpenSpec.upto fnExactLeastBarSpec)

/-- 'laws.FnExactSquaresOfRails', WHERE WHAT IT READS IS OF BULK AT MOST 1048576: true; the input reads as it did. -/
def fnExactSquaresOfRailsUptoRow : OpenClaim := { program := "ytacncacpcllgcaa", sum := "b1a949c103d757d2d2f1daf03bff167b582bcb56d31f54aa4c6468dfc6f33953", func := "loop.example/g01373/laws.FnExactSquaresOfRails", spec := "fnExactSquaresOfRails", apart := false, narrowed := true }
def FnExactSquaresOfRailsUptoSaid : Prop := fnExactSquaresOfRailsUptoRow.holds Try.pinned (OpenSpec.upto fnExactSquaresOfRailsSpec)

/-- 'laws.FnExactWholeRails', WHERE WHAT IT READS IS OF BULK AT MOST 1048576: true; the input reads as it did. -/
def fnExactWholeRailsUptoRow : OpenClaim := { program := "ytacncacpcllgcaa", sum := "b1a949c103d757d2d2f1daf03bff167b582bcb56d31f54aa4c6468dfc6f33953", func := "loop.example/g01373/laws.FnExactWholeRails", spec := "fnExactWholeRails", unfollowed := true, recurses := true, apart := false, narrowed := true }
def FnExactWholeRailsUptoSaid : Prop := fnExactWholeRailsUptoRow.holds Try.pinned (OpenSpec.upto fnExactWholeRailsSpec)

/-- 'laws.FnExactLevelSteps', WHERE WHAT IT READS IS OF BULK AT MOST 1048576: true; the input reads as it did. -/
def fnExactLevelStepsUptoRow : OpenClaim := { program := "ytacncacpcllgcaa", sum := "b1a949c103d757d2d2f1daf03bff167b582bcb56d31f54aa4c6468dfc6f33953", func := "loop.example/g01373/laws.FnExactLevelSteps", spec := "fnExactLevelSteps", apart := false, narrowed := true }
def FnExactLevelStepsUptoSaid : Prop := fnExactLevelStepsUptoRow.holds Try.pinned (OpenSpec.upto fnExactLevelStepsSpec)

/-- 'laws.FnExactFirstRails', WHERE WHAT IT READS IS OF BULK AT MOST 1048576: true; the input reads as it did. -/
def fnExactFirstRailsUptoRow : OpenClaim := { program := "ytacncacpcllgcaa", sum := "b1a949c103d757d2d2f1daf03bff167b582bcb56d31f54aa4c6468dfc6f33953", func := "loop.example/g01373/laws.FnExactFirstRails", spec := "fnExactFirstRails", unfollowed := true, recurses := true, apart := false, narrowed := true }
def FnExactFirstRailsUptoSaid : Prop := fnExactFirstRailsUptoRow.holds Try.pinned (OpenSpec.upto fnExactFirstRailsSpec)

end Rows
end Go.Proofs.Ytacncacpcllgcaa
