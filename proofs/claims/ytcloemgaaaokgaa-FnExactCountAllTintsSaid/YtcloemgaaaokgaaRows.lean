/-
  No cell of these rows narrows 'for every input' (looked for: loops, veiled, ifaces, maps, wideKeys, modest, calm, conditions, laid).
  DERIVED. THE GIVEN ROWS OF THIS SEAT. 17 by the template 'for every input the law returns true; each argument reads behind the call as it read before'; 0 by the template 'total and deterministic' (their statements: YtcloemgaaaokgaaTotals.lean).
  GIVEN WITH THE SEED: the statements are not yours to turn. If you find one false, say at which input.
  Laid BY PROGRAM, IN A SANDBOX (cutbox-rows.mjs): the forced cells as the released guide's own fill.sh prints them over the translation ac212d08262a0ea8… (all of the seat's roots in one cut). By AI agents, Wed Nov 11 2026. No macro, syntax, notation, axiom, sorry.
-/
import Derived.Test.YtcloemgaaaokgaaChecked
import GoSem.Claim
import GoSem.ClaimJoined
import GoSem.ClaimMapViews
import Derived.JoinedTies
import Derived.KernelRfl
namespace Go.Proofs.Ytcloemgaaaokgaa
/- THE CELL 'sum', in the pinned program and in every row, IS THE sha256 OF THE DUMP (.gsa) THAT YtcloemgaaaokgaaProg.lean LOADS. Nothing in Lean hashes anything: it is a label: what it is worth is what the hold of that sum in a sandbox is worth. -/
noncomputable def Try.pinned : Pinned := { name := "ytcloemgaaaokgaa", sum := "ac212d08262a0ea8e31fb018a5dd87b9b0ec88ecf1be83c8618df3e64a3eb4bd", checked := Try.checked }
namespace Rows
def none {H : Type} : Left H := { results := [], args := [] }

/-- 'laws.FnExactCountProper': WHATEVER THE INPUT: true; the input reads as it did. -/
def fnExactCountProperSpec : ChangeSpec := { name := "fnExactCountProper", fn := fun _ => fun
  | [d1, d2, d3] => { results := [.lit (.bool true)], args := [d1, d2, d3] }
  | _ => none }
def fnExactCountProperRow : OpenClaim := { program := "ytcloemgaaaokgaa", sum := "ac212d08262a0ea8e31fb018a5dd87b9b0ec88ecf1be83c8618df3e64a3eb4bd", func := "loop.example/g01373/laws.FnExactCountProper", spec := "fnExactCountProper", apart := false }
def FnExactCountProperSaid : Prop := fnExactCountProperRow.holds Try.pinned (OpenSpec.ofChange fnExactCountProperSpec)

/-- ITS FALSE NEIGHBOUR: 'it returns false'. Refute it at one input. -/
def fnExactCountProperWrong : ChangeSpec := { name := "fnExactCountProper", fn := fun _ => fun
  | [d1, d2, d3] => { results := [.lit (.bool false)], args := [d1, d2, d3] }
  | _ => none }
def FnExactCountProperWrongFalsely : Prop := fnExactCountProperRow.holds Try.pinned (OpenSpec.ofChange fnExactCountProperWrong)

/-- 'laws.FnExactFirstProper': WHATEVER THE INPUT: true; the input reads as it did. -/
def fnExactFirstProperSpec : ChangeSpec := { name := "fnExactFirstProper", fn := fun _ => fun
  | [d1, d2, d3] => { results := [.lit (.bool true)], args := [d1, d2, d3] }
  | _ => none }
def fnExactFirstProperRow : OpenClaim := { program := "ytcloemgaaaokgaa", sum := "ac212d08262a0ea8e31fb018a5dd87b9b0ec88ecf1be83c8618df3e64a3eb4bd", func := "loop.example/g01373/laws.FnExactFirstProper", spec := "fnExactFirstProper", inPlace := ["maps.clone"], apart := false }
def FnExactFirstProperSaid : Prop := fnExactFirstProperRow.holds Try.pinned (OpenSpec.ofChange fnExactFirstProperSpec)

/-- ITS FALSE NEIGHBOUR: 'it returns false'. Refute it at one input. -/
def fnExactFirstProperWrong : ChangeSpec := { name := "fnExactFirstProper", fn := fun _ => fun
  | [d1, d2, d3] => { results := [.lit (.bool false)], args := [d1, d2, d3] }
  | _ => none }
def FnExactFirstProperWrongFalsely : Prop := fnExactFirstProperRow.holds Try.pinned (OpenSpec.ofChange fnExactFirstProperWrong)

/-- 'laws.FnExactProperOfRank': WHATEVER THE INPUT: true; the input reads as it did. -/
def fnExactProperOfRankSpec : ChangeSpec := { name := "fnExactProperOfRank", fn := fun _ => fun
  | [d1, d2, d3, d4] => { results := [.lit (.bool true)], args := [d1, d2, d3, d4] }
  | _ => none }
def fnExactProperOfRankRow : OpenClaim := { program := "ytcloemgaaaokgaa", sum := "ac212d08262a0ea8e31fb018a5dd87b9b0ec88ecf1be83c8618df3e64a3eb4bd", func := "loop.example/g01373/laws.FnExactProperOfRank", spec := "fnExactProperOfRank", inPlace := ["maps.clone"], apart := false }
def FnExactProperOfRankSaid : Prop := fnExactProperOfRankRow.holds Try.pinned (OpenSpec.ofChange fnExactProperOfRankSpec)

/-- ITS FALSE NEIGHBOUR: 'it returns false'. Refute it at one input. -/
def fnExactProperOfRankWrong : ChangeSpec := { name := "fnExactProperOfRank", fn := fun _ => fun
  | [d1, d2, d3, d4] => { results := [.lit (.bool false)], args := [d1, d2, d3, d4] }
  | _ => none }
def FnExactProperOfRankWrongFalsely : Prop := fnExactProperOfRankRow.holds Try.pinned (OpenSpec.ofChange fnExactProperOfRankWrong)

/-- 'laws.FnExactCountAllTints': WHATEVER THE INPUT: true; the input reads as it did. -/
def fnExactCountAllTintsSpec : ChangeSpec := { name := "fnExactCountAllTints", fn := fun _ => fun
  | [d1, d2] => { results := [.lit (.bool true)], args := [d1, d2] }
  | _ => none }
def fnExactCountAllTintsRow : OpenClaim := { program := "ytcloemgaaaokgaa", sum := "ac212d08262a0ea8e31fb018a5dd87b9b0ec88ecf1be83c8618df3e64a3eb4bd", func := "loop.example/g01373/laws.FnExactCountAllTints", spec := "fnExactCountAllTints", apart := false }
def FnExactCountAllTintsSaid : Prop := fnExactCountAllTintsRow.holds Try.pinned (OpenSpec.ofChange fnExactCountAllTintsSpec)

/-- ITS FALSE NEIGHBOUR: 'it returns false'. Refute it at one input. -/
def fnExactCountAllTintsWrong : ChangeSpec := { name := "fnExactCountAllTints", fn := fun _ => fun
  | [d1, d2] => { results := [.lit (.bool false)], args := [d1, d2] }
  | _ => none }
def FnExactCountAllTintsWrongFalsely : Prop := fnExactCountAllTintsRow.holds Try.pinned (OpenSpec.ofChange fnExactCountAllTintsWrong)

/-- 'laws.FnExactCountMirrored': WHATEVER THE INPUT: true; the input reads as it did. -/
def fnExactCountMirroredSpec : ChangeSpec := { name := "fnExactCountMirrored", fn := fun _ => fun
  | [d1, d2] => { results := [.lit (.bool true)], args := [d1, d2] }
  | _ => none }
def fnExactCountMirroredRow : OpenClaim := { program := "ytcloemgaaaokgaa", sum := "ac212d08262a0ea8e31fb018a5dd87b9b0ec88ecf1be83c8618df3e64a3eb4bd", func := "loop.example/g01373/laws.FnExactCountMirrored", spec := "fnExactCountMirrored", apart := false }
def FnExactCountMirroredSaid : Prop := fnExactCountMirroredRow.holds Try.pinned (OpenSpec.ofChange fnExactCountMirroredSpec)

/-- ITS FALSE NEIGHBOUR: 'it returns false'. Refute it at one input. -/
def fnExactCountMirroredWrong : ChangeSpec := { name := "fnExactCountMirrored", fn := fun _ => fun
  | [d1, d2] => { results := [.lit (.bool false)], args := [d1, d2] }
  | _ => none }
def FnExactCountMirroredWrongFalsely : Prop := fnExactCountMirroredRow.holds Try.pinned (OpenSpec.ofChange fnExactCountMirroredWrong)

/-- 'laws.FnExactCountTurned': WHATEVER THE INPUT: true; the input reads as it did. -/
def fnExactCountTurnedSpec : ChangeSpec := { name := "fnExactCountTurned", fn := fun _ => fun
  | [d1, d2] => { results := [.lit (.bool true)], args := [d1, d2] }
  | _ => none }
def fnExactCountTurnedRow : OpenClaim := { program := "ytcloemgaaaokgaa", sum := "ac212d08262a0ea8e31fb018a5dd87b9b0ec88ecf1be83c8618df3e64a3eb4bd", func := "loop.example/g01373/laws.FnExactCountTurned", spec := "fnExactCountTurned", apart := false }
def FnExactCountTurnedSaid : Prop := fnExactCountTurnedRow.holds Try.pinned (OpenSpec.ofChange fnExactCountTurnedSpec)

/-- ITS FALSE NEIGHBOUR: 'it returns false'. Refute it at one input. -/
def fnExactCountTurnedWrong : ChangeSpec := { name := "fnExactCountTurned", fn := fun _ => fun
  | [d1, d2] => { results := [.lit (.bool false)], args := [d1, d2] }
  | _ => none }
def FnExactCountTurnedWrongFalsely : Prop := fnExactCountTurnedRow.holds Try.pinned (OpenSpec.ofChange fnExactCountTurnedWrong)

/-- 'laws.FnExactCountListed': WHATEVER THE INPUT: true; the input reads as it did. -/
def fnExactCountListedSpec : ChangeSpec := { name := "fnExactCountListed", fn := fun _ => fun
  | [d] => { results := [.lit (.bool true)], args := [d] }
  | _ => none }
def fnExactCountListedRow : OpenClaim := { program := "ytcloemgaaaokgaa", sum := "ac212d08262a0ea8e31fb018a5dd87b9b0ec88ecf1be83c8618df3e64a3eb4bd", func := "loop.example/g01373/laws.FnExactCountListed", spec := "fnExactCountListed", inPlace := ["internal/bytealg.IndexByteString", "internal/bytealg.IndexString", "maps.clone"], unfollowed := true, recurses := true, named := ["internal/bytealg.MaxLen"], apart := false }
def FnExactCountListedSaid : Prop := fnExactCountListedRow.holds Try.pinned (OpenSpec.ofChange fnExactCountListedSpec)

/-- ITS FALSE NEIGHBOUR: 'it returns false'. Refute it at one input. -/
def fnExactCountListedWrong : ChangeSpec := { name := "fnExactCountListed", fn := fun _ => fun
  | [d] => { results := [.lit (.bool false)], args := [d] }
  | _ => none }
def FnExactCountListedWrongFalsely : Prop := fnExactCountListedRow.holds Try.pinned (OpenSpec.ofChange fnExactCountListedWrong)

/-- 'laws.FnExactFirstListed': WHATEVER THE INPUT: true; the input reads as it did. -/
def fnExactFirstListedSpec : ChangeSpec := { name := "fnExactFirstListed", fn := fun _ => fun
  | [d] => { results := [.lit (.bool true)], args := [d] }
  | _ => none }
def fnExactFirstListedRow : OpenClaim := { program := "ytcloemgaaaokgaa", sum := "ac212d08262a0ea8e31fb018a5dd87b9b0ec88ecf1be83c8618df3e64a3eb4bd", func := "loop.example/g01373/laws.FnExactFirstListed", spec := "fnExactFirstListed", inPlace := ["internal/bytealg.IndexByteString", "internal/bytealg.IndexString", "maps.clone"], unfollowed := true, recurses := true, named := ["internal/bytealg.MaxLen"], apart := false }
def FnExactFirstListedSaid : Prop := fnExactFirstListedRow.holds Try.pinned (OpenSpec.ofChange fnExactFirstListedSpec)

/-- ITS FALSE NEIGHBOUR: 'it returns false'. Refute it at one input. -/
def fnExactFirstListedWrong : ChangeSpec := { name := "fnExactFirstListed", fn := fun _ => fun
  | [d] => { results := [.lit (.bool false)], args := [d] }
  | _ => none }
def FnExactFirstListedWrongFalsely : Prop := fnExactFirstListedRow.holds Try.pinned (OpenSpec.ofChange fnExactFirstListedWrong)

/-- 'laws.FnExactLeastCost': WHATEVER THE INPUT: true; the input reads as it did. -/
def fnExactLeastCostSpec : ChangeSpec := { name := "fnExactLeastCost", fn := fun _ => fun
  | [d] => { results := [.lit (.bool true)], args := [d] }
  | _ => none }
def fnExactLeastCostRow : OpenClaim := { program := "ytcloemgaaaokgaa", sum := "ac212d08262a0ea8e31fb018a5dd87b9b0ec88ecf1be83c8618df3e64a3eb4bd", func := "loop.example/g01373/laws.FnExactLeastCost", spec := "fnExactLeastCost", inPlace := ["maps.clone"], apart := false }
def FnExactLeastCostSaid : Prop := fnExactLeastCostRow.holds Try.pinned (OpenSpec.ofChange fnExactLeastCostSpec)

/-- ITS FALSE NEIGHBOUR: 'it returns false'. Refute it at one input. -/
def fnExactLeastCostWrong : ChangeSpec := { name := "fnExactLeastCost", fn := fun _ => fun
  | [d] => { results := [.lit (.bool false)], args := [d] }
  | _ => none }
def FnExactLeastCostWrongFalsely : Prop := fnExactLeastCostRow.holds Try.pinned (OpenSpec.ofChange fnExactLeastCostWrong)

/-- 'laws.FnExactFirstCheapest': WHATEVER THE INPUT: true; the input reads as it did. -/
def fnExactFirstCheapestSpec : ChangeSpec := { name := "fnExactFirstCheapest", fn := fun _ => fun
  | [d] => { results := [.lit (.bool true)], args := [d] }
  | _ => none }
def fnExactFirstCheapestRow : OpenClaim := { program := "ytcloemgaaaokgaa", sum := "ac212d08262a0ea8e31fb018a5dd87b9b0ec88ecf1be83c8618df3e64a3eb4bd", func := "loop.example/g01373/laws.FnExactFirstCheapest", spec := "fnExactFirstCheapest", inPlace := ["maps.clone"], apart := false }
def FnExactFirstCheapestSaid : Prop := fnExactFirstCheapestRow.holds Try.pinned (OpenSpec.ofChange fnExactFirstCheapestSpec)

/-- ITS FALSE NEIGHBOUR: 'it returns false'. Refute it at one input. -/
def fnExactFirstCheapestWrong : ChangeSpec := { name := "fnExactFirstCheapest", fn := fun _ => fun
  | [d] => { results := [.lit (.bool false)], args := [d] }
  | _ => none }
def FnExactFirstCheapestWrongFalsely : Prop := fnExactFirstCheapestRow.holds Try.pinned (OpenSpec.ofChange fnExactFirstCheapestWrong)

/-- 'laws.FnExactFillProper': WHATEVER THE INPUT: true; the input reads as it did. -/
def fnExactFillProperSpec : ChangeSpec := { name := "fnExactFillProper", fn := fun _ => fun
  | [d1, d2, d3] => { results := [.lit (.bool true)], args := [d1, d2, d3] }
  | _ => none }
def fnExactFillProperRow : OpenClaim := { program := "ytcloemgaaaokgaa", sum := "ac212d08262a0ea8e31fb018a5dd87b9b0ec88ecf1be83c8618df3e64a3eb4bd", func := "loop.example/g01373/laws.FnExactFillProper", spec := "fnExactFillProper", inPlace := ["internal/bytealg.IndexByteString", "internal/bytealg.IndexString", "maps.clone"], unfollowed := true, recurses := true, named := ["internal/bytealg.MaxLen"], apart := false }
def FnExactFillProperSaid : Prop := fnExactFillProperRow.holds Try.pinned (OpenSpec.ofChange fnExactFillProperSpec)

/-- ITS FALSE NEIGHBOUR: 'it returns false'. Refute it at one input. -/
def fnExactFillProperWrong : ChangeSpec := { name := "fnExactFillProper", fn := fun _ => fun
  | [d1, d2, d3] => { results := [.lit (.bool false)], args := [d1, d2, d3] }
  | _ => none }
def FnExactFillProperWrongFalsely : Prop := fnExactFillProperRow.holds Try.pinned (OpenSpec.ofChange fnExactFillProperWrong)

/-- 'laws.FnExactCountFills': WHATEVER THE INPUT: true; the input reads as it did. -/
def fnExactCountFillsSpec : ChangeSpec := { name := "fnExactCountFills", fn := fun _ => fun
  | [d1, d2, d3] => { results := [.lit (.bool true)], args := [d1, d2, d3] }
  | _ => none }
def fnExactCountFillsRow : OpenClaim := { program := "ytcloemgaaaokgaa", sum := "ac212d08262a0ea8e31fb018a5dd87b9b0ec88ecf1be83c8618df3e64a3eb4bd", func := "loop.example/g01373/laws.FnExactCountFills", spec := "fnExactCountFills", inPlace := ["internal/bytealg.IndexByteString", "internal/bytealg.IndexString", "maps.clone"], unfollowed := true, recurses := true, named := ["internal/bytealg.MaxLen"], apart := false }
def FnExactCountFillsSaid : Prop := fnExactCountFillsRow.holds Try.pinned (OpenSpec.ofChange fnExactCountFillsSpec)

/-- ITS FALSE NEIGHBOUR: 'it returns false'. Refute it at one input. -/
def fnExactCountFillsWrong : ChangeSpec := { name := "fnExactCountFills", fn := fun _ => fun
  | [d1, d2, d3] => { results := [.lit (.bool false)], args := [d1, d2, d3] }
  | _ => none }
def FnExactCountFillsWrongFalsely : Prop := fnExactCountFillsRow.holds Try.pinned (OpenSpec.ofChange fnExactCountFillsWrong)

/-- 'laws.FnExactFewestRepaints': WHATEVER THE INPUT: true; the input reads as it did. -/
def fnExactFewestRepaintsSpec : ChangeSpec := { name := "fnExactFewestRepaints", fn := fun _ => fun
  | [d1, d2, d3] => { results := [.lit (.bool true)], args := [d1, d2, d3] }
  | _ => none }
def fnExactFewestRepaintsRow : OpenClaim := { program := "ytcloemgaaaokgaa", sum := "ac212d08262a0ea8e31fb018a5dd87b9b0ec88ecf1be83c8618df3e64a3eb4bd", func := "loop.example/g01373/laws.FnExactFewestRepaints", spec := "fnExactFewestRepaints", inPlace := ["internal/bytealg.IndexByteString", "internal/bytealg.IndexString", "maps.clone"], recurses := true, named := ["internal/bytealg.MaxLen"], apart := false }
def FnExactFewestRepaintsSaid : Prop := fnExactFewestRepaintsRow.holds Try.pinned (OpenSpec.ofChange fnExactFewestRepaintsSpec)

/-- ITS FALSE NEIGHBOUR: 'it returns false'. Refute it at one input. -/
def fnExactFewestRepaintsWrong : ChangeSpec := { name := "fnExactFewestRepaints", fn := fun _ => fun
  | [d1, d2, d3] => { results := [.lit (.bool false)], args := [d1, d2, d3] }
  | _ => none }
def FnExactFewestRepaintsWrongFalsely : Prop := fnExactFewestRepaintsRow.holds Try.pinned (OpenSpec.ofChange fnExactFewestRepaintsWrong)

/-- 'laws.FnExactFirstRepainted': WHATEVER THE INPUT: true; the input reads as it did. -/
def fnExactFirstRepaintedSpec : ChangeSpec := { name := "fnExactFirstRepainted", fn := fun _ => fun
  | [d1, d2, d3] => { results := [.lit (.bool true)], args := [d1, d2, d3] }
  | _ => none }
def fnExactFirstRepaintedRow : OpenClaim := { program := "ytcloemgaaaokgaa", sum := "ac212d08262a0ea8e31fb018a5dd87b9b0ec88ecf1be83c8618df3e64a3eb4bd", func := "loop.example/g01373/laws.FnExactFirstRepainted", spec := "fnExactFirstRepainted", inPlace := ["internal/bytealg.IndexByteString", "internal/bytealg.IndexString", "maps.clone"], recurses := true, named := ["internal/bytealg.MaxLen"], apart := false }
def FnExactFirstRepaintedSaid : Prop := fnExactFirstRepaintedRow.holds Try.pinned (OpenSpec.ofChange fnExactFirstRepaintedSpec)

/-- ITS FALSE NEIGHBOUR: 'it returns false'. Refute it at one input. -/
def fnExactFirstRepaintedWrong : ChangeSpec := { name := "fnExactFirstRepainted", fn := fun _ => fun
  | [d1, d2, d3] => { results := [.lit (.bool false)], args := [d1, d2, d3] }
  | _ => none }
def FnExactFirstRepaintedWrongFalsely : Prop := fnExactFirstRepaintedRow.holds Try.pinned (OpenSpec.ofChange fnExactFirstRepaintedWrong)

/-- 'laws.FnExactLongestProper': WHATEVER THE INPUT: true; the input reads as it did. -/
def fnExactLongestProperSpec : ChangeSpec := { name := "fnExactLongestProper", fn := fun _ => fun
  | [d] => { results := [.lit (.bool true)], args := [d] }
  | _ => none }
def fnExactLongestProperRow : OpenClaim := { program := "ytcloemgaaaokgaa", sum := "ac212d08262a0ea8e31fb018a5dd87b9b0ec88ecf1be83c8618df3e64a3eb4bd", func := "loop.example/g01373/laws.FnExactLongestProper", spec := "fnExactLongestProper", inPlace := ["internal/bytealg.IndexByteString", "internal/bytealg.IndexString"], named := ["internal/bytealg.MaxLen"], apart := false }
def FnExactLongestProperSaid : Prop := fnExactLongestProperRow.holds Try.pinned (OpenSpec.ofChange fnExactLongestProperSpec)

/-- ITS FALSE NEIGHBOUR: 'it returns false'. Refute it at one input. -/
def fnExactLongestProperWrong : ChangeSpec := { name := "fnExactLongestProper", fn := fun _ => fun
  | [d] => { results := [.lit (.bool false)], args := [d] }
  | _ => none }
def FnExactLongestProperWrongFalsely : Prop := fnExactLongestProperRow.holds Try.pinned (OpenSpec.ofChange fnExactLongestProperWrong)

/-- 'laws.FnExactTurnFence': WHATEVER THE INPUT: true; the input reads as it did. -/
def fnExactTurnFenceSpec : ChangeSpec := { name := "fnExactTurnFence", fn := fun _ => fun
  | [d1, d2] => { results := [.lit (.bool true)], args := [d1, d2] }
  | _ => none }
def fnExactTurnFenceRow : OpenClaim := { program := "ytcloemgaaaokgaa", sum := "ac212d08262a0ea8e31fb018a5dd87b9b0ec88ecf1be83c8618df3e64a3eb4bd", func := "loop.example/g01373/laws.FnExactTurnFence", spec := "fnExactTurnFence", inPlace := ["internal/bytealg.IndexByteString", "internal/bytealg.IndexString"], named := ["internal/bytealg.MaxLen"], apart := false }
def FnExactTurnFenceSaid : Prop := fnExactTurnFenceRow.holds Try.pinned (OpenSpec.ofChange fnExactTurnFenceSpec)

/-- ITS FALSE NEIGHBOUR: 'it returns false'. Refute it at one input. -/
def fnExactTurnFenceWrong : ChangeSpec := { name := "fnExactTurnFence", fn := fun _ => fun
  | [d1, d2] => { results := [.lit (.bool false)], args := [d1, d2] }
  | _ => none }
def FnExactTurnFenceWrongFalsely : Prop := fnExactTurnFenceRow.holds Try.pinned (OpenSpec.ofChange fnExactTurnFenceWrong)

/-- 'laws.FnExactLeastTurn': WHATEVER THE INPUT: true; the input reads as it did. -/
def fnExactLeastTurnSpec : ChangeSpec := { name := "fnExactLeastTurn", fn := fun _ => fun
  | [d] => { results := [.lit (.bool true)], args := [d] }
  | _ => none }
def fnExactLeastTurnRow : OpenClaim := { program := "ytcloemgaaaokgaa", sum := "ac212d08262a0ea8e31fb018a5dd87b9b0ec88ecf1be83c8618df3e64a3eb4bd", func := "loop.example/g01373/laws.FnExactLeastTurn", spec := "fnExactLeastTurn", inPlace := ["internal/bytealg.IndexByteString", "internal/bytealg.IndexString"], named := ["internal/bytealg.MaxLen"], apart := false }
def FnExactLeastTurnSaid : Prop := fnExactLeastTurnRow.holds Try.pinned (OpenSpec.ofChange fnExactLeastTurnSpec)

/-- ITS FALSE NEIGHBOUR: 'it returns false'. Refute it at one input. -/
def fnExactLeastTurnWrong : ChangeSpec := { name := "fnExactLeastTurn", fn := fun _ => fun
  | [d] => { results := [.lit (.bool false)], args := [d] }
  | _ => none }
def FnExactLeastTurnWrongFalsely : Prop := fnExactLeastTurnRow.holds Try.pinned (OpenSpec.ofChange fnExactLeastTurnWrong)

/- THE SECOND FORM. 'bulk': how many values and letters a reading holds, each counted each time it is reached (what is shared counts as often as it is met; a slice's spare places count too). A statement '..UptoSaid' is the law's where the arguments, and the package variables that the reading takes, are together of bulk at most 1048576: NARROWER than '..Said'. Prove '..Said' where nothing that the law and all that it calls make is longer than what came in: it says more and counts as full. Else prove '..UptoSaid'. A law counts once. -/
mutual
def uptoBulk {H : Type} : DataW H → Nat
  | .lit (.string bytes) => bytes.length + 1
  | .lit _ => 1
  | .nil => 1
  | .ptr d => uptoBulk d + 1
  | .slice elems spare => uptoBulkAll elems + uptoBulkAll spare + 1
  | .agg parts => uptoBulkAll parts + 1
  | .iface _ d => uptoBulk d + 1
  | .map entries => uptoBulkEntries entries + 1
  | .held _ => 1
def uptoBulkAll {H : Type} : List (DataW H) → Nat
  | [] => 0
  | d :: r => uptoBulk d + uptoBulkAll r
def uptoBulkEntries {H : Type} : List (Lit × DataW H) → Nat
  | [] => 0
  | x :: r => uptoBulkEntry x + uptoBulkEntries r
def uptoBulkEntry {H : Type} : Lit × DataW H → Nat
  | (.string bytes, d) => bytes.length + uptoBulk d + 1
  | (_, d) => uptoBulk d + 1
 end
def uptoSmall : (H : Type) → List (DataW H) → Bool := fun _ ds => decide (uptoBulkAll ds ≤ 1048576)
def OpenSpec.upto (s : _root_.Go.ChangeSpec) : _root_.Go.OpenSpec := { _root_.Go.OpenSpec.ofChange s with cond := some uptoSmall }

/-- 'laws.FnExactCountProper', WHERE WHAT IT READS IS OF BULK AT MOST 1048576: true; the input reads as it did. -/
def fnExactCountProperUptoRow : OpenClaim := { program := "ytcloemgaaaokgaa", sum := "ac212d08262a0ea8e31fb018a5dd87b9b0ec88ecf1be83c8618df3e64a3eb4bd", func := "loop.example/g01373/laws.FnExactCountProper", spec := "fnExactCountProper", apart := false, narrowed := true }
def FnExactCountProperUptoSaid : Prop := fnExactCountProperUptoRow.holds Try.pinned (OpenSpec.upto fnExactCountProperSpec)

/-- 'laws.FnExactFirstProper', WHERE WHAT IT READS IS OF BULK AT MOST 1048576: true; the input reads as it did. -/
def fnExactFirstProperUptoRow : OpenClaim := { program := "ytcloemgaaaokgaa", sum := "ac212d08262a0ea8e31fb018a5dd87b9b0ec88ecf1be83c8618df3e64a3eb4bd", func := "loop.example/g01373/laws.FnExactFirstProper", spec := "fnExactFirstProper", inPlace := ["maps.clone"], apart := false, narrowed := true }
def FnExactFirstProperUptoSaid : Prop := fnExactFirstProperUptoRow.holds Try.pinned (OpenSpec.upto fnExactFirstProperSpec)

/-- 'laws.FnExactProperOfRank', WHERE WHAT IT READS IS OF BULK AT MOST 1048576: true; the input reads as it did. -/
def fnExactProperOfRankUptoRow : OpenClaim := { program := "ytcloemgaaaokgaa", sum := "ac212d08262a0ea8e31fb018a5dd87b9b0ec88ecf1be83c8618df3e64a3eb4bd", func := "loop.example/g01373/laws.FnExactProperOfRank", spec := "fnExactProperOfRank", inPlace := ["maps.clone"], apart := false, narrowed := true }
def FnExactProperOfRankUptoSaid : Prop := fnExactProperOfRankUptoRow.holds Try.pinned (OpenSpec.upto fnExactProperOfRankSpec)

/-- 'laws.FnExactCountAllTints', WHERE WHAT IT READS IS OF BULK AT MOST 1048576: true; the input reads as it did. -/
def fnExactCountAllTintsUptoRow : OpenClaim := { program := "ytcloemgaaaokgaa", sum := "ac212d08262a0ea8e31fb018a5dd87b9b0ec88ecf1be83c8618df3e64a3eb4bd", func := "loop.example/g01373/laws.FnExactCountAllTints", spec := "fnExactCountAllTints", apart := false, narrowed := true }
def FnExactCountAllTintsUptoSaid : Prop := fnExactCountAllTintsUptoRow.holds Try.pinned (OpenSpec.upto fnExactCountAllTintsSpec)

/-- 'laws.FnExactCountMirrored', WHERE WHAT IT READS IS OF BULK AT MOST 1048576: true; the input reads as it did. -/
def fnExactCountMirroredUptoRow : OpenClaim := { program := "ytcloemgaaaokgaa", sum := "ac212d08262a0ea8e31fb018a5dd87b9b0ec88ecf1be83c8618df3e64a3eb4bd", func := "loop.example/g01373/laws.FnExactCountMirrored", spec := "fnExactCountMirrored", apart := false, narrowed := true }
def FnExactCountMirroredUptoSaid : Prop := fnExactCountMirroredUptoRow.holds Try.pinned (OpenSpec.upto fnExactCountMirroredSpec)

/-- 'laws.FnExactCountTurned', WHERE WHAT IT READS IS OF BULK AT MOST 1048576: true; the input reads as it did. -/
def fnExactCountTurnedUptoRow : OpenClaim := { program := "ytcloemgaaaokgaa", sum := "ac212d08262a0ea8e31fb018a5dd87b9b0ec88ecf1be83c8618df3e64a3eb4bd", func := "loop.example/g01373/laws.FnExactCountTurned", spec := "fnExactCountTurned", apart := false, narrowed := true }
def FnExactCountTurnedUptoSaid : Prop := fnExactCountTurnedUptoRow.holds Try.pinned (OpenSpec.upto fnExactCountTurnedSpec)

/-- 'laws.FnExactCountListed', WHERE WHAT IT READS IS OF BULK AT MOST 1048576: true; the input reads as it did. -/
def fnExactCountListedUptoRow : OpenClaim := { program := "ytcloemgaaaokgaa", sum := "ac212d08262a0ea8e31fb018a5dd87b9b0ec88ecf1be83c8618df3e64a3eb4bd", func := "loop.example/g01373/laws.FnExactCountListed", spec := "fnExactCountListed", inPlace := ["internal/bytealg.IndexByteString", "internal/bytealg.IndexString", "maps.clone"], unfollowed := true, recurses := true, named := ["internal/bytealg.MaxLen"], apart := false, narrowed := true }
def FnExactCountListedUptoSaid : Prop := fnExactCountListedUptoRow.holds Try.pinned (OpenSpec.upto fnExactCountListedSpec)

/-- 'laws.FnExactFirstListed', WHERE WHAT IT READS IS OF BULK AT MOST 1048576: true; the input reads as it did. -/
def fnExactFirstListedUptoRow : OpenClaim := { program := "ytcloemgaaaokgaa", sum := "ac212d08262a0ea8e31fb018a5dd87b9b0ec88ecf1be83c8618df3e64a3eb4bd", func := "loop.example/g01373/laws.FnExactFirstListed", spec := "fnExactFirstListed", inPlace := ["internal/bytealg.IndexByteString", "internal/bytealg.IndexString", "maps.clone"], unfollowed := true, recurses := true, named := ["internal/bytealg.MaxLen"], apart := false, narrowed := true }
def FnExactFirstListedUptoSaid : Prop := fnExactFirstListedUptoRow.holds Try.pinned (OpenSpec.upto fnExactFirstListedSpec)

/-- 'laws.FnExactLeastCost', WHERE WHAT IT READS IS OF BULK AT MOST 1048576: true; the input reads as it did. -/
def fnExactLeastCostUptoRow : OpenClaim := { program := "ytcloemgaaaokgaa", sum := "ac212d08262a0ea8e31fb018a5dd87b9b0ec88ecf1be83c8618df3e64a3eb4bd", func := "loop.example/g01373/laws.FnExactLeastCost", spec := "fnExactLeastCost", inPlace := ["maps.clone"], apart := false, narrowed := true }
def FnExactLeastCostUptoSaid : Prop := fnExactLeastCostUptoRow.holds Try.pinned (OpenSpec.upto fnExactLeastCostSpec)

/-- 'laws.FnExactFirstCheapest', WHERE WHAT IT READS IS OF BULK AT MOST 1048576: true; the input reads as it did. -/
def fnExactFirstCheapestUptoRow : OpenClaim := { program := "ytcloemgaaaokgaa", sum := "ac212d08262a0ea8e31fb018a5dd87b9b0ec88ecf1be83c8618df3e64a3eb4bd", func := "loop.example/g01373/laws.FnExactFirstCheapest", spec := "fnExactFirstCheapest", inPlace := ["maps.clone"], apart := false, narrowed := true }
def FnExactFirstCheapestUptoSaid : Prop := fnExactFirstCheapestUptoRow.holds Try.pinned (OpenSpec.upto fnExactFirstCheapestSpec)

/-- 'laws.FnExactFillProper', WHERE WHAT IT READS IS OF BULK AT MOST 1048576: true; the input reads as it did. -/
def fnExactFillProperUptoRow : OpenClaim := { program := "ytcloemgaaaokgaa", sum := "ac212d08262a0ea8e31fb018a5dd87b9b0ec88ecf1be83c8618df3e64a3eb4bd", func := "loop.example/g01373/laws.FnExactFillProper", spec := "fnExactFillProper", inPlace := ["internal/bytealg.IndexByteString", "internal/bytealg.IndexString", "maps.clone"], unfollowed := true, recurses := true, named := ["internal/bytealg.MaxLen"], apart := false, narrowed := true }
def FnExactFillProperUptoSaid : Prop := fnExactFillProperUptoRow.holds Try.pinned (OpenSpec.upto fnExactFillProperSpec)

/-- 'laws.FnExactCountFills', WHERE WHAT IT READS IS OF BULK AT MOST 1048576: true; the input reads as it did. -/
def fnExactCountFillsUptoRow : OpenClaim := { program := "ytcloemgaaaokgaa", sum := "ac212d08262a0ea8e31fb018a5dd87b9b0ec88ecf1be83c8618df3e64a3eb4bd", func := "loop.example/g01373/laws.FnExactCountFills", spec := "fnExactCountFills", inPlace := ["internal/bytealg.IndexByteString", "internal/bytealg.IndexString", "maps.clone"], unfollowed := true, recurses := true, named := ["internal/bytealg.MaxLen"], apart := false, narrowed := true }
def FnExactCountFillsUptoSaid : Prop := fnExactCountFillsUptoRow.holds Try.pinned (OpenSpec.upto fnExactCountFillsSpec)

/-- 'laws.FnExactFewestRepaints', WHERE WHAT IT READS IS OF BULK AT MOST 1048576: true; the input reads as it did. -/
def fnExactFewestRepaintsUptoRow : OpenClaim := { program := "ytcloemgaaaokgaa", sum := "ac212d08262a0ea8e31fb018a5dd87b9b0ec88ecf1be83c8618df3e64a3eb4bd", func := "loop.example/g01373/laws.FnExactFewestRepaints", spec := "fnExactFewestRepaints", inPlace := ["internal/bytealg.IndexByteString", "internal/bytealg.IndexString", "maps.clone"], recurses := true, named := ["internal/bytealg.MaxLen"], apart := false, narrowed := true }
def FnExactFewestRepaintsUptoSaid : Prop := fnExactFewestRepaintsUptoRow.holds Try.pinned (OpenSpec.upto fnExactFewestRepaintsSpec)

/-- 'laws.FnExactFirstRepainted', WHERE WHAT IT READS IS OF BULK AT MOST 1048576: true; the input reads as it did. -/
def fnExactFirstRepaintedUptoRow : OpenClaim := { program := "ytcloemgaaaokgaa", sum := "ac212d08262a0ea8e31fb018a5dd87b9b0ec88ecf1be83c8618df3e64a3eb4bd", func := "loop.example/g01373/laws.FnExactFirstRepainted", spec := "fnExactFirstRepainted", inPlace := ["internal/bytealg.IndexByteString", "internal/bytealg.IndexString", "maps.clone"], recurses := true, named := ["internal/bytealg.MaxLen"], apart := false, narrowed := true }
def FnExactFirstRepaintedUptoSaid : Prop := fnExactFirstRepaintedUptoRow.holds Try.pinned (OpenSpec.upto fnExactFirstRepaintedSpec)

/-- 'laws.FnExactLongestProper', WHERE WHAT IT READS IS OF BULK AT MOST 1048576: true; the input reads as it did. -/
def fnExactLongestProperUptoRow : OpenClaim := { program := "ytcloemgaaaokgaa", sum := "ac212d08262a0ea8e31fb018a5dd87b9b0ec88ecf1be83c8618df3e64a3eb4bd", func := "loop.example/g01373/laws.FnExactLongestProper", spec := "fnExactLongestProper", inPlace := ["internal/bytealg.IndexByteString", "internal/bytealg.IndexString"], named := ["internal/bytealg.MaxLen"], apart := false, narrowed := true }
def FnExactLongestProperUptoSaid : Prop := fnExactLongestProperUptoRow.holds Try.pinned (OpenSpec.upto fnExactLongestProperSpec)

/-- 'laws.FnExactTurnFence', WHERE WHAT IT READS IS OF BULK AT MOST 1048576: true; the input reads as it did. -/
def fnExactTurnFenceUptoRow : OpenClaim := { program := "ytcloemgaaaokgaa", sum := "ac212d08262a0ea8e31fb018a5dd87b9b0ec88ecf1be83c8618df3e64a3eb4bd", func := "loop.example/g01373/laws.FnExactTurnFence", spec := "fnExactTurnFence", inPlace := ["internal/bytealg.IndexByteString", "internal/bytealg.IndexString"], named := ["internal/bytealg.MaxLen"], apart := false, narrowed := true }
def FnExactTurnFenceUptoSaid : Prop := fnExactTurnFenceUptoRow.holds Try.pinned (OpenSpec.upto fnExactTurnFenceSpec)

/-- 'laws.FnExactLeastTurn', WHERE WHAT IT READS IS OF BULK AT MOST 1048576: true; the input reads as it did. -/
def fnExactLeastTurnUptoRow : OpenClaim := { program := "ytcloemgaaaokgaa", sum := "ac212d08262a0ea8e31fb018a5dd87b9b0ec88ecf1be83c8618df3e64a3eb4bd", func := "loop.example/g01373/laws.FnExactLeastTurn", spec := "fnExactLeastTurn", inPlace := ["internal/bytealg.IndexByteString", "internal/bytealg.IndexString"], named := ["internal/bytealg.MaxLen"], apart := false, narrowed := true }
def FnExactLeastTurnUptoSaid : Prop := fnExactLeastTurnUptoRow.holds Try.pinned (OpenSpec.upto fnExactLeastTurnSpec)

end Rows
end Go.Proofs.Ytcloemgaaaokgaa
