/-
  No cell of these rows narrows 'for every input' (looked for: loops, veiled, ifaces, maps, wideKeys, modest, calm, conditions, laid).
  DERIVED. THE GIVEN ROWS OF THIS SEAT. 9 by the template 'for every input the law returns true; each argument reads behind the call as it read before'; 0 by the template 'total and deterministic' (their statements: YteefkgnojdgehaaTotals.lean).
  GIVEN WITH THE SEED: the statements are not yours to turn. If you find one false, say at which input.
  Laid BY PROGRAM, IN A SANDBOX (cutbox-rows.mjs): the forced cells as the released guide's own fill.sh prints them over the translation 4a110cc99e3dff1a… (all of the seat's roots in one cut). By AI agents, Wed Nov 11 2026. No macro, syntax, notation, axiom, sorry.
-/
import Derived.Test.YteefkgnojdgehaaChecked
import GoSem.Claim
import GoSem.ClaimJoined
import GoSem.ClaimMapViews
import Derived.JoinedTies
import Derived.KernelRfl
namespace Go.Proofs.Yteefkgnojdgehaa
/- THE CELL 'sum', in the pinned program and in every row, IS THE sha256 OF THE DUMP (.gsa) THAT YteefkgnojdgehaaProg.lean LOADS. Nothing in Lean hashes anything: it is a label: what it is worth is what the hold of that sum in a sandbox is worth. -/
noncomputable def Try.pinned : Pinned := { name := "yteefkgnojdgehaa", sum := "4a110cc99e3dff1aa9e60bce3dc9548234e5354c236dbb08442f208701f59311", checked := Try.checked }
namespace Rows
def none {H : Type} : Left H := { results := [], args := [] }

/-- 'laws.FnExactFirstProper': WHATEVER THE INPUT: true; the input reads as it did. -/
def fnExactFirstProperSpec : ChangeSpec := { name := "fnExactFirstProper", fn := fun _ => fun
  | [d1, d2, d3] => { results := [.lit (.bool true)], args := [d1, d2, d3] }
  | _ => none }
def fnExactFirstProperRow : OpenClaim := { program := "yteefkgnojdgehaa", sum := "4a110cc99e3dff1aa9e60bce3dc9548234e5354c236dbb08442f208701f59311", func := "loop.example/g01373/laws.FnExactFirstProper", spec := "fnExactFirstProper", inPlace := ["maps.clone"], apart := false }
def FnExactFirstProperSaid : Prop := fnExactFirstProperRow.holds Try.pinned (OpenSpec.ofChange fnExactFirstProperSpec)

/-- ITS FALSE NEIGHBOUR: 'it returns false'. Refute it at one input. -/
def fnExactFirstProperWrong : ChangeSpec := { name := "fnExactFirstProper", fn := fun _ => fun
  | [d1, d2, d3] => { results := [.lit (.bool false)], args := [d1, d2, d3] }
  | _ => none }
def FnExactFirstProperWrongFalsely : Prop := fnExactFirstProperRow.holds Try.pinned (OpenSpec.ofChange fnExactFirstProperWrong)

/-- 'laws.FnExactProperOfRank': WHATEVER THE INPUT: true; the input reads as it did. -/
def fnExactProperOfRankSpec : ChangeSpec := { name := "fnExactProperOfRank", fn := fun _ => fun
  | [d1, d2, d3, d4] => { results := [.lit (.bool true)], args := [d1, d2, d3, d4] }
  | _ => none }
def fnExactProperOfRankRow : OpenClaim := { program := "yteefkgnojdgehaa", sum := "4a110cc99e3dff1aa9e60bce3dc9548234e5354c236dbb08442f208701f59311", func := "loop.example/g01373/laws.FnExactProperOfRank", spec := "fnExactProperOfRank", inPlace := ["maps.clone"], apart := false }
def FnExactProperOfRankSaid : Prop := fnExactProperOfRankRow.holds Try.pinned (OpenSpec.ofChange fnExactProperOfRankSpec)

/-- ITS FALSE NEIGHBOUR: 'it returns false'. Refute it at one input. -/
def fnExactProperOfRankWrong : ChangeSpec := { name := "fnExactProperOfRank", fn := fun _ => fun
  | [d1, d2, d3, d4] => { results := [.lit (.bool false)], args := [d1, d2, d3, d4] }
  | _ => none }
def FnExactProperOfRankWrongFalsely : Prop := fnExactProperOfRankRow.holds Try.pinned (OpenSpec.ofChange fnExactProperOfRankWrong)

/-- 'laws.FnExactCountListed': WHATEVER THE INPUT: true; the input reads as it did. -/
def fnExactCountListedSpec : ChangeSpec := { name := "fnExactCountListed", fn := fun _ => fun
  | [d] => { results := [.lit (.bool true)], args := [d] }
  | _ => none }
def fnExactCountListedRow : OpenClaim := { program := "yteefkgnojdgehaa", sum := "4a110cc99e3dff1aa9e60bce3dc9548234e5354c236dbb08442f208701f59311", func := "loop.example/g01373/laws.FnExactCountListed", spec := "fnExactCountListed", inPlace := ["internal/bytealg.IndexByteString", "internal/bytealg.IndexString", "maps.clone"], unfollowed := true, recurses := true, named := ["internal/bytealg.MaxLen"], apart := false }
def FnExactCountListedSaid : Prop := fnExactCountListedRow.holds Try.pinned (OpenSpec.ofChange fnExactCountListedSpec)

/-- ITS FALSE NEIGHBOUR: 'it returns false'. Refute it at one input. -/
def fnExactCountListedWrong : ChangeSpec := { name := "fnExactCountListed", fn := fun _ => fun
  | [d] => { results := [.lit (.bool false)], args := [d] }
  | _ => none }
def FnExactCountListedWrongFalsely : Prop := fnExactCountListedRow.holds Try.pinned (OpenSpec.ofChange fnExactCountListedWrong)

/-- 'laws.FnExactFirstListed': WHATEVER THE INPUT: true; the input reads as it did. -/
def fnExactFirstListedSpec : ChangeSpec := { name := "fnExactFirstListed", fn := fun _ => fun
  | [d] => { results := [.lit (.bool true)], args := [d] }
  | _ => none }
def fnExactFirstListedRow : OpenClaim := { program := "yteefkgnojdgehaa", sum := "4a110cc99e3dff1aa9e60bce3dc9548234e5354c236dbb08442f208701f59311", func := "loop.example/g01373/laws.FnExactFirstListed", spec := "fnExactFirstListed", inPlace := ["internal/bytealg.IndexByteString", "internal/bytealg.IndexString", "maps.clone"], unfollowed := true, recurses := true, named := ["internal/bytealg.MaxLen"], apart := false }
def FnExactFirstListedSaid : Prop := fnExactFirstListedRow.holds Try.pinned (OpenSpec.ofChange fnExactFirstListedSpec)

/-- ITS FALSE NEIGHBOUR: 'it returns false'. Refute it at one input. -/
def fnExactFirstListedWrong : ChangeSpec := { name := "fnExactFirstListed", fn := fun _ => fun
  | [d] => { results := [.lit (.bool false)], args := [d] }
  | _ => none }
def FnExactFirstListedWrongFalsely : Prop := fnExactFirstListedRow.holds Try.pinned (OpenSpec.ofChange fnExactFirstListedWrong)

/-- 'laws.FnExactFirstCheapest': WHATEVER THE INPUT: true; the input reads as it did. -/
def fnExactFirstCheapestSpec : ChangeSpec := { name := "fnExactFirstCheapest", fn := fun _ => fun
  | [d] => { results := [.lit (.bool true)], args := [d] }
  | _ => none }
def fnExactFirstCheapestRow : OpenClaim := { program := "yteefkgnojdgehaa", sum := "4a110cc99e3dff1aa9e60bce3dc9548234e5354c236dbb08442f208701f59311", func := "loop.example/g01373/laws.FnExactFirstCheapest", spec := "fnExactFirstCheapest", inPlace := ["maps.clone"], apart := false }
def FnExactFirstCheapestSaid : Prop := fnExactFirstCheapestRow.holds Try.pinned (OpenSpec.ofChange fnExactFirstCheapestSpec)

/-- ITS FALSE NEIGHBOUR: 'it returns false'. Refute it at one input. -/
def fnExactFirstCheapestWrong : ChangeSpec := { name := "fnExactFirstCheapest", fn := fun _ => fun
  | [d] => { results := [.lit (.bool false)], args := [d] }
  | _ => none }
def FnExactFirstCheapestWrongFalsely : Prop := fnExactFirstCheapestRow.holds Try.pinned (OpenSpec.ofChange fnExactFirstCheapestWrong)

/-- 'laws.FnExactFillProper': WHATEVER THE INPUT: true; the input reads as it did. -/
def fnExactFillProperSpec : ChangeSpec := { name := "fnExactFillProper", fn := fun _ => fun
  | [d1, d2, d3] => { results := [.lit (.bool true)], args := [d1, d2, d3] }
  | _ => none }
def fnExactFillProperRow : OpenClaim := { program := "yteefkgnojdgehaa", sum := "4a110cc99e3dff1aa9e60bce3dc9548234e5354c236dbb08442f208701f59311", func := "loop.example/g01373/laws.FnExactFillProper", spec := "fnExactFillProper", inPlace := ["internal/bytealg.IndexByteString", "internal/bytealg.IndexString", "maps.clone"], unfollowed := true, recurses := true, named := ["internal/bytealg.MaxLen"], apart := false }
def FnExactFillProperSaid : Prop := fnExactFillProperRow.holds Try.pinned (OpenSpec.ofChange fnExactFillProperSpec)

/-- ITS FALSE NEIGHBOUR: 'it returns false'. Refute it at one input. -/
def fnExactFillProperWrong : ChangeSpec := { name := "fnExactFillProper", fn := fun _ => fun
  | [d1, d2, d3] => { results := [.lit (.bool false)], args := [d1, d2, d3] }
  | _ => none }
def FnExactFillProperWrongFalsely : Prop := fnExactFillProperRow.holds Try.pinned (OpenSpec.ofChange fnExactFillProperWrong)

/-- 'laws.FnExactCountFills': WHATEVER THE INPUT: true; the input reads as it did. -/
def fnExactCountFillsSpec : ChangeSpec := { name := "fnExactCountFills", fn := fun _ => fun
  | [d1, d2, d3] => { results := [.lit (.bool true)], args := [d1, d2, d3] }
  | _ => none }
def fnExactCountFillsRow : OpenClaim := { program := "yteefkgnojdgehaa", sum := "4a110cc99e3dff1aa9e60bce3dc9548234e5354c236dbb08442f208701f59311", func := "loop.example/g01373/laws.FnExactCountFills", spec := "fnExactCountFills", inPlace := ["internal/bytealg.IndexByteString", "internal/bytealg.IndexString", "maps.clone"], unfollowed := true, recurses := true, named := ["internal/bytealg.MaxLen"], apart := false }
def FnExactCountFillsSaid : Prop := fnExactCountFillsRow.holds Try.pinned (OpenSpec.ofChange fnExactCountFillsSpec)

/-- ITS FALSE NEIGHBOUR: 'it returns false'. Refute it at one input. -/
def fnExactCountFillsWrong : ChangeSpec := { name := "fnExactCountFills", fn := fun _ => fun
  | [d1, d2, d3] => { results := [.lit (.bool false)], args := [d1, d2, d3] }
  | _ => none }
def FnExactCountFillsWrongFalsely : Prop := fnExactCountFillsRow.holds Try.pinned (OpenSpec.ofChange fnExactCountFillsWrong)

/-- 'laws.FnExactFewestRepaints': WHATEVER THE INPUT: true; the input reads as it did. -/
def fnExactFewestRepaintsSpec : ChangeSpec := { name := "fnExactFewestRepaints", fn := fun _ => fun
  | [d1, d2, d3] => { results := [.lit (.bool true)], args := [d1, d2, d3] }
  | _ => none }
def fnExactFewestRepaintsRow : OpenClaim := { program := "yteefkgnojdgehaa", sum := "4a110cc99e3dff1aa9e60bce3dc9548234e5354c236dbb08442f208701f59311", func := "loop.example/g01373/laws.FnExactFewestRepaints", spec := "fnExactFewestRepaints", inPlace := ["internal/bytealg.IndexByteString", "internal/bytealg.IndexString", "maps.clone"], recurses := true, named := ["internal/bytealg.MaxLen"], apart := false }
def FnExactFewestRepaintsSaid : Prop := fnExactFewestRepaintsRow.holds Try.pinned (OpenSpec.ofChange fnExactFewestRepaintsSpec)

/-- ITS FALSE NEIGHBOUR: 'it returns false'. Refute it at one input. -/
def fnExactFewestRepaintsWrong : ChangeSpec := { name := "fnExactFewestRepaints", fn := fun _ => fun
  | [d1, d2, d3] => { results := [.lit (.bool false)], args := [d1, d2, d3] }
  | _ => none }
def FnExactFewestRepaintsWrongFalsely : Prop := fnExactFewestRepaintsRow.holds Try.pinned (OpenSpec.ofChange fnExactFewestRepaintsWrong)

/-- 'laws.FnExactFirstRepainted': WHATEVER THE INPUT: true; the input reads as it did. -/
def fnExactFirstRepaintedSpec : ChangeSpec := { name := "fnExactFirstRepainted", fn := fun _ => fun
  | [d1, d2, d3] => { results := [.lit (.bool true)], args := [d1, d2, d3] }
  | _ => none }
def fnExactFirstRepaintedRow : OpenClaim := { program := "yteefkgnojdgehaa", sum := "4a110cc99e3dff1aa9e60bce3dc9548234e5354c236dbb08442f208701f59311", func := "loop.example/g01373/laws.FnExactFirstRepainted", spec := "fnExactFirstRepainted", inPlace := ["internal/bytealg.IndexByteString", "internal/bytealg.IndexString", "maps.clone"], recurses := true, named := ["internal/bytealg.MaxLen"], apart := false }
def FnExactFirstRepaintedSaid : Prop := fnExactFirstRepaintedRow.holds Try.pinned (OpenSpec.ofChange fnExactFirstRepaintedSpec)

/-- ITS FALSE NEIGHBOUR: 'it returns false'. Refute it at one input. -/
def fnExactFirstRepaintedWrong : ChangeSpec := { name := "fnExactFirstRepainted", fn := fun _ => fun
  | [d1, d2, d3] => { results := [.lit (.bool false)], args := [d1, d2, d3] }
  | _ => none }
def FnExactFirstRepaintedWrongFalsely : Prop := fnExactFirstRepaintedRow.holds Try.pinned (OpenSpec.ofChange fnExactFirstRepaintedWrong)

/- THE SECOND FORM. 'bulk': how many values and letters a reading holds, each counted each time it is reached (what is shared counts as often as it is met; a slice's spare places count too). A statement '..UptoSaid' is the law's where the arguments, and the package variables that the reading takes, are together of bulk at most 1048576: NARROWER than '..Said'. Prove '..Said' where nothing that the law and all that it calls make is longer than what came in: it says more and counts as full. Else prove '..UptoSaid'. A law counts once. -/
mutual
def uptoBulk {H : Type} : DataW H → Nat
  | .lit (.string bytes) => bytes.length + 1
  | .lit _ => 1
  | .nil => 1
  | .ptr d => uptoBulk d + 1
  | .slice elems spare => uptoBulkAll elems + uptoBulkAll spare + 1
  | .agg parts => uptoBulkAll parts + 1
  | .iface _ d => uptoBulk d + 1
  | .map entries => uptoBulkEntries entries + 1
  | .held _ => 1
def uptoBulkAll {H : Type} : List (DataW H) → Nat
  | [] => 0
  | d :: r => uptoBulk d + uptoBulkAll r
def uptoBulkEntries {H : Type} : List (Lit × DataW H) → Nat
  | [] => 0
  | x :: r => uptoBulkEntry x + uptoBulkEntries r
def uptoBulkEntry {H : Type} : Lit × DataW H → Nat
  | (.string bytes, d) => bytes.length + uptoBulk d + 1
  | (_, d) => uptoBulk d + 1
 end
def uptoSmall : (H : Type) → List (DataW H) → Bool := fun _ ds => decide (uptoBulkAll ds ≤ 1048576)
def OpenSpec.upto (s : _root_.Go.ChangeSpec) : _root_.Go.OpenSpec := { _root_.Go.OpenSpec.ofChange s with cond := some uptoSmall }

/-- 'laws.FnExactFirstProper', WHERE WHAT IT READS IS OF BULK AT MOST 1048576: true; the input reads as it did. -/
def fnExactFirstProperUptoRow : OpenClaim := { program := "yteefkgnojdgehaa", sum := "4a110cc99e3dff1aa9e60bce3dc9548234e5354c236dbb08442f208701f59311", func := "loop.example/g01373/laws.FnExactFirstProper", spec := "fnExactFirstProper", inPlace := ["maps.clone"], apart := false, narrowed := true }
def FnExactFirstProperUptoSaid : Prop := fnExactFirstProperUptoRow.holds Try.pinned (OpenSpec.upto fnExactFirstProperSpec)

/-- 'laws.FnExactProperOfRank', WHERE WHAT IT READS IS OF BULK AT MOST 1048576: true; the input reads as it did. -/
def fnExactProperOfRankUptoRow : OpenClaim := { program := "yteefkgnojdgehaa", sum := "4a110cc99e3dff1aa9e60bce3dc9548234e5354c236dbb08442f208701f59311", func := "loop.example/g01373/laws.FnExactProperOfRank", spec := "fnExactProperOfRank", inPlace := ["maps.clone"], apart := false, narrowed := true }
def FnExactProperOfRankUptoSaid : Prop := fnExactProperOfRankUptoRow.holds Try.pinned (OpenSpec.upto fnExactProperOfRankSpec)

/-- 'laws.FnExactCountListed', WHERE WHAT IT READS IS OF BULK AT MOST 1048576: true; the input reads as it did. -/
def fnExactCountListedUptoRow : OpenClaim := { program := "yteefkgnojdgehaa", sum := "4a110cc99e3dff1aa9e60bce3dc9548234e5354c236dbb08442f208701f59311", func := "loop.example/g01373/laws.FnExactCountListed", spec := "fnExactCountListed", inPlace := ["internal/bytealg.IndexByteString", "internal/bytealg.IndexString", "maps.clone"], unfollowed := true, recurses := true, named := ["internal/bytealg.MaxLen"], apart := false, narrowed := true }
def FnExactCountListedUptoSaid : Prop := fnExactCountListedUptoRow.holds Try.pinned (OpenSpec.upto fnExactCountListedSpec)

/-- 'laws.FnExactFirstListed', WHERE WHAT IT READS IS OF BULK AT MOST 1048576: true; the input reads as it did. -/
def fnExactFirstListedUptoRow : OpenClaim := { program := "yteefkgnojdgehaa", sum := "4a110cc99e3dff1aa9e60bce3dc9548234e5354c236dbb08442f208701f59311", func := "loop.example/g01373/laws.FnExactFirstListed", spec := "fnExactFirstListed", inPlace := ["internal/bytealg.IndexByteString", "internal/bytealg.IndexString", "maps.clone"], unfollowed := true, recurses := true, named := ["internal/bytealg.MaxLen"], apart := false, narrowed := true }
def FnExactFirstListedUptoSaid : Prop := fnExactFirstListedUptoRow.holds Try.pinned (OpenSpec.upto fnExactFirstListedSpec)

/-- 'laws.FnExactFirstCheapest', WHERE WHAT IT READS IS OF BULK AT MOST 1048576: true; the input reads as it did. -/
def fnExactFirstCheapestUptoRow : OpenClaim := { program := "yteefkgnojdgehaa", sum := "4a110cc99e3dff1aa9e60bce3dc9548234e5354c236dbb08442f208701f59311", func := "loop.example/g01373/laws.FnExactFirstCheapest", spec := "fnExactFirstCheapest", inPlace := ["maps.clone"], apart := false, narrowed := true }
def FnExactFirstCheapestUptoSaid : Prop := fnExactFirstCheapestUptoRow.holds Try.pinned (OpenSpec.upto fnExactFirstCheapestSpec)

/-- 'laws.FnExactFillProper', WHERE WHAT IT READS IS OF BULK AT MOST 1048576: true; the input reads as it did. -/
def fnExactFillProperUptoRow : OpenClaim := { program := "yteefkgnojdgehaa", sum := "4a110cc99e3dff1aa9e60bce3dc9548234e5354c236dbb08442f208701f59311", func := "loop.example/g01373/laws.FnExactFillProper", spec := "fnExactFillProper", inPlace := ["internal/bytealg.IndexByteString", "internal/bytealg.IndexString", "maps.clone"], unfollowed := true, recurses := true, named := ["internal/bytealg.MaxLen"], apart := false, narrowed := true }
def FnExactFillProperUptoSaid : Prop := fnExactFillProperUptoRow.holds Try.pinned (OpenSpec.upto fnExactFillProperSpec)

/-- 'laws.FnExactCountFills', WHERE WHAT IT READS IS OF BULK AT MOST 1048576: true; the input reads as it did. -/
def fnExactCountFillsUptoRow : OpenClaim := { program := "yteefkgnojdgehaa", sum := "4a110cc99e3dff1aa9e60bce3dc9548234e5354c236dbb08442f208701f59311", func := "loop.example/g01373/laws.FnExactCountFills", spec := "fnExactCountFills", inPlace := ["internal/bytealg.IndexByteString", "internal/bytealg.IndexString", "maps.clone"], unfollowed := true, recurses := true, named := ["internal/bytealg.MaxLen"], apart := false, narrowed := true }
def FnExactCountFillsUptoSaid : Prop := fnExactCountFillsUptoRow.holds Try.pinned (OpenSpec.upto fnExactCountFillsSpec)

/-- 'laws.FnExactFewestRepaints', WHERE WHAT IT READS IS OF BULK AT MOST 1048576: true; the input reads as it did. -/
def fnExactFewestRepaintsUptoRow : OpenClaim := { program := "yteefkgnojdgehaa", sum := "4a110cc99e3dff1aa9e60bce3dc9548234e5354c236dbb08442f208701f59311", func := "loop.example/g01373/laws.FnExactFewestRepaints", spec := "fnExactFewestRepaints", inPlace := ["internal/bytealg.IndexByteString", "internal/bytealg.IndexString", "maps.clone"], recurses := true, named := ["internal/bytealg.MaxLen"], apart := false, narrowed := true }
def FnExactFewestRepaintsUptoSaid : Prop := fnExactFewestRepaintsUptoRow.holds Try.pinned (OpenSpec.upto fnExactFewestRepaintsSpec)

/-- 'laws.FnExactFirstRepainted', WHERE WHAT IT READS IS OF BULK AT MOST 1048576: true; the input reads as it did. -/
def fnExactFirstRepaintedUptoRow : OpenClaim := { program := "yteefkgnojdgehaa", sum := "4a110cc99e3dff1aa9e60bce3dc9548234e5354c236dbb08442f208701f59311", func := "loop.example/g01373/laws.FnExactFirstRepainted", spec := "fnExactFirstRepainted", inPlace := ["internal/bytealg.IndexByteString", "internal/bytealg.IndexString", "maps.clone"], recurses := true, named := ["internal/bytealg.MaxLen"], apart := false, narrowed := true }
def FnExactFirstRepaintedUptoSaid : Prop := fnExactFirstRepaintedUptoRow.holds Try.pinned (OpenSpec.upto fnExactFirstRepaintedSpec)

end Rows
end Go.Proofs.Yteefkgnojdgehaa
