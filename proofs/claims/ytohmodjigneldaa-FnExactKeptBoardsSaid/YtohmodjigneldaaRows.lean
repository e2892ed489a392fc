/-
  No cell of these rows narrows 'for every input' (looked for: loops, veiled, ifaces, maps, wideKeys, modest, calm, conditions, laid).
  DERIVED. THE GIVEN ROWS OF THIS SEAT. 4 by the template 'for every input the law returns true; each argument reads behind the call as it read before'; 0 by the template 'total and deterministic' (their statements: YtohmodjigneldaaTotals.lean).
  GIVEN WITH THE SEED: the statements are not yours to turn. If you find one false, say at which input.
  Laid BY PROGRAM, IN A SANDBOX (cutbox-rows.mjs): the forced cells as the released guide's own fill.sh prints them over the translation 802f8ca62668a57b… (all of the seat's roots in one cut). By AI agents, Wed Nov 11 2026. No macro, syntax, notation, axiom, sorry.
-/
import Derived.Test.YtohmodjigneldaaChecked
import GoSem.Claim
import GoSem.ClaimJoined
import GoSem.ClaimMapViews
import Derived.JoinedTies
import Derived.KernelRfl
namespace Go.Proofs.Ytohmodjigneldaa
/- THE CELL 'sum', in the pinned program and in every row, IS THE sha256 OF THE DUMP (.gsa) THAT YtohmodjigneldaaProg.lean LOADS. Nothing in Lean hashes anything: it is a label: what it is worth is what the hold of that sum in a sandbox is worth. -/
noncomputable def Try.pinned : Pinned := { name := "ytohmodjigneldaa", sum := "802f8ca62668a57bf3df0f94e84f6de366bdf0d2b35f85d4e774a993d045cfa4", checked := Try.checked }
namespace Rows
def none {H : Type} : Left H := { results := [], args := [] }

/-- 'laws.FnExactFewestStrokes': WHATEVER THE INPUT: true; the input reads as it did. -/
def fnExactFewestStrokesSpec : ChangeSpec := { name := "fnExactFewestStrokes", fn := fun _ => fun
  | [d] => { results := [.lit (.bool true)], args := [d] }
  | _ => none }
def fnExactFewestStrokesRow : OpenClaim := { program := "ytohmodjigneldaa", sum := "802f8ca62668a57bf3df0f94e84f6de366bdf0d2b35f85d4e774a993d045cfa4", func := "loop.example/g01373/laws.FnExactFewestStrokes", spec := "fnExactFewestStrokes", inPlace := ["internal/bytealg.IndexByteString", "internal/bytealg.IndexString", "internal/abi.NoEscape", "internal/bytealg.MakeNoZero"], named := ["internal/bytealg.MaxLen"], apart := false }
def FnExactFewestStrokesSaid : Prop := fnExactFewestStrokesRow.holds Try.pinned (OpenSpec.ofChange fnExactFewestStrokesSpec)

/-- ITS FALSE NEIGHBOUR: 'it returns false'. Refute it at one input. -/
def fnExactFewestStrokesWrong : ChangeSpec := { name := "fnExactFewestStrokes", fn := fun _ => fun
  | [d] => { results := [.lit (.bool false)], args := [d] }
  | _ => none }
def FnExactFewestStrokesWrongFalsely : Prop := fnExactFewestStrokesRow.holds Try.pinned (OpenSpec.ofChange fnExactFewestStrokesWrong)

/-- 'laws.FnExactFewestOver': WHATEVER THE INPUT: true; the input reads as it did. -/
def fnExactFewestOverSpec : ChangeSpec := { name := "fnExactFewestOver", fn := fun _ => fun
  | [d1, d2] => { results := [.lit (.bool true)], args := [d1, d2] }
  | _ => none }
def fnExactFewestOverRow : OpenClaim := { program := "ytohmodjigneldaa", sum := "802f8ca62668a57bf3df0f94e84f6de366bdf0d2b35f85d4e774a993d045cfa4", func := "loop.example/g01373/laws.FnExactFewestOver", spec := "fnExactFewestOver", inPlace := ["internal/bytealg.IndexByteString", "internal/bytealg.IndexString"], named := ["internal/bytealg.MaxLen"], apart := false }
def FnExactFewestOverSaid : Prop := fnExactFewestOverRow.holds Try.pinned (OpenSpec.ofChange fnExactFewestOverSpec)

/-- ITS FALSE NEIGHBOUR: 'it returns false'. Refute it at one input. -/
def fnExactFewestOverWrong : ChangeSpec := { name := "fnExactFewestOver", fn := fun _ => fun
  | [d1, d2] => { results := [.lit (.bool false)], args := [d1, d2] }
  | _ => none }
def FnExactFewestOverWrongFalsely : Prop := fnExactFewestOverRow.holds Try.pinned (OpenSpec.ofChange fnExactFewestOverWrong)

/-- 'laws.FnExactFirstOver': WHATEVER THE INPUT: true; the input reads as it did. -/
def fnExactFirstOverSpec : ChangeSpec := { name := "fnExactFirstOver", fn := fun _ => fun
  | [d1, d2] => { results := [.lit (.bool true)], args := [d1, d2] }
  | _ => none }
def fnExactFirstOverRow : OpenClaim := { program := "ytohmodjigneldaa", sum := "802f8ca62668a57bf3df0f94e84f6de366bdf0d2b35f85d4e774a993d045cfa4", func := "loop.example/g01373/laws.FnExactFirstOver", spec := "fnExactFirstOver", inPlace := ["internal/bytealg.IndexByteString", "internal/bytealg.IndexString", "internal/abi.NoEscape", "internal/bytealg.MakeNoZero"], named := ["internal/bytealg.MaxLen"], apart := false }
def FnExactFirstOverSaid : Prop := fnExactFirstOverRow.holds Try.pinned (OpenSpec.ofChange fnExactFirstOverSpec)

/-- ITS FALSE NEIGHBOUR: 'it returns false'. Refute it at one input. -/
def fnExactFirstOverWrong : ChangeSpec := { name := "fnExactFirstOver", fn := fun _ => fun
  | [d1, d2] => { results := [.lit (.bool false)], args := [d1, d2] }
  | _ => none }
def FnExactFirstOverWrongFalsely : Prop := fnExactFirstOverRow.holds Try.pinned (OpenSpec.ofChange fnExactFirstOverWrong)

/-- 'laws.FnExactKeptBoards': WHATEVER THE INPUT: true; the input reads as it did. -/
def fnExactKeptBoardsSpec : ChangeSpec := { name := "fnExactKeptBoards", fn := fun _ => fun
  | [d1, d2] => { results := [.lit (.bool true)], args := [d1, d2] }
  | _ => none }
def fnExactKeptBoardsRow : OpenClaim := { program := "ytohmodjigneldaa", sum := "802f8ca62668a57bf3df0f94e84f6de366bdf0d2b35f85d4e774a993d045cfa4", func := "loop.example/g01373/laws.FnExactKeptBoards", spec := "fnExactKeptBoards", inPlace := ["internal/bytealg.IndexByteString", "internal/bytealg.IndexString", "internal/abi.NoEscape", "internal/bytealg.MakeNoZero"], named := ["internal/bytealg.MaxLen"], apart := false }
def FnExactKeptBoardsSaid : Prop := fnExactKeptBoardsRow.holds Try.pinned (OpenSpec.ofChange fnExactKeptBoardsSpec)

/-- ITS FALSE NEIGHBOUR: 'it returns false'. Refute it at one input. -/
def fnExactKeptBoardsWrong : ChangeSpec := { name := "fnExactKeptBoards", fn := fun _ => fun
  | [d1, d2] => { results := [.lit (.bool false)], args := [d1, d2] }
  | _ => none }
def FnExactKeptBoardsWrongFalsely : Prop := fnExactKeptBoardsRow.holds Try.pinned (OpenSpec.ofChange fnExactKeptBoardsWrong)

/- THE SECOND FORM. 'bulk': how many values and letters a reading holds, each counted each time it is reached (what is shared counts as often as it is met; a slice's spare places count too). A statement '..UptoSaid' is the law's where the arguments, and the package variables that the reading takes, are together of bulk at most 1048576: NARROWER than '..Said'. Prove '..Said' where nothing that the law and all that it calls make is longer than what came in: it says more and counts as full. Else prove '..UptoSaid'. A law counts once. -/
mutual
def uptoBulk {H : Type} : DataW H → Nat
  | .lit (.string bytes) => bytes.length + 1
  | .lit _ => 1
  | .nil => 1
  | .ptr d => uptoBulk d + 1
  | .slice elems spare => uptoBulkAll elems + uptoBulkAll spare + 1
  | .agg parts => uptoBulkAll parts + 1
  | .iface _ d => uptoBulk d + 1
  | .map entries => uptoBulkEntries entries + 1
  | .held _ => 1
def uptoBulkAll {H : Type} : List (DataW H) → Nat
  | [] => 0
  | d :: r => uptoBulk d + uptoBulkAll r
def uptoBulkEntries {H : Type} : List (Lit × DataW H) → Nat
  | [] => 0
  | x :: r => uptoBulkEntry x + uptoBulkEntries r
def uptoBulkEntry {H : Type} : Lit × DataW H → Nat
  | (.string bytes, d) => bytes.length + uptoBulk d + 1
  | (_, d) => uptoBulk d + 1
 end
def uptoSmall : (H : Type) → List (DataW H) → Bool := fun _ ds => decide (uptoBulkAll ds ≤ 1048576)
def OpenSpec.upto (s : _root_.Go.ChangeSpec) : _root_.Go.OpenSpec := { _root_.Go.OpenSpec.ofChange s with cond := some uptoSmall }

/-- 'laws.FnExactFewestStrokes', WHERE WHAT IT READS IS OF BULK AT MOST 1048576: true; the input reads as it did. -/
def fnExactFewestStrokesUptoRow : OpenClaim := { program := "ytohmodjigneldaa", sum := "802f8ca62668a57bf3df0f94e84f6de366bdf0d2b35f85d4e774a993d045cfa4", func := "loop.example/g01373/laws.FnExactFewestStrokes", spec := "fnExactFewestStrokes", inPlace := ["internal/bytealg.IndexByteString", "internal/bytealg.IndexString", "internal/abi.NoEscape", "internal/bytealg.MakeNoZero"], named := ["internal/bytealg.MaxLen"], apart := false, narrowed := true }
def FnExactFewestStrokesUptoSaid : Prop := fnExactFewestStrokesUptoRow.holds Try.pinned (OpenSpec.upto fnExactFewestStrokesSpec)

/-- 'laws.FnExactFewestOver', WHERE WHAT IT READS IS OF BULK AT MOST 1048576: true; the input reads as it did. -/
def fnExactFewestOverUptoRow : OpenClaim := { program := "ytohmodjigneldaa", sum := "802f8ca62668a57bf3df0f94e84f6de366bdf0d2b35f85d4e774a993d045cfa4", func := "loop.example/g01373/laws.FnExactFewestOver", spec := "fnExactFewestOver", inPlace := ["internal/bytealg.IndexByteString", "internal/bytealg.IndexString"], named := ["internal/bytealg.MaxLen"], apart := false, narrowed := true }
def FnExactFewestOverUptoSaid : Prop := fnExactFewestOverUptoRow.holds Try.pinned (OpenSpec.upto fnExactFewestOverSpec)

/-- 'laws.FnExactFirstOver', WHERE WHAT IT READS IS OF BULK AT MOST 1048576: true; the input reads as it did. -/
def fnExactFirstOverUptoRow : OpenClaim := { program := "ytohmodjigneldaa", sum := "802f8ca62668a57bf3df0f94e84f6de366bdf0d2b35f85d4e774a993d045cfa4", func := "loop.example/g01373/laws.FnExactFirstOver", spec := "fnExactFirstOver", inPlace := ["internal/bytealg.IndexByteString", "internal/bytealg.IndexString", "internal/abi.NoEscape", "internal/bytealg.MakeNoZero"], named := ["internal/bytealg.MaxLen"], apart := false, narrowed := true }
def FnExactFirstOverUptoSaid : Prop := fnExactFirstOverUptoRow.holds Try.pinned (OpenSpec.upto fnExactFirstOverSpec)

/-- 'laws.FnExactKeptBoards', WHERE WHAT IT READS IS OF BULK AT MOST 1048576: true; the input reads as it did. -/
def fnExactKeptBoardsUptoRow : OpenClaim := { program := "ytohmodjigneldaa", sum := "802f8ca62668a57bf3df0f94e84f6de366bdf0d2b35f85d4e774a993d045cfa4", func := "loop.example/g01373/laws.FnExactKeptBoards", spec := "fnExactKeptBoards", inPlace := ["internal/bytealg.IndexByteString", "internal/bytealg.IndexString", "internal/abi.NoEscape", "internal/bytealg.MakeNoZero"], named := ["internal/bytealg.MaxLen"], apart := false, narrowed := true }
def FnExactKeptBoardsUptoSaid : Prop := fnExactKeptBoardsUptoRow.holds Try.pinned (OpenSpec.upto fnExactKeptBoardsSpec)

end Rows
end Go.Proofs.Ytohmodjigneldaa
