/- NeedlessStrokes: the function of the program. No condition but the lists' and the texts' lengths. -/
import Derived.Test.YtohmodjigneldaaMarkS
import Derived.Test.YtohmodjigneldaaAll
import Derived.Deep.AppendLies
namespace Go.Proofs.Ytohmodjigneldaa
open Go.RowKit

/-- without the stroke x the fence is the same -/
def needB (s : ByteArray) (L : List Strk) (x : Nat) : Bool := (paintX s L x L.length).toList == (paintJ s L L.length).toList
def needJ (s : ByteArray) (L : List Strk) (j : Nat) : List Int := ((List.range j).filter (needB s L)).map fun x : Nat => (x : Int)
theorem needJ_len (s : ByteArray) (L : List Strk) (j : Nat) : (needJ s L j).length ≤ j := by
  unfold needJ
  rw [List.length_map]
  have := List.length_filter_le (needB s L) (List.range j)
  rwa [List.length_range] at this
theorem needJ_yes {s : ByteArray} {L : List Strk} {j : Nat} (h : needB s L j = true) : needJ s L (j + 1) = needJ s L j ++ [(j : Int)] := by
  unfold needJ; rw [List.range_succ, List.filter_append, List.map_append]; simp [h]
theorem needJ_no {s : ByteArray} {L : List Strk} {j : Nat} (h : needB s L j = false) : needJ s L (j + 1) = needJ s L j := by
  unfold needJ; rw [List.range_succ, List.filter_append, List.map_append]; simp [h]
/-- a list of numbers that the call itself has made -/
def OwnInts (w : World) (base : Nat) (e : TypeId) (v : Value) (zs : List Int) : Prop := w.ownsRow base e 1 v zs.length (zs.map (Value.int .i64))
theorem OwnInts.nil (w : World) (base : Nat) (e : TypeId) : OwnInts w base e (.slice none 0 0) [] := World.ownsRow_nil w base e 1
theorem OwnInts.below {w w' : World} {base : Nat} {e : TypeId} {v : Value} {zs : List Int} (h : OwnInts w base e v zs) (hb : Below w.heap.size w w') : OwnInts w' base e v zs := own_below h hb
theorem OwnInts.snoc {w : World} {base : Nat} {e : TypeId} {v : Value} {zs : List Int} {x : Int} (h : w.ownsRow base e 1 v (zs.length + 1) (zs.map (Value.int .i64) ++ [.int .i64 x])) : OwnInts w base e v (zs ++ [x]) := by
  unfold OwnInts
  rw [List.length_append, List.map_append]
  exact h

end Go.Proofs.Ytohmodjigneldaa
