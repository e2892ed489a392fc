/- FirstFit of the model; who checks that rails can be cut. No condition but the lists' lengths. -/
import Derived.Test.YtnijedmnjmeciaaFitM
import Derived.Test.YtnijedmnjmeciaaCuts
import Derived.Maps.AppendAt
namespace Go.Proofs.Ytnijedmnjmeciaa
open Go.RowKit

theorem restsL_fit (bar : Int) (L : List Int) (j m : Nat) : restsL bar L (fitS bar L j) j m = (List.range m).map (fitR bar L j) := rfl
def fitQ (bar : Int) (L : List Int) (j m : Nat) : List Int := (List.range m).map (fitR bar L j)
theorem fitQ_len (bar : Int) (L : List Int) (j m : Nat) : (fitQ bar L j m).length = m := by simp [fitQ]
theorem fitQ_val (bar : Int) (L : List Int) (j m i : Nat) (h : i < m) : ((fitQ bar L j m).map (Value.int .i64))[i]? = some (.int .i64 (fitR bar L j i)) := by
  unfold fitQ; rw [List.map_map, List.getElem?_map, List.getElem?_range h]; rfl
theorem fitQ_snoc (bar : Int) (L : List Int) (j m : Nat) : fitQ bar L j (m + 1) = fitQ bar L j m ++ [fitR bar L j m] := by
  unfold fitQ; rw [List.range_succ, List.map_append]; rfl
theorem fitQ_store (bar : Int) (L : List Int) (j m : Nat) (h : fitK bar L j < m) : ((fitQ bar L j m).map (Value.int .i64)).set (fitK bar L j) (.int .i64 (fitR bar L j (fitK bar L j) - L.getD j 0)) = (fitQ bar L (j + 1) m).map (Value.int .i64) := by
  apply List.ext_getElem?
  intro i
  rw [List.getElem?_set, List.length_map, fitQ_len]
  by_cases hi : i < m
  · rw [fitQ_val bar L (j + 1) m i hi, fitR_succ]
    by_cases e : fitK bar L j = i
    · rw [if_pos e, if_pos h, if_pos e, e]
    · rw [if_neg e, fitQ_val bar L j m i hi, if_neg e]
  · rw [List.getElem?_eq_none (by rw [List.length_map, fitQ_len]; omega), List.getElem?_eq_none (by rw [List.length_map, fitQ_len]; omega)]
    by_cases e : fitK bar L j = i
    · omega
    · rw [if_neg e]

end Go.Proofs.Ytnijedmnjmeciaa
