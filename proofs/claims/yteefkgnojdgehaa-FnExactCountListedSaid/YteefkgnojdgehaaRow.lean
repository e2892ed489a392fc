/- Rows of numbers of the call's own, by a function of the index. No condition. -/
import Derived.Test.YteefkgnojdgehaaMem
namespace Go.Proofs.Yteefkgnojdgehaa
open Go.RowKit

def rowF (q : Nat) (F : Nat → Int) : List Value := (List.range q).map fun i => Value.int .i64 (F i)
theorem rowF_at (q : Nat) (F : Nat → Int) (i : Nat) (h : i < q) : (rowF q F)[i]? = some (.int .i64 (F i)) := by
  unfold rowF; rw [List.getElem?_map, List.getElem?_range h]; rfl
theorem rowF_len (q : Nat) (F : Nat → Int) : (rowF q F).length = q := by simp [rowF]
theorem rowF_congr {q : Nat} {F G : Nat → Int} (h : ∀ i, i < q → F i = G i) : rowF q F = rowF q G := by
  unfold rowF; exact List.map_congr_left fun i hi => by rw [h i (List.mem_range.1 hi)]
theorem rowF_set (q : Nat) (F : Nat → Int) (a : Nat) (x : Int) : (rowF q F).set a (.int .i64 x) = rowF q fun i => if i = a then x else F i := by
  apply List.ext_getElem?
  intro j
  rw [List.getElem?_set, rowF_len]
  by_cases hj : j < q
  · rw [rowF_at q F j hj, rowF_at q (fun i => if i = a then x else F i) j hj]
    by_cases e : a = j
    · subst e; rw [if_pos rfl, if_pos hj, if_pos rfl]
    · rw [if_neg e, if_neg fun h => e h.symm]
  · rw [List.getElem?_eq_none (by rw [rowF_len]; omega), List.getElem?_eq_none (by rw [rowF_len]; omega)]
    by_cases e : a = j
    · subst e; rw [if_pos rfl, if_neg hj]
    · rw [if_neg e]
/-- the block g is a row of q numbers -/
def RowIs (w : World) (e : TypeId) (base g q : Nat) (F : Nat → Int) : Prop := w.ownsRow base e 1 (.slice (some ⟨g, 0, none⟩) q q) q (rowF q F)
section
variable {w w' : World} {e : TypeId} {base g g' q : Nat} {F G : Nat → Int}
theorem RowIs.cell (h : RowIs w e base g q F) (i : Nat) (hi : i < q) : w.cell? ⟨g, i, none⟩ = some (.int .i64 (F i)) := by
  rw [World.ownsRow.cellAt h i (by omega), rowF_at q F i hi]
theorem RowIs.frozen (h : RowIs w e base g q F) (i : Nat) : w.frozen? ⟨g, i, none⟩ = false := World.ownsRow.frozenAt h i
theorem RowIs.store (h : RowIs w e base g q F) (a : Nat) (x : Int) : RowIs (w.setCell ⟨g, a, none⟩ (.int .i64 x)) e base g q fun i => if i = a then x else F i := by
  have := (World.ownsRow.stored h a (.int .i64 x)).1
  rw [rowF_set] at this
  exact this
theorem RowIs.far (h : RowIs w e base g' q F) (hne : g' ≠ g) (a : Nat) (u : Value) : RowIs (w.setCell ⟨g, a, none⟩ u) e base g' q F :=
  World.ownsRow.kept h ⟨rfl, rfl, rfl, by simp [World.setCell], fun k _ hk => Below.heap_setCell w ⟨g, a, none⟩ u k (fun e1 => hk (by rw [e1]))⟩ (.inr (by show some g' ≠ some g; intro e1; injection e1 with e1; exact hne e1))
theorem RowIs.congr (h : RowIs w e base g q F) (hFG : ∀ i, i < q → F i = G i) : RowIs w e base g q G := by
  unfold RowIs; rw [← rowF_congr hFG]; exact h
theorem RowIs.below (h : RowIs w e base g q F) (hb : Below w.heap.size w w') : RowIs w' e base g q F := own_below h hb
theorem RowIs.lt (h : RowIs w e base g q F) : base ≤ g ∧ g < w.heap.size := World.ownsRow.lt h g rfl
theorem RowIs.drewN (h : RowIs w e base g q F) (n : Nat) : RowIs (w.drewN n) e base g q F := h.below (below_drewN (Below.refl _ _) n)
theorem RowIs.made (h : w.ownsRow base e 1 (.slice (some ⟨g, 0, none⟩) q q) q (madeCells (Value.int .i64 0).cells (q * 1)).toList) : RowIs w e base g q fun _ => 0 := by
  have em : (madeCells (Value.int .i64 0).cells (q * 1)).toList = rowF q fun _ => 0 := by
    rw [Nat.mul_one, show (Value.int .i64 0).cells = #[Value.int .i64 0] from rfl, toList_madeCells_one]
    unfold rowF
    rw [List.map_const', List.length_range]
  rw [em] at h
  exact h
theorem RowIs.ints (h : RowIs w e base g q F) : OwnInts w base e (.slice (some ⟨g, 0, none⟩) q q) ((List.range q).map F) := by
  unfold OwnInts
  rw [List.length_map, List.length_range, List.map_map]
  exact h
theorem RowIs.sl (h : RowIs w e base g q F) : IntSl w (some ⟨g, 0, none⟩) ((List.range q).map F) := by
  have := h.ints
  exact IntSl.of_own this
end
/-- a row of which the first j numbers are the new ones, and one more -/
theorem mix_set (n j : Nat) (F G : Nat → Int) (h : j < n) : (((List.range n).map fun i => if i < j then F i else G i).map (Value.int .i64)).set j (.int .i64 (F j)) = ((List.range n).map fun i => if i < j + 1 then F i else G i).map (Value.int .i64) := by
  apply List.ext_getElem?
  intro i
  rw [List.getElem?_set, List.length_map, List.length_map, List.length_range, List.map_map, List.map_map, List.getElem?_map, List.getElem?_map]
  by_cases hi : i < n
  · rw [List.getElem?_range hi]
    by_cases e : j = i
    · subst e
      rw [if_pos rfl, if_pos hi]
      simp
    · rw [if_neg e]
      simp only [Option.map_some, Function.comp]
      by_cases h1 : i < j
      · rw [if_pos h1, if_pos (by omega)]
      · rw [if_neg h1, if_neg (by omega)]
  · rw [List.getElem?_eq_none (by rw [List.length_range]; omega)]
    by_cases e : j = i
    · omega
    · rw [if_neg e]; rfl
end Go.Proofs.Yteefkgnojdgehaa
