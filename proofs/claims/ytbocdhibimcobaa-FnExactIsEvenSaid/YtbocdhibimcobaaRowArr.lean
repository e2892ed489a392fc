/- Arrays of numbers by value and as blocks. No condition. -/
import Derived.Test.YtbocdhibimcobaaRow
import Derived.Deep.MidRow
namespace Go.Proofs.Ytbocdhibimcobaa
open Go.RowKit

theorem RowIs.block {w : World} {e : TypeId} {base g q : Nat} {F : Nat → Int} (h : RowIs w e base g q F) : w.heap[g]? = some (.cells (rowF q F).toArray e (0, 0)) := by
  rcases h.2 with ⟨hv, _⟩ | ⟨g', cap, cur, hv, _, hg, _, _, hs, ht⟩
  · cases hv
  · injection hv with h1 h2 h3
    injection h1 with h1
    injection h1 with h1
    subst h1 h3
    rw [hg, ← ht, List.take_of_length_le (by simpa using Nat.le_of_eq hs)]
theorem RowIs.of_block {w : World} {e : TypeId} {base g q : Nat} {F : Nat → Int} (h : w.heap[g]? = some (.cells (rowF q F).toArray e (0, 0))) (hb : base ≤ g) (hq : q ≤ maxLen) : RowIs w e base g q F :=
  ⟨by rw [rowF_len, Nat.mul_one], .inr ⟨g, q, _, rfl, hb, h, Nat.le_refl _, hq, by simp [rowF_len], by rw [List.take_of_length_le (by simp [rowF_len])]⟩⟩
theorem below_setRow {B : Nat} {a w : World} {g : Nat} {cs : Array Value} (h : Below B a w) (hg : B ≤ g) : Below B a (w.setRow g cs) :=
  ⟨h.os, h.tape, h.output, by rw [size_setRow]; exact h.size, fun i hi => (setRow_other w g i cs (by omega)).trans (h.block i hi)⟩
theorem rowF_one (q : Nat) (F : Nat → Int) : (rowF q F).toArray.all (·.oneCell') = true := all_oneCell_toArray fun v hv => by
  unfold rowF at hv
  obtain ⟨i, _, rfl⟩ := List.mem_map.1 hv
  rfl
theorem RowIs.mono {w : World} {e : TypeId} {b b' g n : Nat} {F : Nat → Int} (h : RowIs w e b g n F) (hb : b' ≤ b) : RowIs w e b' g n F := own_mono h hb
/-- a block that the call itself has just made, filled whole -/
theorem RowIs.set (w : World) {e : TypeId} {g q : Nat} {cs : Array Value} {F : Nat → Int} (hb : w.heap[g]? = some (.cells cs e (0, 0))) (hq : q ≤ maxLen) : RowIs (w.setRow g (rowF q F).toArray) e g g q F :=
  RowIs.of_block (setRow_heap _ g _ _ e (0, 0) hb) (Nat.le_refl _) hq
theorem RowIs.farRow {w : World} {e : TypeId} {base g g' q : Nat} {F : Nat → Int} (h : RowIs w e base g' q F) (hne : g' ≠ g) (cs : Array Value) (hq : q ≤ maxLen) : RowIs (w.setRow g cs) e base g' q F :=
  RowIs.of_block ((setRow_other w g g' cs hne).trans h.block) h.lt.1 hq
theorem rowF_take (q n : Nat) (F : Nat → Int) (h : n ≤ q) : (rowF q F).toArray.toList.take n = rowF n F := by
  show (rowF q F).take n = rowF n F
  unfold rowF
  rw [← List.map_take, List.take_range, Nat.min_eq_left h]
/-- the first numbers of an array, as a list of the call's own -/
theorem RowIs.part {w : World} {e : TypeId} {b g q n : Nat} {F : Nat → Int} (h : RowIs w e b g q F) (hn : n ≤ q) (hq : q ≤ maxLen) : OwnInts w b e (.slice (some ⟨g, 0, none⟩) ((List.range n).map F).length q) ((List.range n).map F) := by
  have e1 : ((List.range n).map F).map (Value.int .i64) = rowF n F := by unfold rowF; rw [List.map_map]; rfl
  unfold OwnInts
  rw [e1, List.length_map, List.length_range]
  refine ⟨by rw [rowF_len, Nat.mul_one], .inr ⟨g, q, _, rfl, h.lt.1, h.block, hn, hq, by simp [rowF_len], ?_⟩⟩
  rw [Nat.mul_one]
  exact rowF_take q n F hn
theorem heap_new_set (w : World) (g i : Nat) (v : Value) (o : Obj) : ((w.setCell ⟨g, i, none⟩ v).alloc o).heap[w.heap.size]? = some o := by
  have h := heap_alloc_new (w.setCell ⟨g, i, none⟩ v) o
  rw [show (w.setCell ⟨g, i, none⟩ v).heap.size = w.heap.size by simp [World.setCell]] at h
  exact h
end Go.Proofs.Ytbocdhibimcobaa
