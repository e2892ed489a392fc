/- A list of strokes without one of them: what it paints, its cells, and what a slice of it is. -/
import Derived.Test.YtohmodjigneldaaNeedless
namespace Go.Proofs.Ytohmodjigneldaa
open Go.RowKit

def dropX (L : List Strk) (x : Nat) : List Strk := L.take x ++ L.drop (x + 1)
theorem dropX_len {L : List Strk} {x : Nat} (h : x < L.length) : (dropX L x).length = x + (L.length - (x + 1)) := by
  unfold dropX; rw [List.length_append, List.length_take, List.length_drop]; omega
theorem dropX_ok {n : Nat} {L : List Strk} (x : Nat) (h : ∀ k (hk : k < L.length), okS n L[k] = true) : ∀ k (hk : k < (dropX L x).length), okS n (dropX L x)[k] = true := by
  intro k hk
  have hm : (dropX L x)[k] ∈ dropX L x := List.getElem_mem hk
  have : (dropX L x)[k] ∈ L := by
    unfold dropX at hm
    rcases List.mem_append.1 hm with h1 | h1
    · exact List.mem_of_mem_take h1
    · exact List.mem_of_mem_drop h1
  obtain ⟨i, hi, he⟩ := List.getElem_of_mem this
  rw [← he]; exact h i hi
theorem paintX_before (s : ByteArray) (L : List Strk) (x : Nat) (hx : x < L.length) : ∀ j, j ≤ x → paintX s L x j = paintJ s L j
  | 0, _ => rfl
  | j + 1, hj => by
    rw [paintX_step s L x j (by omega) (by omega), paintX_before s L x hx j (by omega), paintJ_succ s L j (by omega)]
theorem paintX_behind (s : ByteArray) (L : List Strk) (x : Nat) (hx : x < L.length) : ∀ d, x + 1 + d ≤ L.length → paintX s L x (x + 1 + d) = ((L.drop (x + 1)).take d).foldl paintK (paintJ s L x)
  | 0, _ => by rw [Nat.add_zero, paintX_skip, paintX_before s L x hx x (Nat.le_refl _)]; rfl
  | d + 1, hd => by
    rw [show x + 1 + (d + 1) = x + 1 + d + 1 by omega, paintX_step s L x _ (by omega) (by omega), paintX_behind s L x hx d (by omega)]
    rw [List.take_succ_eq_append_getElem (by rw [List.length_drop]; omega), List.foldl_append, List.getElem_drop]
    rfl
theorem paintX_drop (s : ByteArray) (L : List Strk) (x : Nat) (hx : x < L.length) : paintX s L x L.length = paintJ s (dropX L x) (dropX L x).length := by
  have := paintX_behind s L x hx (L.length - (x + 1)) (by omega)
  rw [show x + 1 + (L.length - (x + 1)) = L.length by omega, List.take_of_length_le (by rw [List.length_drop]; omega)] at this
  rw [this]
  unfold paintJ dropX
  rw [List.take_length, List.foldl_append]

theorem StrkAt.cells {w : World} {g off : Nat} {L : List Strk} (h : StrkAt w g off L) (i : Nat) (u : Value) (hu : (strkCells L)[i]? = some u) : w.cell? ⟨g, off + i, none⟩ = some u := by
  have hi : i < L.length * 3 := by
    rw [← strkCells_len]
    exact (List.getElem?_eq_some_iff.1 hu).1
  have hq : i / 3 < L.length := by omega
  obtain ⟨a1, a2, a3⟩ := strkCells_at L (i / 3) hq
  obtain ⟨c1, c2, c3⟩ := h (i / 3) hq
  rcases (by omega : i = i / 3 * 3 ∨ i = i / 3 * 3 + 1 ∨ i = i / 3 * 3 + 2) with e | e | e
  · rw [← e] at a1 c1; rw [a1] at hu; rw [c1, hu]
  · rw [← e] at a2; rw [a2] at hu; rw [show off + i = off + i / 3 * 3 + 1 by omega, c2, hu]
  · rw [← e] at a3; rw [a3] at hu; rw [show off + i = off + i / 3 * 3 + 2 by omega, c3, hu]
theorem strkCells_app (A B : List Strk) : strkCells (A ++ B) = strkCells A ++ strkCells B := by unfold strkCells; rw [List.flatMap_append]
theorem cells_take {w : World} {g off : Nat} {L : List Strk} (h : StrkAt w g off L) (j : Nat) : ∀ i u, (strkCells (L.take j))[i]? = some u → w.cell? ((⟨g, off, none⟩ : Addr).add i) = some u := by
  intro i u hu
  have : (strkCells L)[i]? = some u := by
    have e : strkCells L = strkCells (L.take j) ++ strkCells (L.drop j) := by rw [← strkCells_app, List.take_append_drop]
    rw [e, List.getElem?_append_left (List.getElem?_eq_some_iff.1 hu).1]; exact hu
  have := h.cells i u this
  unfold Addr.add; split
  · subst_vars; exact this
  · exact this
theorem cells_drop {w : World} {g off : Nat} {L : List Strk} (h : StrkAt w g off L) (j : Nat) (hj : j ≤ L.length) : ∀ i u, (strkCells (L.drop j))[i]? = some u → w.cell? ((⟨g, off + j * 3, none⟩ : Addr).add i) = some u := by
  intro i u hu
  have : (strkCells L)[j * 3 + i]? = some u := by
    have e : strkCells L = strkCells (L.take j) ++ strkCells (L.drop j) := by rw [← strkCells_app, List.take_append_drop]
    have el : (strkCells (L.take j)).length = j * 3 := by rw [strkCells_len, List.length_take, Nat.min_eq_left hj]
    rw [e, List.getElem?_append_right (by omega), el, show j * 3 + i - j * 3 = i by omega]; exact hu
  have := h.cells _ u this
  rw [show off + (j * 3 + i) = off + j * 3 + i by omega] at this
  unfold Addr.add; split
  · subst_vars; exact this
  · exact this
theorem one_cells (L : List Strk) : ∀ u ∈ strkCells L, u.oneCell' = true := by
  intro u hu
  unfold strkCells at hu
  obtain ⟨x, _, hx⟩ := List.mem_flatMap.1 hu
  unfold Strk.vals at hx
  simp only [List.mem_cons, List.not_mem_nil, or_false] at hx
  rcases hx with rfl | rfl | rfl <;> rfl
theorem elem_strks : Try.prog.underlying 27 = some (.slice (Try.prog.elem 27)) := by kernel_rfl
theorem size_strks (W : World) : (sizeOf (Try.prog.elem 27)).run Try.prog W = .ok 3 W := by kernel_rfl
/-- 'list[l:]' -/
theorem slice_from (g off n cap l : Nat) (hl : l ≤ n) (hn : n ≤ cap) : ∃ ad : Addr, (∀ W, (Instr.slice 27 (.slice (some ⟨g, off, none⟩) n cap) (some (.int .i64 (l : Int))) none none).run Try.prog W = .ok (.slice (some ad) (n - l) (cap - l)) W) ∧ (l < n → ad = (⟨g, off, none⟩ : Addr).add (l * 3)) := by
  have key : ∀ W, (Instr.slice 27 (.slice (some ⟨g, off, none⟩) n cap) (some (.int .i64 (l : Int))) none none).run Try.prog W = .ok (sliced (some ⟨g, off, none⟩) l n cap 3) W := fun W => by
    have e := run_slice_l (P := Try.prog) (w := W) 27 (some ⟨g, off, none⟩) n cap elem_strks .i64 (l : Int) (by omega) (by omega)
    rw [e, size_strks]
    rfl
  unfold sliced at key
  by_cases h : cap = l
  · rw [if_pos h] at key
    exact ⟨_, key, fun h2 => by omega⟩
  · rw [if_neg h] at key
    exact ⟨_, key, fun _ => rfl⟩
/-- 'list[:h]' -/
theorem slice_to (g off n cap h : Nat) (hl : h ≤ n) (hn : n ≤ cap) : ∃ ad : Addr, (∀ W, (Instr.slice 27 (.slice (some ⟨g, off, none⟩) n cap) none (some (.int .i64 (h : Int))) none).run Try.prog W = .ok (.slice (some ad) h cap) W) ∧ ad = ⟨g, off, none⟩ := by
  have key : ∀ W, (Instr.slice 27 (.slice (some ⟨g, off, none⟩) n cap) none (some (.int .i64 (h : Int))) none).run Try.prog W = .ok (sliced (some ⟨g, off, none⟩) 0 h cap 3) W := fun W => by
    have e := run_slice_h (P := Try.prog) (w := W) 27 (some ⟨g, off, none⟩) n cap elem_strks .i64 (h : Int) (by omega) (by omega)
    rw [e, size_strks]
    rfl
  unfold sliced at key
  refine ⟨_, fun W => ?_, rfl⟩
  rw [key W]
  split
  · rfl
  · rfl
end Go.Proofs.Ytohmodjigneldaa
