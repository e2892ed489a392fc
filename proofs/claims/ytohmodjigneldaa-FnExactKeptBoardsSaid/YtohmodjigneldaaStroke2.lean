/- IsStroke: the two functions, and the law's walk. No condition but the texts' lengths. -/
import Derived.Test.YtohmodjigneldaaStroke
import Derived.Test.YtohmodjigneldaaBare
namespace Go.Proofs.Ytohmodjigneldaa
open Go.RowKit

theorem below_next {w w1 w2 : World} (h1 : Below w.heap.size w w1) (h2 : Below w1.heap.size w1 w2) : Below w.heap.size w w2 := h1.trans (h2.mono h1.size)
theorem below_new (w : World) (o : Obj) : Below w.heap.size w (w.alloc o) := (Below.refl _ _).alloc (Nat.le_refl _) _
theorem below_box {w w1 : World} {o : Obj} (h : Below (w.alloc o).heap.size (w.alloc o) w1) : Below w.heap.size w w1 := below_next (below_new w o) h
theorem below_lt {w w1 : World} {o : Obj} (h : Below (w.alloc o).heap.size (w.alloc o) w1) : w.heap.size < w1.heap.size := by have := h.size; simp at this; omega
theorem okFence_size {s : ByteArray} (h : okFence s = true) : 1 ≤ s.size ∧ s.size ≤ 20 := by
  unfold okFence at h
  rw [Bool.and_eq_true, decide_eq_true_iff] at h
  exact h.1

end Go.Proofs.Ytohmodjigneldaa
