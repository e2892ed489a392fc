/- IsStroke: the two functions, and the law's walk. No condition but the texts' lengths. -/
import Derived.Test.YtnijedmnjmeciaaDoorStroke
import Derived.Test.YtnijedmnjmeciaaDoorBare
namespace Go.Proofs.YtnijedmnjmeciaaDoor
open Go.RowKit

theorem below_next {w w1 w2 : World} (h1 : Below w.heap.size w w1) (h2 : Below w1.heap.size w1 w2) : Below w.heap.size w w2 := h1.trans (h2.mono h1.size)
theorem below_new (w : World) (o : Obj) : Below w.heap.size w (w.alloc o) := (Below.refl _ _).alloc (Nat.le_refl _) _
theorem below_box {w w1 : World} {o : Obj} (h : Below (w.alloc o).heap.size (w.alloc o) w1) : Below w.heap.size w w1 := below_next (below_new w o) h
theorem below_lt {w w1 : World} {o : Obj} (h : Below (w.alloc o).heap.size (w.alloc o) w1) : w.heap.size < w1.heap.size := by have := h.size; simp at this; omega
theorem okFence_size {s : ByteArray} (h : okFence s = true) : 1 ≤ s.size ∧ s.size ≤ 20 := by
  unfold okFence at h
  rw [Bool.and_eq_true, decide_eq_true_iff] at h
  exact h.1

theorem szStroke_any (f t : Int) (c : ByteArray) (left : Int) (w : World) (hc : c.size ≤ maxLen) (h0 : 0 ≤ left) (h1 : left ≤ 1048576) :
    Calls Tryd.prog 17 #[.agg #[.int .i64 f, .int .i64 t, .string c], .int .i64 left] w fun e w' =>
      (e = .returned (.int .i64 (if left < c.size then -1 else left - c.size)) ∧ Below w.heap.size w w') := by
  unfold maxLen at hc
  by_cases h : left < c.size
  · rw [if_pos h]
    go_enter Tryd.func17, Tryd.ntmps17
    go_wp2
    go_ret
    exact ⟨rfl, (Below.refl _ _).alloc (Nat.le_refl _) _⟩
  · rw [if_neg h]
    go_enter Tryd.func17, Tryd.ntmps17
    go_wp2
    go_ret
    exact ⟨rfl, (Below.refl _ _).alloc (Nat.le_refl _) _⟩

theorem toStroke_any (f t : Int) (c : ByteArray) (w : World) :
    Calls Tryd.prog 21 #[.agg #[.int .i64 f, .int .i64 t, .string c]] w fun e w' =>
      (e = .returned (.agg #[.int .i64 f, .int .i64 t, .string c]) ∧ Below w.heap.size w w') := by
  go_enter Tryd.func21, Tryd.ntmps21
  go_wp2
  exact bodyPost_ret (v := .agg #[.int .i64 f, .int .i64 t, .string c]) (by simp [results, Tryd.results21, go_sem]) rfl ⟨rfl, ((((Below.refl _ _).alloc (Nat.le_refl _) _).alloc (by simp) _).alloc (by simp; omega) _)⟩

end Go.Proofs.YtnijedmnjmeciaaDoor
