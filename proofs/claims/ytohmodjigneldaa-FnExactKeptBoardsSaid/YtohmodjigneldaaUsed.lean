/- PaintUsed: the two functions, and the law's walk. No condition but the lists' and the texts' lengths. -/
import Derived.Test.YtohmodjigneldaaStrkList
namespace Go.Proofs.Ytohmodjigneldaa
open Go.RowKit

/-- how many boards the first j strokes paint together -/
def usedS (L : List Strk) (j : Nat) : Int := ((L.take j).map fun s => s.t - s.f + 1).sum
theorem usedS_succ (L : List Strk) (j : Nat) (h : j < L.length) : usedS L (j + 1) = usedS L j + (L[j].t - L[j].f + 1) := by
  unfold usedS; rw [List.take_succ_eq_append_getElem h, List.map_append, List.sum_append]; simp
theorem okS_nums {n : Nat} {s : Strk} (h : okS n s = true) : 0 ≤ s.f ∧ s.f ≤ s.t ∧ s.t < n ∧ s.c.size = 1 := by
  obtain ⟨a, b, c, d⟩ := okStroke_iff h
  exact ⟨a, b, c, isCol_size1 d⟩
theorem usedS_bd {n : Nat} {L : List Strk} (hn : n ≤ 20) (h : ∀ k (hk : k < L.length), okS n L[k] = true) : ∀ j, j ≤ L.length → 0 ≤ usedS L j ∧ usedS L j ≤ 20 * j
  | 0, _ => by simp [usedS]
  | j + 1, hj => by
    have ih := usedS_bd hn h j (by omega)
    obtain ⟨a, b, c, _⟩ := okS_nums (h j (by omega))
    rw [usedS_succ L j (by omega)]
    omega
theorem ret_ib {a b : Int} {x : Bool} (h : a = b) : Ending.returned (.tuple #[.int .i64 a, .bool x]) = .returned (.tuple #[.int .i64 b, .bool x]) := by rw [h]

theorem Short_of_tot {L : List Strk} (h : totS L ≤ 1048576) : L.length ≤ 1048576 := by
  have := preS_le L 0; rw [preS_zero] at this; omega

end Go.Proofs.Ytohmodjigneldaa
