/- Choosing: Pascal's triangle, and what both sides reckon with it. No condition. -/
import Derived.Test.YtbocdhibimcobaaBase
namespace Go.Proofs.Ytbocdhibimcobaa
open Go.RowKit

/-- in how many ways one can choose k of n -/
def bin : Nat → Nat → Nat
  | _, 0 => 1
  | 0, _ + 1 => 0
  | n + 1, k + 1 => bin n k + bin n (k + 1)
theorem bin_zero (n : Nat) : bin n 0 = 1 := by unfold bin; rfl
theorem bin_zero_succ (k : Nat) : bin 0 (k + 1) = 0 := by unfold bin; rfl
theorem bin_succ (n k : Nat) : bin (n + 1) (k + 1) = bin n k + bin n (k + 1) := by rw [bin]
theorem bin_gt : ∀ n k, n < k → bin n k = 0
  | n, 0, h => absurd h (by omega)
  | 0, k + 1, _ => bin_zero_succ k
  | n + 1, k + 1, h => by rw [bin_succ, bin_gt n k (by omega), bin_gt n (k + 1) (by omega)]
theorem bin_pos : ∀ n k, k ≤ n → 0 < bin n k
  | n, 0, _ => by rw [bin_zero]; decide
  | 0, k + 1, h => absurd h (by omega)
  | n + 1, k + 1, h => by have := bin_pos n k (by omega); rw [bin_succ]; omega
/-- (k + 1) C(n, k + 1) = (n - k) C(n, k) -/
theorem bin_step : ∀ n k, (k + 1) * bin n (k + 1) = (n - k) * bin n k
  | 0, k => by
    rw [bin_zero_succ, Nat.zero_sub]; omega
  | n + 1, 0 => by
    have h := bin_step n 0
    rw [bin_zero] at h
    rw [bin_zero, bin_succ, bin_zero]
    omega
  | n + 1, k + 1 => by
    have h1 := bin_step n k
    have h2 := bin_step n (k + 1)
    rw [bin_succ n (k + 1), bin_succ n k]
    rcases Nat.lt_or_ge k n with hk | hk
    · obtain ⟨d, rfl⟩ : ∃ d, n = k + 1 + d := ⟨n - k - 1, by omega⟩
      rw [show k + 1 + d - k = d + 1 by omega] at h1
      rw [show k + 1 + d - (k + 1) = d by omega] at h2
      rw [show k + 1 + d + 1 - (k + 1) = d + 1 by omega, Nat.mul_add, Nat.mul_add]
      have e1 : (k + 1 + 1) * bin (k + 1 + d) (k + 1) = (d + 1) * bin (k + 1 + d) k + bin (k + 1 + d) (k + 1) := by rw [Nat.succ_mul (k + 1), h1]
      rw [e1, h2, Nat.succ_mul d (bin (k + 1 + d) (k + 1))]
      omega
    · rw [bin_gt n (k + 1) (by omega), bin_gt n (k + 1 + 1) (by omega)]
      rw [show n + 1 - (k + 1) = n - k by omega]
      rw [bin_gt n (k + 1) (by omega)] at h1
      rcases Nat.lt_or_ge n k with h | h
      · rw [bin_gt n k h]; simp
      · rw [show n - k = 0 by omega]; simp
/-- C(n, k + 1) is the sum of C(i, k), i below n -/
theorem bin_sum (k : Nat) : ∀ n, ((List.range n).map fun i => bin i k).sum = bin n (k + 1)
  | 0 => (bin_zero_succ k).symm
  | n + 1 => by
    rw [List.range_succ, List.map_append, List.sum_append, bin_sum k n, bin_succ]
    simp; omega
theorem bin_mono_n {k : Nat} : ∀ {a b : Nat}, a ≤ b → bin a k ≤ bin b k := by
  intro a b h
  induction b with
  | zero => rw [show a = 0 by omega]; exact Nat.le_refl _
  | succ b ih =>
    rcases Nat.lt_or_ge a (b + 1) with h1 | h1
    · refine Nat.le_trans (ih (by omega)) ?_
      cases k with
      | zero => rw [bin_zero, bin_zero]; exact Nat.le_refl _
      | succ k => rw [bin_succ]; omega
    · rw [show a = b + 1 by omega]; exact Nat.le_refl _
theorem bin_le_pow : ∀ k n, n ≤ 40 → bin n k ≤ 40 ^ k
  | 0, n, _ => by rw [bin_zero]; decide
  | k + 1, n, h => by
    have h1 := bin_step n k
    have h2 := bin_le_pow k n h
    have h3 : (n - k) * bin n k ≤ 40 * 40 ^ k := Nat.mul_le_mul (by omega) h2
    have h4 : bin n (k + 1) ≤ (k + 1) * bin n (k + 1) := Nat.le_mul_of_pos_left _ (by omega)
    rw [Nat.pow_succ, Nat.mul_comm (40 ^ k)]
    omega
end Go.Proofs.Ytbocdhibimcobaa
