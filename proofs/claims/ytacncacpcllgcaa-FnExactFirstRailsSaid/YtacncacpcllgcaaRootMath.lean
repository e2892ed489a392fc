/- Roots of whole numbers. Pure. -/
import Derived.WalkKit
namespace Go.Proofs.Ytacncacpcllgcaa

/-- the least number whose square is not less -/
def upRoot : Nat → Nat
  | 0 => 0
  | n + 1 => if n + 1 ≤ upRoot n * upRoot n then upRoot n else upRoot n + 1
theorem up_spec : ∀ n, n ≤ upRoot n * upRoot n ∧ ∀ t, t < upRoot n → t * t < n
  | 0 => ⟨Nat.le_refl _, fun t h => absurd h (Nat.not_lt_zero _)⟩
  | n + 1 => by
    obtain ⟨h1, h2⟩ := up_spec n
    unfold upRoot
    by_cases h : n + 1 ≤ upRoot n * upRoot n
    · rw [if_pos h]
      exact ⟨h, fun t ht => by have := h2 t ht; omega⟩
    · rw [if_neg h]
      refine ⟨?_, fun t ht => ?_⟩
      · rw [Nat.mul_succ, Nat.succ_mul]; omega
      · have := Nat.mul_le_mul (Nat.le_of_lt_succ ht) (Nat.le_of_lt_succ ht)
        omega
theorem up_unique {n m : Nat} (h1 : n ≤ m * m) (h2 : ∀ t, t < m → t * t < n) : m = upRoot n := by
  obtain ⟨a, b⟩ := up_spec n
  rcases Nat.lt_trichotomy m (upRoot n) with h | h | h
  · have := b m h; omega
  · exact h
  · have := h2 _ h; omega
theorem up_le (n : Nat) : upRoot n ≤ n := by
  rcases Nat.lt_or_ge n (upRoot n) with h | h
  · have h1 := (up_spec n).2 n h
    rcases Nat.eq_zero_or_pos n with h0 | h0
    · subst h0; exact absurd h1 (Nat.not_lt_zero _)
    · have := Nat.le_mul_of_pos_left n h0; omega
  · exact h
theorem up_small {n : Nat} (h : n ≤ 252500) : upRoot n ≤ 503 := by
  rcases Nat.lt_or_ge 503 (upRoot n) with h1 | h1
  · have := (up_spec n).2 503 h1; omega
  · exact h1
/-- a whole square -/
def isSq (n : Nat) : Bool := decide (upRoot n * upRoot n = n)
theorem down_sq {n r : Nat} (h1 : r * r ≤ n) (h2 : n < (r + 1) * (r + 1)) : (r * r = n ↔ upRoot n * upRoot n = n) ∧ (upRoot n * upRoot n = n → r = upRoot n) := by
  have key : upRoot n * upRoot n = n → r = upRoot n := fun h => by
    rcases Nat.lt_trichotomy r (upRoot n) with h3 | h3 | h3
    · have : (r + 1) * (r + 1) ≤ upRoot n * upRoot n := Nat.mul_le_mul (Nat.succ_le_of_lt h3) (Nat.succ_le_of_lt h3); omega
    · exact h3
    · have := Nat.mul_self_lt_mul_self h3; omega
  refine ⟨⟨fun h => ?_, fun h => by rw [key h]; exact h⟩, key⟩
  have : r = upRoot n := up_unique (by omega) fun t ht => by have := Nat.mul_self_lt_mul_self ht; omega
  rw [← this]; exact h
theorem up_pos {n : Nat} (h : 1 ≤ n) : 1 ≤ upRoot n := by
  rcases Nat.eq_zero_or_pos (upRoot n) with h0 | h0
  · have := (up_spec n).1; rw [h0] at this; omega
  · exact h0
end Go.Proofs.Ytacncacpcllgcaa
