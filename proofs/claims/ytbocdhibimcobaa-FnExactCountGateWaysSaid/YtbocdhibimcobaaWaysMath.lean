/- In how many ways parts make so many boards. No condition. -/
import Derived.Test.YtbocdhibimcobaaBin
namespace Go.Proofs.Ytbocdhibimcobaa
open Go.RowKit

/-- the sum of F from lo up to hi - 1 -/
def sumR (F : Nat → Nat) (lo hi : Nat) : Nat := ((List.range (hi - lo)).map fun i => F (lo + i)).sum
theorem sumR_none (F : Nat → Nat) {lo hi : Nat} (h : hi ≤ lo) : sumR F lo hi = 0 := by unfold sumR; rw [show hi - lo = 0 by omega]; rfl
theorem sumR_snoc (F : Nat → Nat) {lo hi : Nat} (h : lo ≤ hi) : sumR F lo (hi + 1) = sumR F lo hi + F hi := by
  unfold sumR
  rw [show hi + 1 - lo = (hi - lo) + 1 by omega, List.range_succ, List.map_append, List.sum_append]
  simp
  rw [show lo + (hi - lo) = hi by omega]
theorem sumR_cons (F : Nat → Nat) : ∀ {lo hi : Nat}, lo < hi → sumR F lo hi = F lo + sumR F (lo + 1) hi := by
  intro lo hi h
  induction hi with
  | zero => omega
  | succ hi ih =>
    rcases Nat.lt_or_ge lo hi with h1 | h1
    · rw [sumR_snoc F (by omega), sumR_snoc F (by omega), ih h1]; omega
    · obtain rfl : lo = hi := by omega
      rw [sumR_snoc F (Nat.le_refl _), sumR_none F (Nat.le_refl _), sumR_none F (Nat.le_refl _)]; omega
theorem sumR_congr {F G : Nat → Nat} {lo hi : Nat} (h : ∀ i, lo ≤ i → i < hi → F i = G i) : sumR F lo hi = sumR G lo hi := by
  unfold sumR
  rw [List.map_congr_left fun i hi => h (lo + i) (by omega) (by have := List.mem_range.1 hi; omega)]
theorem sumR_le {F : Nat → Nat} {lo hi M : Nat} (h : ∀ i, lo ≤ i → i < hi → F i ≤ M) : sumR F lo hi ≤ (hi - lo) * M := by
  induction hi with
  | zero => rw [sumR_none F (by omega)]; omega
  | succ hi ih =>
    rcases Nat.lt_or_ge hi lo with h1 | h1
    · rw [sumR_none F (by omega)]; omega
    · rw [sumR_snoc F h1, show hi + 1 - lo = (hi - lo) + 1 by omega, Nat.succ_mul]
      have := ih fun i a b => h i a (by omega)
      have := h hi h1 (by omega)
      omega
/-- in how many ways r parts of at most so many boards have together so many -/
def waysF (most : Nat) : Nat → Nat → Nat
  | 0, at_ => if at_ = 0 then 1 else 0
  | r + 1, at_ => sumR (waysF most r) (at_ - most) at_
theorem waysF_zero (most at_ : Nat) : waysF most 0 at_ = if at_ = 0 then 1 else 0 := rfl
theorem waysF_succ (most r at_ : Nat) : waysF most (r + 1) at_ = sumR (waysF most r) (at_ - most) at_ := rfl
theorem waysF_none (most r : Nat) : waysF most (r + 1) 0 = 0 := by rw [waysF_succ]; exact sumR_none _ (by omega)
theorem waysF_le (most : Nat) : ∀ r at_, at_ ≤ 40 → waysF most r at_ ≤ 40 ^ r
  | 0, at_, _ => by rw [waysF_zero]; split <;> decide
  | r + 1, at_, h => by
    rw [waysF_succ]
    have h1 := sumR_le (F := waysF most r) (lo := at_ - most) (hi := at_) (M := 40 ^ r) fun i _ h2 => waysF_le most r i (by omega)
    have h2 : (at_ - (at_ - most)) * 40 ^ r ≤ 40 * 40 ^ r := Nat.mul_le_mul_right _ (by omega)
    rw [Nat.pow_succ, Nat.mul_comm (40 ^ r)]
    omega
theorem waysF_bd (most r at_ : Nat) (h : at_ ≤ 40) (hr : r ≤ 11) : waysF most r at_ ≤ 419430400000000000 := by
  refine Nat.le_trans (waysF_le most r at_ h) (Nat.le_trans (Nat.pow_le_pow_right (by decide) hr) (by decide))
theorem waysF_bin {most : Nat} : ∀ r at_, at_ + 1 ≤ most → waysF most (r + 1) (at_ + 1) = bin at_ r
  | 0, at_, h => by
    rw [waysF_succ, bin_zero, show at_ + 1 - most = 0 by omega, sumR_cons _ (by omega), waysF_zero, if_pos rfl]
    have : sumR (waysF most 0) (0 + 1) (at_ + 1) = sumR (fun _ => 0) (0 + 1) (at_ + 1) := sumR_congr fun i h1 _ => by rw [waysF_zero, if_neg (by omega)]
    rw [this]
    have := sumR_le (F := fun _ => 0) (lo := 0 + 1) (hi := at_ + 1) (M := 0) fun _ _ _ => Nat.le_refl _
    omega
  | r + 1, at_, h => by
    rw [waysF_succ, show at_ + 1 - most = 0 by omega, sumR_cons _ (by omega), waysF_none, ← bin_sum r at_]
    unfold sumR
    rw [show at_ + 1 - (0 + 1) = at_ by omega, Nat.zero_add]
    congr 1
    apply List.map_congr_left
    intro i hi
    have := List.mem_range.1 hi
    rw [show 0 + 1 + i = i + 1 by omega, waysF_bin r i (by omega)]

/-- the step of the program's count: from C(p, k) to C(p, k + 1) -/
theorem bin_div {p k : Nat} : bin p k * (p - k) / (k + 1) = bin p (k + 1) := by
  rw [Nat.mul_comm, ← bin_step, Nat.mul_div_cancel_left _ (by omega)]

/-- the sum over the gates between -/
def gapS (N j : Nat) (a b : Nat) : Nat := sumR (fun o => bin (N - o) j) a b
theorem gapS_eq {N j : Nat} {a : Nat} : ∀ {b : Nat}, a ≤ b → b ≤ N + 1 → gapS N j a b + bin (N + 1 - b) (j + 1) = bin (N + 1 - a) (j + 1) := by
  intro b hab hb
  induction b with
  | zero => rw [show a = 0 by omega]; unfold gapS; rw [sumR_none _ (Nat.le_refl _)]; omega
  | succ b ih =>
    rcases Nat.lt_or_ge b a with h | h
    · rw [show a = b + 1 by omega]; unfold gapS; rw [sumR_none _ (Nat.le_refl _)]; omega
    · have h1 := ih h (by omega)
      unfold gapS at h1 ⊢
      rw [sumR_snoc _ h]
      have h2 : bin (N + 1 - b) (j + 1) = bin (N - b) j + bin (N + 1 - (b + 1)) (j + 1) := by
        rw [show N + 1 - b = (N - b) + 1 by omega, bin_succ, show N + 1 - (b + 1) = N - b by omega]
      omega
/-- the rank of the gates behind a gate -/
def rkG (N : Nat) : Nat → List Nat → Nat
  | _, [] => 0
  | last, g :: R => gapS N R.length (last + 1) g + rkG N g R
/-- what the program takes off -/
def offG (N : Nat) : List Nat → Nat
  | [] => 0
  | g :: R => bin (N - g) (R.length + 1) + offG N R
theorem rkG_eq {N : Nat} : ∀ {R : List Nat} {last : Nat}, last ≤ N → (last :: R).Pairwise (· < ·) → (∀ g ∈ R, g ≤ N) → rkG N last R + 1 + offG N R = bin (N - last) R.length
  | [], last, _, _, _ => by unfold rkG offG; rw [List.length_nil, bin_zero]
  | g :: R, last, hl, hp, hg => by
    rw [List.pairwise_cons] at hp
    have h1 := hp.1 g (List.mem_cons_self ..)
    have h2 := hg g (List.mem_cons_self ..)
    have ih := rkG_eq (N := N) (R := R) (last := g) h2 hp.2 fun x hx => hg x (List.mem_cons_of_mem _ hx)
    have h3 := gapS_eq (N := N) (j := R.length) (a := last + 1) (b := g) (by omega) (by omega)
    unfold rkG offG
    rw [List.length_cons]
    rw [show N + 1 - (last + 1) = N - last by omega, show N + 1 - g = (N - g) + 1 by omega, bin_succ] at h3
    omega
end Go.Proofs.Ytbocdhibimcobaa
