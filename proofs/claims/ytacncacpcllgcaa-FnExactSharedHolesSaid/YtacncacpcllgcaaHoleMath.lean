/- Multiples: lists of them, and how many there are. Pure. -/
import Derived.WalkKit
namespace Go.Proofs.Ytacncacpcllgcaa

/-- the first j multiples of g -/
def mulsL (g j : Nat) : List Int := (List.range j).map fun i => ((g * i : Nat) : Int)
theorem mulsL_len (g j : Nat) : (mulsL g j).length = j := by simp [mulsL]
theorem mulsL_succ (g j : Nat) : mulsL g (j + 1) = mulsL g j ++ [((g * j : Nat) : Int)] := by
  unfold mulsL; rw [List.range_succ, List.map_append]; rfl
theorem muls_end {g m j : Nat} (hg : 1 ≤ g) (h : j = 0 ∨ g * (j - 1) ≤ m) (h2 : ¬ g * j ≤ m) : j = m / g + 1 := by
  have h1 : m / g < j := (Nat.div_lt_iff_lt_mul hg).2 (by rw [Nat.mul_comm j g]; omega)
  have h3 : j - 1 ≤ m / g := by
    rcases h with h | h
    · rw [h]; exact Nat.zero_le _
    · exact (Nat.le_div_iff_mul_le hg).2 (by rw [Nat.mul_comm (j - 1) g]; exact h)
  omega
theorem succ_div' {l : Nat} (_ : 0 < l) (n : Nat) : (n + 1) / l = n / l + if l ∣ n + 1 then 1 else 0 := Nat.succ_div
/-- the places of both fences -/
def bothL (n a b : Nat) : List Int := ((List.range n).filter fun p => decide (p % a = 0) && decide (p % b = 0)).map fun p : Nat => (p : Int)
def anyN (n a b : Nat) : List Int := ((List.range n).filter fun p => decide (p % a = 0) || decide (p % b = 0)).map fun p : Nat => (p : Int)
theorem bothL_succ (n a b : Nat) : bothL (n + 1) a b = bothL n a b ++ (if n % a = 0 ∧ n % b = 0 then [(n : Int)] else []) := by
  unfold bothL
  rw [List.range_succ, List.filter_append, List.map_append]
  congr 1
  by_cases h : n % a = 0 ∧ n % b = 0
  · rw [if_pos h]; simp [h.1, h.2]
  · rw [if_neg h]
    rw [List.filter_cons_of_neg]
    · rfl
    · simpa using h
theorem anyN_succ (n a b : Nat) : anyN (n + 1) a b = anyN n a b ++ (if n % a = 0 ∨ n % b = 0 then [(n : Int)] else []) := by
  unfold anyN
  rw [List.range_succ, List.filter_append, List.map_append]
  congr 1
  by_cases h : n % a = 0 ∨ n % b = 0
  · rw [if_pos h]
    rw [List.filter_cons_of_pos]
    · rfl
    · simpa using h
  · rw [if_neg h]
    rw [List.filter_cons_of_neg]
    · rfl
    · simpa using h
theorem bothL_len (n a b : Nat) : (bothL n a b).length ≤ n := by
  unfold bothL
  rw [List.length_map]
  exact Nat.le_trans (List.length_filter_le _ _) (by rw [List.length_range]; exact Nat.le_refl _)
theorem anyN_len (n a b : Nat) : (anyN n a b).length ≤ n := by
  unfold anyN
  rw [List.length_map]
  exact Nat.le_trans (List.length_filter_le _ _) (by rw [List.length_range]; exact Nat.le_refl _)
theorem lcm_pos' {a b : Nat} (ha : 1 ≤ a) (hb : 1 ≤ b) : 0 < Nat.lcm a b := Nat.lcm_pos ha hb
theorem both_iff (n a b : Nat) : (n % a = 0 ∧ n % b = 0) ↔ Nat.lcm a b ∣ n := by
  rw [Nat.lcm_dvd_iff, Nat.dvd_iff_mod_eq_zero, Nat.dvd_iff_mod_eq_zero]
theorem both_muls {a b : Nat} (ha : 1 ≤ a) (hb : 1 ≤ b) : ∀ n, bothL (n + 1) a b = mulsL (Nat.lcm a b) (n / Nat.lcm a b + 1)
  | 0 => by
    rw [bothL_succ, if_pos ⟨Nat.zero_mod _, Nat.zero_mod _⟩, Nat.zero_div]
    rfl
  | n + 1 => by
    have hl := lcm_pos' ha hb
    rw [bothL_succ, both_muls ha hb n, succ_div' hl n]
    by_cases h : Nat.lcm a b ∣ n + 1
    · rw [if_pos ((both_iff _ _ _).2 h), if_pos h, mulsL_succ (Nat.lcm a b) (n / Nat.lcm a b + 1)]
      congr 2
      have h1 := succ_div' hl n
      rw [if_pos h] at h1
      rw [← h1, Nat.mul_div_cancel' h]
    · rw [if_neg (fun x => h ((both_iff _ _ _).1 x)), if_neg h, List.append_nil, Nat.add_zero]
/-- how many places there are of one fence or the other -/
def holesN (n a b : Nat) : Nat := 1 + n / a + n / b - n / Nat.lcm a b
theorem any_count {a b : Nat} (ha : 1 ≤ a) (hb : 1 ≤ b) : ∀ n, (anyN (n + 1) a b).length + n / Nat.lcm a b = 1 + n / a + n / b
  | 0 => by
    rw [anyN_succ, if_pos (.inl (Nat.zero_mod _)), Nat.zero_div, Nat.zero_div, Nat.zero_div]
    rfl
  | n + 1 => by
    have hl := lcm_pos' ha hb
    have ih := any_count ha hb n
    have hi := both_iff (n + 1) a b
    have da : (n + 1) % a = 0 ↔ a ∣ n + 1 := (Nat.dvd_iff_mod_eq_zero).symm
    have db : (n + 1) % b = 0 ↔ b ∣ n + 1 := (Nat.dvd_iff_mod_eq_zero).symm
    rw [anyN_succ, List.length_append, succ_div' hl n, succ_div' ha n, succ_div' hb n]
    by_cases h1 : (n + 1) % a = 0
    · by_cases h2 : (n + 1) % b = 0
      · rw [if_pos (.inl h1), if_pos (hi.1 ⟨h1, h2⟩), if_pos (da.1 h1), if_pos (db.1 h2), List.length_singleton]; omega
      · rw [if_pos (.inl h1), if_neg (fun x => h2 (hi.2 x).2), if_pos (da.1 h1), if_neg (fun x => h2 (db.2 x)), List.length_singleton]; omega
    · by_cases h2 : (n + 1) % b = 0
      · rw [if_pos (.inr h2), if_neg (fun x => h1 (hi.2 x).1), if_neg (fun x => h1 (da.2 x)), if_pos (db.1 h2), List.length_singleton]; omega
      · rw [if_neg (fun x => x.elim h1 h2), if_neg (fun x => h1 (hi.2 x).1), if_neg (fun x => h1 (da.2 x)), if_neg (fun x => h2 (db.2 x)), List.length_nil]; omega
theorem any_holes {a b : Nat} (ha : 1 ≤ a) (hb : 1 ≤ b) (n : Nat) : (anyN (n + 1) a b).length = holesN n a b := by
  have := any_count ha hb n
  unfold holesN
  omega
end Go.Proofs.Ytacncacpcllgcaa
