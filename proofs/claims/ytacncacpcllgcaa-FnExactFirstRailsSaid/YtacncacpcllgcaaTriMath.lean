/- FirstRails: the list of all whole rails, as a function. Pure. -/
import Derived.Test.YtacncacpcllgcaaRootMath
namespace Go.Proofs.Ytacncacpcllgcaa

def triN (l g : Nat) : Nat := l * l - g * g
def triOk (l g : Nat) : Bool := isSq (triN l g) && decide (upRoot (triN l g) ≤ g)
def triRow (l g : Nat) : List Int := [(g : Int), ((upRoot (triN l g) : Nat) : Int), (l : Int)]
def gapsR (l : Nat) : Nat → List (List Int)
  | 0 => []
  | n + 1 => gapsR l n ++ (if triOk l (n + 1) = true then [triRow l (n + 1)] else [])
def triR : Nat → List (List Int)
  | 0 => []
  | n + 1 => triR n ++ gapsR (n + 1) n
/-- the rows of shorter rails than l, and those of l with smaller gaps than g -/
def TR (l g : Nat) : List (List Int) := triR (l - 1) ++ gapsR l (g - 1)
theorem TR_yes {l g : Nat} (hg : 1 ≤ g) (h : triOk l g = true) : TR l (g + 1) = TR l g ++ [triRow l g] := by
  obtain ⟨n, rfl⟩ : ∃ n, g = n + 1 := ⟨g - 1, by omega⟩
  unfold TR
  show _ ++ (gapsR l n ++ if triOk l (n + 1) = true then _ else _) = _
  rw [if_pos h, ← List.append_assoc]; rfl
theorem TR_no {l g : Nat} (hg : 1 ≤ g) (h : triOk l g = false) : TR l (g + 1) = TR l g := by
  obtain ⟨n, rfl⟩ : ∃ n, g = n + 1 := ⟨g - 1, by omega⟩
  unfold TR
  show _ ++ (gapsR l n ++ if triOk l (n + 1) = true then _ else _) = _
  rw [if_neg (by rw [h]; simp), List.append_nil]; rfl
theorem TR_end {l : Nat} (hl : 1 ≤ l) : TR l l = TR (l + 1) 1 := by
  obtain ⟨n, rfl⟩ : ∃ n, l = n + 1 := ⟨l - 1, by omega⟩
  show triR n ++ gapsR (n + 1) n = triR (n + 1) ++ []
  rw [List.append_nil]; rfl
theorem TR_one : TR 1 1 = [] := rfl
theorem TR_last (m : Nat) : TR (m + 1) 1 = triR m := by
  show triR m ++ [] = _
  rw [List.append_nil]
theorem gapsR_len (l : Nat) : ∀ n, (gapsR l n).length ≤ n
  | 0 => Nat.le_refl _
  | n + 1 => by
    have := gapsR_len l n
    show (gapsR l n ++ _).length ≤ _
    rw [List.length_append]
    split
    · rw [List.length_singleton]; omega
    · rw [List.length_nil]; omega
theorem triR_len {m : Nat} (hm : m ≤ 500) : ∀ n, n ≤ m → (triR n).length ≤ n * 500
  | 0, _ => Nat.zero_le _
  | n + 1, h => by
    have := triR_len hm n (by omega)
    have := gapsR_len (n + 1) n
    show (triR n ++ gapsR (n + 1) n).length ≤ _
    rw [List.length_append]; omega
theorem TR_len {l g : Nat} (hl : l ≤ 501) (hg : g ≤ 501) : (TR l g).length ≤ 251000 := by
  have := triR_len (m := 500) (Nat.le_refl _) (l - 1) (by omega)
  have := gapsR_len l (g - 1)
  unfold TR
  rw [List.length_append]; omega
theorem gapsR_three (l : Nat) : ∀ n, ∀ L ∈ gapsR l n, L.length = 3
  | 0, L, h => by cases h
  | n + 1, L, h => by
    have h' : L ∈ gapsR l n ++ (if triOk l (n + 1) = true then [triRow l (n + 1)] else []) := h
    rcases List.mem_append.1 h' with h1 | h1
    · exact gapsR_three l n L h1
    · split at h1
      · rw [List.mem_singleton] at h1; rw [h1]; rfl
      · cases h1
theorem triR_three : ∀ n, ∀ L ∈ triR n, L.length = 3
  | 0, L, h => by cases h
  | n + 1, L, h => by
    have h' : L ∈ triR n ++ gapsR (n + 1) n := h
    rcases List.mem_append.1 h' with h1 | h1
    · exact triR_three n L h1
    · exact gapsR_three _ _ L h1
/-- what the model's root says of it -/
theorem tri_root {l g r : Nat} (hg : g < l) (h1 : r * r ≤ triN l g) (h2 : triN l g < (r + 1) * (r + 1)) :
    (triOk l g = true ↔ r ≤ g ∧ r * r + g * g = l * l) ∧ (triOk l g = true → triRow l g = [(g : Int), ((r : Nat) : Int), (l : Int)]) := by
  obtain ⟨k1, k2⟩ := down_sq h1 h2
  have hgl : g * g ≤ l * l := Nat.mul_le_mul (Nat.le_of_lt hg) (Nat.le_of_lt hg)
  have e : triN l g + g * g = l * l := Nat.sub_add_cancel hgl
  have hq : isSq (triN l g) = true ↔ upRoot (triN l g) * upRoot (triN l g) = triN l g := by unfold isSq; exact decide_eq_true_iff
  refine ⟨?_, fun h => ?_⟩
  · unfold triOk
    rw [Bool.and_eq_true, hq, decide_eq_true_iff]
    constructor
    · intro ⟨h3, h4⟩
      have := k2 h3
      have := k1.2 h3
      exact ⟨by omega, by omega⟩
    · intro ⟨h3, h4⟩
      have h5 : r * r = triN l g := by omega
      have h6 := k1.1 h5
      have := k2 h6
      exact ⟨h6, by omega⟩
  · unfold triOk at h
    rw [Bool.and_eq_true, hq] at h
    unfold triRow
    rw [k2 h.1]
theorem tri_bd {l g : Nat} (hl : l ≤ 500) (hg : g < l) : 1 ≤ triN l g ∧ triN l g ≤ 250000 ∧ ((triN l g : Nat) : Int) = (l : Int) * (l : Int) - (g : Int) * (g : Int) ∧ (l : Int) * (l : Int) ≤ 250000 ∧ (0 : Int) ≤ (g : Int) * (g : Int) ∧ (g : Int) * (g : Int) < (l : Int) * (l : Int) := by
  have h1 : l * l ≤ 500 * 500 := Nat.mul_le_mul hl hl
  have h2 := Nat.mul_self_lt_mul_self hg
  have e1 := Int.natCast_mul l l
  have e2 := Int.natCast_mul g g
  unfold triN
  refine ⟨by omega, by omega, by omega, by omega, by omega, by omega⟩
end Go.Proofs.Ytacncacpcllgcaa
