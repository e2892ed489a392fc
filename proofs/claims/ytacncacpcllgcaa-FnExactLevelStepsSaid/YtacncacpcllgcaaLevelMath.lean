/- Steps that level ground: least sums, and two passes that find them. Pure. -/
import Derived.WalkKit
namespace Go.Proofs.Ytacncacpcllgcaa

/-- how far two posts are apart -/
def farN (i k : Nat) : Int := if i ≤ k then ((k - i : Nat) : Int) else ((i - k : Nat) : Int)
/-- r is the least height that the posts that P picks allow at post i -/
def LeastAt (L : List Int) (m : Int) (P : Nat → Prop) (i : Nat) (r : Int) : Prop :=
  (∀ k, k < L.length → P k → r ≤ L.getD k 0 + m * farN i k) ∧ ∃ k, k < L.length ∧ P k ∧ r = L.getD k 0 + m * farN i k
theorem LeastAt.unique {L : List Int} {m : Int} {P : Nat → Prop} {i : Nat} {r s : Int} (h : LeastAt L m P i r) (k : LeastAt L m P i s) : r = s := by
  obtain ⟨a1, x, x1, x2, x3⟩ := h
  obtain ⟨b1, y, y1, y2, y3⟩ := k
  have := a1 y y1 y2
  have := b1 x x1 x2
  omega
/-- the least height from the first j posts on -/
def levK (L : List Int) (m : Int) (i : Nat) : Nat → Int
  | 0 => L.getD i 0
  | j + 1 => min (levK L m i j) (L.getD j 0 + m * farN i j)
def levL (L : List Int) (m : Int) : List Int := (List.range L.length).map fun i => levK L m i L.length
theorem farN_self (i : Nat) : farN i i = 0 := by unfold farN; rw [if_pos (Nat.le_refl _), Nat.sub_self]; rfl
theorem levK_spec (L : List Int) (m : Int) (i : Nat) : ∀ j, (∀ k, k < j → levK L m i j ≤ L.getD k 0 + m * farN i k) ∧ levK L m i j ≤ L.getD i 0 ∧ (levK L m i j = L.getD i 0 ∨ ∃ k, k < j ∧ levK L m i j = L.getD k 0 + m * farN i k)
  | 0 => ⟨fun k hk => absurd hk (Nat.not_lt_zero _), Int.le_refl _, .inl rfl⟩
  | j + 1 => by
    obtain ⟨h1, h2, h3⟩ := levK_spec L m i j
    have e : levK L m i (j + 1) = min (levK L m i j) (L.getD j 0 + m * farN i j) := rfl
    obtain ⟨x, hx⟩ : ∃ x, x = L.getD j 0 + m * farN i j := ⟨_, rfl⟩
    rw [← hx] at e
    refine ⟨fun k hk => ?_, by omega, ?_⟩
    · by_cases hkj : k = j
      · subst hkj; rw [← hx]; omega
      · have := h1 k (by omega); omega
    · by_cases h : levK L m i j ≤ x
      · rcases h3 with h3 | ⟨k, hk, h3⟩
        · exact .inl (by omega)
        · exact .inr ⟨k, by omega, by omega⟩
      · exact .inr ⟨j, by omega, by rw [← hx]; omega⟩
theorem lev_least {L : List Int} {m : Int} {i : Nat} (hi : i < L.length) : LeastAt L m (fun _ => True) i (levK L m i L.length) := by
  obtain ⟨h1, h2, h3⟩ := levK_spec L m i L.length
  refine ⟨fun k hk _ => h1 k hk, ?_⟩
  rcases h3 with h3 | ⟨k, hk, h3⟩
  · exact ⟨i, hi, trivial, by rw [farN_self, Int.mul_zero, Int.add_zero]; exact h3⟩
  · exact ⟨k, hk, trivial, h3⟩
/-- the pass from the left -/
def passK (L : List Int) (m : Int) : Nat → Int
  | 0 => L.getD 0 0
  | i + 1 => min (L.getD (i + 1) 0) (passK L m i + m)
def passL (L : List Int) (m : Int) : List Int := (List.range L.length).map (passK L m)
theorem passL_len (L : List Int) (m : Int) : (passL L m).length = L.length := by simp [passL]
theorem passL_at (L : List Int) (m : Int) (i : Nat) (h : i < L.length) : (passL L m).getD i 0 = passK L m i := by
  unfold passL
  rw [List.getD_eq_getElem?_getD, List.getElem?_map, List.getElem?_range h]; rfl
theorem farN_ge {i k : Nat} (h : k ≤ i) : farN i k = (i : Int) - (k : Int) := by
  unfold farN
  split <;> omega
theorem farN_le {i k : Nat} (h : i ≤ k) : farN i k = (k : Int) - (i : Int) := by
  unfold farN
  split <;> omega
theorem pass_least (L : List Int) (m : Int) : ∀ i, i < L.length → LeastAt L m (fun k => k ≤ i) i (passK L m i)
  | 0, h => ⟨fun k _ hk => by
      obtain rfl : k = 0 := by omega
      rw [farN_self, Int.mul_zero, Int.add_zero]; exact Int.le_refl _, 0, h, Nat.le_refl _, by rw [farN_self, Int.mul_zero, Int.add_zero]; rfl⟩
  | i + 1, h => by
    obtain ⟨h1, k0, k1, k2, k3⟩ := pass_least L m i (by omega)
    have e : passK L m (i + 1) = min (L.getD (i + 1) 0) (passK L m i + m) := rfl
    have hf : ∀ k, k ≤ i → m * farN (i + 1) k = m * farN i k + m := fun k hk => by
      rw [farN_ge (by omega : k ≤ i + 1), farN_ge hk]
      rw [show ((i + 1 : Nat) : Int) - (k : Int) = ((i : Int) - (k : Int)) + 1 by omega, Int.mul_add, Int.mul_one]
    refine ⟨fun k hk hki => ?_, ?_⟩
    · by_cases hkj : k = i + 1
      · subst hkj; rw [farN_self, Int.mul_zero, Int.add_zero]; omega
      · have := h1 k hk (by omega)
        rw [hf k (by omega)]
        omega
    · by_cases hc : L.getD (i + 1) 0 ≤ passK L m i + m
      · exact ⟨i + 1, h, Nat.le_refl _, by rw [farN_self, Int.mul_zero, Int.add_zero]; omega⟩
      · exact ⟨k0, k1, by omega, by rw [hf k0 k2]; omega⟩
theorem getD_rev (L : List Int) (i : Nat) (h : i < L.length) : L.reverse.getD i 0 = L.getD (L.length - 1 - i) 0 := by
  rw [List.getD_eq_getElem?_getD, List.getD_eq_getElem?_getD, List.getElem?_reverse h]
/-- a pass from the left, turned round, a pass again, turned round again: the least heights -/
theorem two_passes {L : List Int} {m : Int} (hm : 0 ≤ m) : (passL (passL L m).reverse m).reverse = levL L m := by
  have hl1 : (passL L m).reverse.length = L.length := by rw [List.length_reverse, passL_len]
  have hl2 : (passL (passL L m).reverse m).length = L.length := by rw [passL_len, hl1]
  apply List.ext_getElem
  · rw [List.length_reverse, hl2]; simp [levL]
  · intro i h1 h2
    have hi : i < L.length := by rw [List.length_reverse, hl2] at h1; exact h1
    have e1 : (passL (passL L m).reverse m).reverse[i] = (passL (passL L m).reverse m).reverse.getD i 0 := by
      rw [List.getD_eq_getElem?_getD, List.getElem?_eq_getElem h1]; rfl
    have e2 : (levL L m)[i] = levK L m i L.length := by simp [levL]
    rw [e1, e2, getD_rev _ _ (by rw [hl2]; exact hi), hl2, passL_at _ _ _ (by rw [hl1]; omega)]
    obtain ⟨j, hj⟩ : ∃ j, j = L.length - 1 - i := ⟨_, rfl⟩
    rw [← hj]
    have hjl : j < L.length := by omega
    have hji : i = L.length - 1 - j := by omega
    apply LeastAt.unique (L := L) (m := m) (P := fun _ => True) (i := i) _ (lev_least hi)
    obtain ⟨b1, k0, k1, k2, k3⟩ := pass_least (passL L m).reverse m j (by rw [hl1]; exact hjl)
    rw [hl1] at b1 k1
    have hr : ∀ k, k < L.length → (passL L m).reverse.getD k 0 = passK L m (L.length - 1 - k) := fun k hk => by
      rw [getD_rev _ _ (by rw [passL_len]; exact hk), passL_len, passL_at _ _ _ (by omega)]
    refine ⟨fun k hk _ => ?_, ?_⟩
    · -- the post between k and i, on i's side if k lies on the left
      by_cases hki : k ≤ i
      · have h3 := b1 j hjl (Nat.le_refl _)
        rw [farN_self, Int.mul_zero, Int.add_zero, hr j hjl, ← hji] at h3
        have h4 := (pass_least L m i hi).1 k hk hki
        omega
      · have h3 := b1 (L.length - 1 - k) (by omega) (by omega)
        rw [hr _ (by omega), show L.length - 1 - (L.length - 1 - k) = k by omega] at h3
        have h4 := (pass_least L m k hk).1 k hk (Nat.le_refl _)
        rw [farN_self, Int.mul_zero, Int.add_zero] at h4
        rw [farN_ge (by omega), show ((j : Int) - ((L.length - 1 - k : Nat) : Int)) = (k : Int) - (i : Int) by omega] at h3
        rw [farN_le (by omega)]
        omega
    · obtain ⟨p0, p1, p2, p3⟩ := (pass_least L m (L.length - 1 - k0) (by omega)).2
      rw [hr k0 k1, farN_ge k2] at k3
      refine ⟨p0, p1, trivial, ?_⟩
      have hle := (levK_spec L m i L.length).1 p0 p1
      -- the told sum is no less than the straight one
      have hA : LeastAt L m (fun _ => True) i (levK L m i L.length) := lev_least hi
      rw [farN_ge p2] at p3
      have hge : m * farN i p0 ≤ m * ((j : Int) - (k0 : Int)) + m * (((L.length - 1 - k0 : Nat) : Int) - (p0 : Int)) := by
        rw [← Int.mul_add]
        apply Int.mul_le_mul_of_nonneg_left _ hm
        unfold farN
        split <;> omega
      by_cases hpi : p0 ≤ i
      · have h3 := b1 j hjl (Nat.le_refl _)
        rw [farN_self, Int.mul_zero, Int.add_zero, hr j hjl, ← hji] at h3
        have h4 := (pass_least L m i hi).1 p0 p1 hpi
        omega
      · have h3 := b1 (L.length - 1 - p0) (by omega) (by omega)
        rw [hr _ (by omega), show L.length - 1 - (L.length - 1 - p0) = p0 by omega] at h3
        have h4 := (pass_least L m p0 p1).1 p0 p1 (Nat.le_refl _)
        rw [farN_self, Int.mul_zero, Int.add_zero] at h4
        rw [farN_ge (by omega), show ((j : Int) - ((L.length - 1 - p0 : Nat) : Int)) = (p0 : Int) - (i : Int) by omega] at h3
        rw [farN_le (by omega)] at hge ⊢
        omega
end Go.Proofs.Ytacncacpcllgcaa
