/- Even parts: what both sides reckon. No condition. -/
import Derived.Test.YtbocdhibimcobaaGateMath
namespace Go.Proofs.Ytbocdhibimcobaa
open Go.RowKit

/-- the part k of m + 1 even ones of n boards -/
def evP (n m k : Nat) : Nat := if k + n % (m + 1) < m + 1 then n / (m + 1) else n / (m + 1) + 1
/-- the boards that are left for the parts from k on -/
def evR (n m k : Nat) : Nat := (m + 1 - k) * (n / (m + 1)) + min (n % (m + 1)) (m + 1 - k)
theorem evR_zero (n m : Nat) : evR n m 0 = n := by
  unfold evR
  have h1 := Nat.div_add_mod n (m + 1)
  have h2 := Nat.mod_lt n (show 0 < m + 1 by omega)
  rw [Nat.sub_zero, Nat.min_eq_left (by omega)]
  exact h1
theorem evR_div {n m k : Nat} (hk : k ≤ m) : evR n m k / (m + 1 - k) = evP n m k := by
  unfold evR evP
  have h2 := Nat.mod_lt n (show 0 < m + 1 by omega)
  obtain ⟨d, hd⟩ : ∃ d, d = m + 1 - k := ⟨_, rfl⟩
  obtain ⟨r, hr⟩ : ∃ r, r = n % (m + 1) := ⟨_, rfl⟩
  obtain ⟨q, hq⟩ : ∃ q, q = n / (m + 1) := ⟨_, rfl⟩
  rw [← hd, ← hr, ← hq]
  have hd0 : 0 < d := by omega
  rw [Nat.add_comm, Nat.add_mul_div_left _ _ hd0]
  by_cases h : k + r < m + 1
  · rw [if_pos h, Nat.min_eq_left (by omega), Nat.div_eq_of_lt (by omega)]; omega
  · rw [if_neg h, Nat.min_eq_right (by omega), Nat.div_self hd0]; omega
theorem evR_succ {n m k : Nat} (hk : k ≤ m) : evR n m k = evR n m (k + 1) + evP n m k := by
  unfold evR evP
  have h2 := Nat.mod_lt n (show 0 < m + 1 by omega)
  obtain ⟨d, hd⟩ : ∃ d, m + 1 - k = d + 1 := ⟨m - k, by omega⟩
  obtain ⟨r, hr⟩ : ∃ r, r = n % (m + 1) := ⟨_, rfl⟩
  obtain ⟨q, hq⟩ : ∃ q, q = n / (m + 1) := ⟨_, rfl⟩
  rw [hd, show m + 1 - (k + 1) = d by omega, ← hr, ← hq, Nat.succ_mul]
  by_cases h : k + r < m + 1
  · rw [if_pos h, Nat.min_eq_left (by omega), Nat.min_eq_left (by omega)]; omega
  · rw [if_neg h, Nat.min_eq_right (by omega), Nat.min_eq_right (by omega)]; omega
theorem evR_end (n m : Nat) : evR n m (m + 1) = 0 := by
  unfold evR; rw [Nat.sub_self]; simp
theorem evP_le (n m k : Nat) (hk : k ≤ m) : evP n m k ≤ n := by
  have := evR_div (n := n) hk
  have h1 : evR n m k ≤ n := by
    have h0 : ∀ j, j ≤ m + 1 → evR n m j ≤ n := by
      intro j
      induction j with
      | zero => intro _; rw [evR_zero]; exact Nat.le_refl _
      | succ j ih => intro hj; have := ih (by omega); have := evR_succ (n := n) (m := m) (k := j) (by omega); omega
    exact h0 k (by omega)
  have h2 := Nat.div_le_self (evR n m k) (m + 1 - k)
  omega
/-- the boards ahead of the part j -/
def evS (n m j : Nat) : Nat := ((List.range j).map (evP n m)).sum
theorem evS_zero (n m : Nat) : evS n m 0 = 0 := rfl
theorem evS_succ (n m j : Nat) : evS n m (j + 1) = evS n m j + evP n m j := by
  unfold evS; rw [List.range_succ, List.map_append, List.sum_append]; simp
theorem evS_evR {n m : Nat} : ∀ j, j ≤ m + 1 → evS n m j + evR n m j = n
  | 0, _ => by rw [evS_zero, evR_zero]; omega
  | j + 1, h => by
    have h1 := evS_evR (n := n) (m := m) j (by omega)
    have h2 := evR_succ (n := n) (m := m) (k := j) (by omega)
    rw [evS_succ]; omega
/-- the parts as numbers of the program -/
def evF (n m : Nat) (k : Nat) : Int := (evP n m k : Int)
def evL (n m : Nat) : List Int := (List.range (m + 1)).map (evF n m)
theorem evL_len (n m : Nat) : (evL n m).length = m + 1 := by simp [evL]
theorem evL_sum (n m : Nat) : (evL n m).sum = n := by
  have h : ∀ j, ((List.range j).map (evF n m)).sum = (evS n m j : Int) := by
    intro j
    induction j with
    | zero => rfl
    | succ j ih =>
      rw [List.range_succ, List.map_append, List.sum_append, ih, evS_succ]
      simp [evF]
  unfold evL
  rw [h]
  have := evS_evR (n := n) (m := m) (m + 1) (Nat.le_refl _)
  rw [evR_end] at this
  omega
/-- with too few boards the first part has none -/
theorem evL_ok {n m : Nat} (h2 : 2 ≤ n) (h40 : n ≤ 40) (hm : m ≤ 10) : (okNums 11 40 (evL n m) = true) ↔ m < n := by
  have hmod := Nat.mod_lt n (show 0 < m + 1 by omega)
  constructor
  · intro h
    have h1 := okNums_at h (k := 0) (by rw [evL_len]; omega)
    have e : (evL n m)[0]'(by rw [evL_len]; omega) = (evP n m 0 : Int) := by simp [evL, evF]
    rw [e] at h1
    rcases Nat.lt_or_ge m n with h3 | h3
    · exact h3
    · exfalso
      have h4 : n / (m + 1) = 0 := Nat.div_eq_of_lt (by omega)
      have h5 : evP n m 0 = 0 := by unfold evP; rw [if_pos (by omega), h4]
      omega
  · intro h
    rw [okNums_of (by rw [evL_len]; omega)]
    unfold allIn
    rw [List.all_eq_true]
    intro x hx
    unfold evL at hx
    obtain ⟨k, hk, rfl⟩ := List.mem_map.1 hx
    have hk := List.mem_range.1 hk
    have h6 := evP_le n m k (by omega)
    have h7 : 0 < n / (m + 1) := Nat.div_pos (by omega) (by omega)
    have h8 : n / (m + 1) ≤ evP n m k := by unfold evP; split <;> omega
    apply decide_eq_true
    unfold evF
    omega

/-- the even gates -/
def evG (n m : Nat) : List Int := (List.range m).map fun k => (evS n m (k + 1) : Int)
theorem evG_len (n m : Nat) : (evG n m).length = m := by simp [evG]

/-- a sorted list of two neighbouring numbers -/
theorem sorted_two (x : Int) : ∀ (S : List Int), S.Pairwise (· ≤ ·) → (∀ y ∈ S, y = x ∨ y = x + 1) → ∃ a b, S = List.replicate a x ++ List.replicate b (x + 1)
  | [], _, _ => ⟨0, 0, rfl⟩
  | y :: S, hs, h => by
    rw [List.pairwise_cons] at hs
    obtain ⟨a, b, e⟩ := sorted_two x S hs.2 fun z hz => h z (List.mem_cons_of_mem _ hz)
    rcases h y (List.mem_cons_self ..) with rfl | rfl
    · exact ⟨a + 1, b, by rw [e]; rfl⟩
    · cases a with
      | zero => exact ⟨0, b + 1, by rw [e]; rfl⟩
      | succ a =>
        have := hs.1 x (by rw [e, List.replicate_succ]; simp)
        omega
theorem sum_two (x : Int) (a b : Nat) : (List.replicate a x ++ List.replicate b (x + 1)).sum = (a + b : Nat) * x + b := by
  rw [List.sum_append]
  have h : ∀ (k : Nat) (z : Int), (List.replicate k z).sum = (k : Int) * z := by
    intro k z
    induction k with
    | zero => simp
    | succ k ih => rw [List.replicate_succ, List.sum_cons, ih, Int.natCast_succ, Int.add_mul]; omega
  rw [h, h, Int.natCast_add, Int.add_mul, Int.mul_add]
  omega
theorem two_ev {n m a b q : Nat} (hab : a + b = m + 1) (ha : 1 ≤ a) (hn : (m + 1) * q + b = n) : List.replicate a (q : Int) ++ List.replicate b ((q : Int) + 1) = evL n m := by
  have hq : n / (m + 1) = q := by
    rw [← hn, Nat.add_comm, Nat.add_mul_div_left _ _ (by omega), Nat.div_eq_of_lt (by omega)]; omega
  have hr : n % (m + 1) = b := by
    rw [← hn, Nat.add_comm, Nat.add_mul_mod_self_left, Nat.mod_eq_of_lt (by omega)]
  apply List.ext_getElem
  · rw [evL_len, List.length_append, List.length_replicate, List.length_replicate, hab]
  · intro k h1 h2
    have h3 : k < m + 1 := by rw [evL_len] at h2; exact h2
    have e : (evL n m)[k] = (evP n m k : Int) := by simp [evL, evF]
    rw [e]
    unfold evP
    rw [hq, hr, List.getElem_append]
    split
    · next h =>
      rw [List.length_replicate] at h
      rw [List.getElem_replicate, if_pos (by omega)]
    · next h =>
      rw [List.length_replicate] at h
      rw [List.getElem_replicate, if_neg (by omega)]; omega
theorem evL_two (n m : Nat) : ∀ x ∈ evL n m, x = ((n / (m + 1) : Nat) : Int) ∨ x = ((n / (m + 1) : Nat) : Int) + 1 := fun x hx => by
  unfold evL at hx
  obtain ⟨k, _, rfl⟩ := List.mem_map.1 hx
  unfold evF evP
  split
  · exact .inl rfl
  · exact .inr (by omega)
theorem perm_sum {A B : List Int} (h : A.Perm B) : A.sum = B.sum := by
  induction h with
  | nil => rfl
  | cons x _ ih => rw [List.sum_cons, List.sum_cons, ih]
  | swap x y l => rw [List.sum_cons, List.sum_cons, List.sum_cons, List.sum_cons]; omega
  | trans _ _ i1 i2 => exact i1.trans i2
/-- parts are even: sorted they are those of the even gates -/
theorem even_iff {n m : Nat} {P S : List Int} (hl : P.length = m + 1) (hs : P.sum = n) (h1 : ∀ x ∈ P, 0 ≤ x) (hp : S.Perm P) (hsort : S.Pairwise (· ≤ ·)) : S = evL n m ↔ Lib.maxOf P - Lib.minOf P < 2 := by
  have h0 : 0 < P.length := by omega
  obtain ⟨hM, hM2⟩ := maxOf_mem h0
  obtain ⟨hm, hm2⟩ := minOf_mem h0
  constructor
  · intro e
    have a := evL_two n m _ (by rw [← e]; exact hp.mem_iff.2 hM)
    have b := evL_two n m _ (by rw [← e]; exact hp.mem_iff.2 hm)
    have := hm2 _ hM
    omega
  · intro h
    obtain ⟨x, hx⟩ : ∃ x, x = Lib.minOf P := ⟨_, rfl⟩
    rw [← hx] at h hm hm2
    have hx0 := h1 x hm
    obtain ⟨a, b, e⟩ := sorted_two x S hsort fun y hy => by
      have hy := hp.mem_iff.1 hy
      have := hM2 y hy
      have := hm2 y hy
      omega
    obtain ⟨q, rfl⟩ : ∃ q : Nat, x = (q : Int) := ⟨x.toNat, by omega⟩
    have hab : a + b = m + 1 := by
      have := hp.length_eq
      rw [e, List.length_append, List.length_replicate, List.length_replicate] at this
      omega
    have ha : 1 ≤ a := by
      rcases Nat.eq_zero_or_pos a with h3 | h3
      · exfalso
        have h4 := hp.mem_iff.2 hm
        rw [e, h3] at h4
        simp at h4
        omega
      · exact h3
    have hsum : S.sum = P.sum := perm_sum hp
    rw [e, sum_two, hs, hab] at hsum
    have hn : (m + 1) * q + b = n := by
      have h5 : (((m + 1) * q + b : Nat) : Int) = (n : Int) := by rw [Int.natCast_add, Int.natCast_mul]; exact hsum
      omega
    rw [e]
    exact two_ev hab ha hn
end Go.Proofs.Ytbocdhibimcobaa
