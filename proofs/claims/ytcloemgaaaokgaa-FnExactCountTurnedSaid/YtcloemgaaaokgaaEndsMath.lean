/- Counts of proper fences: plain sums and powers. No condition. -/
import Derived.Test.YtcloemgaaaokgaaUtil
namespace Go.Proofs.Ytcloemgaaaokgaa

/-- the sum of the first b numbers, the one with the index x left out -/
def sumTo (F : Nat → Int) (x : Int) : Nat → Int
  | 0 => 0
  | b + 1 => sumTo F x b + (if (b : Int) = x then 0 else F b)
def totF (F : Nat → Int) : Nat → Int
  | 0 => 0
  | b + 1 => totF F b + F b
/-- in how many ways k boards go on behind one with a tint -/
def waysV (q : Nat) (last : Int) : Nat → Nat → Int
  | 0, t => if (t : Int) = last then 0 else 1
  | k + 1, a => sumTo (waysV q last k) (a : Int) q
def endsV (q : Nat) (before last : Int) (k : Nat) : Int := sumTo (waysV q last k) before q

theorem sumTo_neg (F : Nat → Int) (x : Int) (h : x < 0) : ∀ b, sumTo F x b = totF F b
  | 0 => rfl
  | b + 1 => by
    rw [sumTo, totF, sumTo_neg F x h b, if_neg (by omega)]
theorem sumTo_out (F : Nat → Int) (a : Nat) : ∀ b, b ≤ a → sumTo F a b = totF F b
  | 0, _ => rfl
  | b + 1, hb => by
    rw [sumTo, totF, sumTo_out F a b (by omega), if_neg (by omega)]
theorem sumTo_in (F : Nat → Int) (a : Nat) : ∀ b, a < b → sumTo F a b = totF F b - F a
  | b + 1, hb => by
    rw [sumTo, totF]
    by_cases e : b = a
    · subst e
      rw [sumTo_out F b b (Nat.le_refl _), if_pos rfl]; omega
    · rw [sumTo_in F a b (by omega), if_neg (by omega)]; omega
theorem totF_sub (F : Nat → Int) (T : Int) : ∀ b, totF (fun a => T - F a) b = b * T - totF F b
  | 0 => by simp [totF]
  | b + 1 => by
    rw [totF, totF, totF_sub F T b]
    have : ((b + 1 : Nat) : Int) * T = b * T + T := by rw [Int.natCast_add, Int.add_mul]; simp
    omega
theorem totF_congr {F G : Nat → Int} : ∀ b, (∀ i, i < b → F i = G i) → totF F b = totF G b
  | 0, _ => rfl
  | b + 1, h => by rw [totF, totF, totF_congr b fun i hi => h i (by omega), h b (by omega)]
theorem ways_succ (q : Nat) (last : Int) (k a : Nat) (h : a < q) : waysV q last (k + 1) a = totF (waysV q last k) q - waysV q last k a := by
  rw [waysV]; exact sumTo_in _ a q h
theorem tot_succ (q : Nat) (last : Int) (k : Nat) : totF (waysV q last (k + 1)) q = ((q : Int) - 1) * totF (waysV q last k) q := by
  rw [totF_congr q fun i hi => ways_succ q last k i hi, totF_sub, Int.sub_mul]; omega
theorem tot_pow (q : Nat) (last : Int) (c : Int) (h : totF (waysV q last 0) q = c) : ∀ k, totF (waysV q last k) q = c * ((q : Int) - 1) ^ k
  | 0 => by rw [h]; simp
  | k + 1 => by rw [tot_succ, tot_pow q last c h k, Int.pow_succ, Int.mul_comm, Int.mul_assoc]
theorem tot_line (q : Nat) : totF (waysV q (-1) 0) q = q := by
  have : ∀ b : Nat, totF (waysV q (-1) 0) b = b := by
    intro b
    induction b with
    | zero => rfl
    | succ b ih => rw [totF, ih, waysV, if_neg (by omega)]; omega
  exact this q
theorem tot_around (q t : Nat) (h : t < q) : totF (waysV q t 0) q = (q : Int) - 1 := by
  have e : ∀ b : Nat, totF (waysV q t 0) b = if t < b then (b : Int) - 1 else b := by
    intro b
    induction b with
    | zero => rfl
    | succ b ih =>
      rw [totF, ih, waysV]
      by_cases e : b = t
      · subst e; rw [if_pos rfl, if_neg (show ¬ b < b by omega), if_pos (by omega)]; omega
      · rw [if_neg (show ¬ ((b : Int) = (t : Int)) by omega)]
        by_cases l : t < b
        · rw [if_pos l, if_pos (by omega)]; omega
        · rw [if_neg l, if_neg (by omega)]; omega
  rw [e q, if_pos h]

/-- how many proper fences in a line -/
def lineV (q : Nat) (n : Nat) : Int := q * ((q : Int) - 1) ^ (n - 1)
def altV (q : Nat) : Nat → Int
  | 0 => 0
  | m + 1 => ((q : Int) - 1) ^ (m + 1) - altV q m
/-- how many around -/
def ringV (q : Nat) (n : Nat) : Int := q * altV q (n - 1)

theorem ends_line (q k : Nat) : endsV q (-1) (-1) k = lineV q (k + 1) := by
  unfold endsV lineV
  rw [sumTo_neg _ _ (by omega), tot_pow q (-1) q (tot_line q)]; rfl
theorem ways_own (q t : Nat) (h : t < q) : ∀ k, waysV q t k t = altV q k
  | 0 => by rw [waysV, if_pos rfl]; rfl
  | k + 1 => by
    rw [ways_succ q t k t h, ways_own q t h k, altV, tot_pow q t ((q : Int) - 1) (tot_around q t h), Int.pow_succ, Int.mul_comm]
theorem ends_ring (q t k : Nat) (h : t < q) : endsV q t t k = altV q (k + 1) := by
  unfold endsV
  rw [sumTo_in _ t q h, tot_pow q t ((q : Int) - 1) (tot_around q t h), ways_own q t h k, altV, Int.pow_succ, Int.mul_comm]
theorem ring_step (q m : Nat) (h : 1 ≤ m) : ringV q (m + 1) = lineV q (m + 1) - ringV q m := by
  obtain ⟨j, rfl⟩ : ∃ j, m = j + 1 := ⟨m - 1, by omega⟩
  unfold ringV lineV
  show (q : Int) * altV q (j + 1) = _ * _ ^ (j + 1) - _ * altV q j
  rw [altV, Int.mul_sub]

/-! bounds -/
theorem sumTo_bd {F : Nat → Int} {M : Int} (hM : 0 ≤ M) (x : Int) : ∀ b, (∀ i, i < b → 0 ≤ F i ∧ F i ≤ M) → 0 ≤ sumTo F x b ∧ sumTo F x b ≤ b * M
  | 0, _ => by simp [sumTo]
  | b + 1, h => by
    have ih := sumTo_bd hM x b fun i hi => h i (by omega)
    have hb := h b (by omega)
    rw [sumTo]
    have e : ((b + 1 : Nat) : Int) * M = b * M + M := by rw [Int.natCast_add, Int.add_mul]; simp
    split <;> omega
theorem ways_bd (q : Nat) (hq : q ≤ 5) (last : Int) : ∀ k t, 0 ≤ waysV q last k t ∧ waysV q last k t ≤ 5 ^ k
  | 0, t => by rw [waysV]; split <;> simp
  | k + 1, t => by
    rw [waysV]
    obtain ⟨a, b⟩ := sumTo_bd (M := 5 ^ k) (Int.pow_nonneg (by omega)) t q fun i _ => ways_bd q hq last k i
    refine ⟨a, Int.le_trans b ?_⟩
    rw [Int.pow_succ, Int.mul_comm]
    exact Int.mul_le_mul_of_nonneg_left (by omega) (Int.pow_nonneg (by omega))
theorem pow5_le {k : Nat} (h : k ≤ 20) : (5 : Int) ^ k ≤ 95367431640625 := by
  have : ∀ j : Fin 21, (5 : Int) ^ j.val ≤ 95367431640625 := by decide +kernel
  exact this ⟨k, by omega⟩
theorem ways_bd' (q : Nat) (hq : q ≤ 5) (last : Int) (k t : Nat) (h : k ≤ 20) : 0 ≤ waysV q last k t ∧ waysV q last k t ≤ 95367431640625 := by
  obtain ⟨a, b⟩ := ways_bd q hq last k t
  exact ⟨a, Int.le_trans b (pow5_le h)⟩
theorem sumTo_bd' (q : Nat) (hq : q ≤ 5) (last x : Int) (k b : Nat) (h : k ≤ 20) (hb : b ≤ 5) : 0 ≤ sumTo (waysV q last k) x b ∧ sumTo (waysV q last k) x b ≤ 476837158203125 := by
  obtain ⟨p, r⟩ := sumTo_bd (M := 95367431640625) (by omega) x b fun i _ => ways_bd' q hq last k i h
  refine ⟨p, Int.le_trans r ?_⟩
  omega
end Go.Proofs.Ytcloemgaaaokgaa
