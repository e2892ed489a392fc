/- First shares: plain arithmetic. No condition. -/
import Derived.Test.YteiaidjknnbpjaaHandMath
namespace Go.Proofs.Yteiaidjknnbpjaa

/-- painters with rates can paint the boards, side by side, in m minutes -/
def feas (m : Int) : List Int → List Int → Prop
  | W, [] => W = []
  | W, r :: R => ∃ n, n ≤ W.length ∧ r * (W.take n).sum ≤ m ∧ feas m (W.drop n) R
theorem feas_iff {m : Int} : ∀ {R W : List Int}, R ≠ [] → (leastT W R ≤ m ↔ feas m W R)
  | [], _, h => absurd rfl h
  | [r], W, _ => by
    rw [leastT]
    constructor
    · intro h; exact ⟨W.length, Nat.le_refl _, by rw [List.take_length]; exact h, List.drop_length⟩
    · rintro ⟨n, hn, h1, h2⟩
      have : n = W.length := by have := List.drop_eq_nil_iff.1 h2; omega
      subst this
      rw [List.take_length] at h1
      exact h1
  | r :: s :: R, W, _ => by
    rw [leastT_two]
    constructor
    · rintro ⟨n, hn, h1, h2⟩; exact ⟨n, hn, h1, (feas_iff (by simp)).1 h2⟩
    · rintro ⟨n, hn, h1, h2⟩; exact ⟨n, hn, h1, (feas_iff (by simp)).2 h2⟩
theorem feas_append {m : Int} : ∀ {R1 R2 W : List Int}, feas m W (R1 ++ R2) ↔ ∃ n, n ≤ W.length ∧ feas m (W.take n) R1 ∧ feas m (W.drop n) R2
  | [], R2, W => by
    constructor
    · intro h; exact ⟨0, Nat.zero_le _, rfl, h⟩
    · rintro ⟨n, hn, h1, h2⟩
      have h1 : W.take n = [] := h1
      have h3 := congrArg List.length h1
      rw [List.length_take, List.length_nil] at h3
      have : n = 0 := by omega
      subst this
      exact h2
  | r :: R1, R2, W => by
    constructor
    · rintro ⟨k, hk, h1, h2⟩
      obtain ⟨n, hn, h3, h4⟩ := feas_append.1 h2
      rw [List.length_drop] at hn
      refine ⟨k + n, by omega, ⟨k, by rw [List.length_take]; omega, by rw [List.take_take, Nat.min_eq_left (by omega)]; exact h1, ?_⟩, by rw [List.drop_drop] at h4; exact h4⟩
      rw [List.drop_take, show k + n - k = n by omega]
      exact h3
    · rintro ⟨n, hn, ⟨k, hk, h1, h2⟩, h3⟩
      rw [List.length_take] at hk
      rw [List.take_take, Nat.min_eq_left (by omega)] at h1
      rw [List.drop_take] at h2
      refine ⟨k, by omega, h1, feas_append.2 ⟨n - k, by rw [List.length_drop]; omega, h2, ?_⟩⟩
      rw [List.drop_drop, show k + (n - k) = n by omega]
      exact h3
theorem sum_reverse (W : List Int) : W.reverse.sum = W.sum := by
  induction W with
  | nil => rfl
  | cons x W ih => rw [List.reverse_cons, List.sum_append, ih, List.sum_cons]; simp; omega
theorem feas_one {m r : Int} {W : List Int} : feas m W [r] ↔ r * W.sum ≤ m := by
  rw [← feas_iff (by simp), leastT]
theorem feas_reverse {m : Int} : ∀ {R W : List Int}, feas m W R → feas m W.reverse R.reverse
  | [], W, h => by
    have h : W = [] := h
    subst h; rfl
  | r :: R, W, ⟨n, hn, h1, h2⟩ => by
    rw [List.reverse_cons]
    refine feas_append.2 ⟨W.length - n, by rw [List.length_reverse]; omega, ?_, ?_⟩
    · have := feas_reverse h2
      rw [List.take_reverse, show W.length - (W.length - n) = n by omega]
      exact this
    · rw [feas_one, List.drop_reverse, sum_reverse, show W.length - (W.length - n) = n by omega]
      exact h1
theorem feas_rev_iff {m : Int} {R W : List Int} : feas m W.reverse R.reverse ↔ feas m W R := by
  constructor
  · intro h
    have := feas_reverse h
    rwa [List.reverse_reverse, List.reverse_reverse] at this
  · exact feas_reverse
theorem feas_left {m : Int} (hm : 0 ≤ m) {R W : List Int} (hR : Pos R) (hW : Pos W) : feas m W R ↔ leftG W (capsOf R m) = [] := by
  rcases R with _ | ⟨r, R⟩
  · exact Iff.rfl
  · rw [← feas_iff (by simp)]
    exact least_iff hR (by simp) hW m hm
/-- what fits of a beginning -/
theorem fitN_take : ∀ (W : List Int) (c : Int) (q : Nat), fitN c (W.take q) = min (fitN c W) q
  | [], c, q => by simp [fitN]
  | x :: W, c, 0 => by simp [fitN]
  | x :: W, c, q + 1 => by
    rw [List.take_succ_cons]
    unfold fitN
    split
    · rw [fitN_take W (c - x) q]; omega
    · omega
theorem left_take : ∀ (C W : List Int) (q : Nat), q ≤ W.length → (leftG (W.take q) C = [] ↔ q ≤ (takenG W C).sum)
  | [], W, q, hq => by
    show W.take q = [] ↔ q ≤ 0
    constructor
    · intro h
      have := congrArg List.length h
      rw [List.length_take, List.length_nil] at this
      omega
    · intro h
      obtain rfl : q = 0 := by omega
      rfl
  | c :: C, W, q, hq => by
    rw [leftG, takenG, List.sum_cons, fitN_take]
    by_cases h : q ≤ fitN c W
    · rw [Nat.min_eq_right h, List.drop_of_length_le (by rw [List.length_take]; omega)]
      have : ∀ C : List Int, leftG [] C = [] := by
        intro C
        induction C with
        | nil => rfl
        | cons c C ih => rw [leftG, List.drop_nil, ih]
      rw [this]
      exact ⟨fun _ => by omega, fun _ => rfl⟩
    · rw [Nat.min_eq_left (by omega), List.drop_take, left_take C _ _ (by rw [List.length_drop]; omega)]
      omega
theorem taken_take : ∀ (C W : List Int), takenG (W.take (takenG W C).sum) C = takenG W C
  | [], _ => rfl
  | c :: C, W => by
    have e : takenG W (c :: C) = fitN c W :: takenG (W.drop (fitN c W)) C := rfl
    rw [e, List.sum_cons, takenG, fitN_take, Nat.min_eq_left (by omega), List.drop_take, show fitN c W + (takenG (W.drop (fitN c W)) C).sum - fitN c W = (takenG (W.drop (fitN c W)) C).sum by omega, taken_take C]
theorem taken_snoc : ∀ (C W : List Int) (c : Int), takenG W (C ++ [c]) = takenG W C ++ [fitN c (leftG W C)]
  | [], W, c => rfl
  | d :: C, W, c => by
    show fitN d W :: takenG (W.drop (fitN d W)) (C ++ [c]) = _
    rw [taken_snoc C]
    rfl
/-- the share that the program hands out from the right -/
def backS (m : Int) (W R : List Int) : List Nat := (takenG W.reverse (capsOf R.reverse m)).reverse
theorem backS_len (m : Int) (W R : List Int) : (backS m W R).length = R.length := by unfold backS; rw [List.length_reverse, takenG_len]; simp [capsOf]
theorem caps_append (R S : List Int) (m : Int) : capsOf (R ++ S) m = capsOf R m ++ capsOf S m := by unfold capsOf; rw [List.map_append]
theorem Pos.reverse {W : List Int} (h : Pos W) : Pos W.reverse := fun x hx => h x (List.mem_reverse.1 hx)
theorem backS_one {m r : Int} {W : List Int} (hm : 0 ≤ m) (hr : 1 ≤ r) (hW : Pos W) (h : feas m W [r]) : backS m W [r] = [W.length] := by
  rw [feas_one, mul_le_iff hr] at h
  have h2 := (fitN_iff hW.reverse (m / r) W.length (Int.ediv_nonneg hm (by omega)) (by rw [List.length_reverse]; exact Nat.le_refl _)).1
    (by rw [List.take_of_length_le (by rw [List.length_reverse]; exact Nat.le_refl _), sum_reverse]; exact h)
  have h3 := fitN_le (m / r) W.reverse
  rw [List.length_reverse] at h3
  show [fitN (m / r) W.reverse].reverse = _
  rw [show fitN (m / r) W.reverse = W.length by omega]
  rfl
/-- the first painter gets just as many as the others can't -/
theorem backS_cons {m r : Int} {R W : List Int} (hm : 0 ≤ m) (hr : 1 ≤ r) (hR : Pos R) (hW : Pos W) (h : feas m W (r :: R)) :
    ∃ n, backS m W (r :: R) = n :: backS m (W.drop n) R ∧ n ≤ W.length ∧ r * (W.take n).sum ≤ m ∧ feas m (W.drop n) R ∧ ∀ k, k < n → ¬ feas m (W.drop k) R := by
  obtain ⟨t, ht⟩ : ∃ t, t = (takenG W.reverse (capsOf R.reverse m)).sum := ⟨_, rfl⟩
  have htl := takenG_sum_le (capsOf R.reverse m) W.reverse
  rw [List.length_reverse, ← ht] at htl
  have key : ∀ k, k ≤ W.length → (feas m (W.drop k) R ↔ W.length - k ≤ t) := by
    intro k hk
    rw [← feas_rev_iff, feas_left hm hR.reverse (hW.drop k).reverse, List.reverse_drop, ht]
    exact left_take _ _ _ (by rw [List.length_reverse]; omega)
  obtain ⟨j, hj, h1, h2⟩ := h
  have hjt := (key j hj).1 h2
  have hsum : r * (W.take (W.length - t)).sum ≤ m := by
    have e : (W.take j).sum = (W.take (W.length - t)).sum + ((W.drop (W.length - t)).take (j - (W.length - t))).sum := by
      rw [← List.sum_append]
      congr 1
      rw [← List.take_append_drop (W.length - t) (W.take j), List.take_take, Nat.min_eq_left (by omega), List.drop_take]
    have h0 := ((hW.drop (W.length - t)).take (j - (W.length - t))).sum
    have : r * (W.take (W.length - t)).sum ≤ r * (W.take j).sum := Int.mul_le_mul_of_nonneg_left (by omega) (by omega)
    omega
  refine ⟨W.length - t, ?_, by omega, hsum, (key _ (by omega)).2 (by omega), fun k hk hf => by have := (key k (by omega)).1 hf; omega⟩
  have hl : leftG W.reverse (capsOf R.reverse m) = (W.take (W.length - t)).reverse := by
    rw [leftG_eq, ← ht, List.drop_reverse]
  have hfit : fitN (m / r) (W.take (W.length - t)).reverse = W.length - t := by
    have h3 := fitN_le (m / r) (W.take (W.length - t)).reverse
    rw [List.length_reverse, List.length_take] at h3
    have h4 := (fitN_iff (hW.take (W.length - t)).reverse (m / r) (W.length - t) (Int.ediv_nonneg hm (by omega)) (by rw [List.length_reverse, List.length_take]; omega)).1
      (by rw [List.take_of_length_le (by rw [List.length_reverse, List.length_take]; omega), sum_reverse]; exact (mul_le_iff hr).1 hsum)
    omega
  unfold backS
  rw [List.reverse_cons, caps_append]
  show (takenG W.reverse (capsOf R.reverse m ++ [m / r])).reverse = _
  rw [taken_snoc, List.reverse_append, hl, hfit]
  show (W.length - t) :: _ = _
  congr 2
  rw [List.reverse_drop, show W.length - (W.length - t) = t by omega, ht]
  exact congrArg List.reverse (taken_take (capsOf R.reverse m) W.reverse).symm
theorem backS_sum {m : Int} {R W : List Int} (hm : 0 ≤ m) (hR : Pos R) (hW : Pos W) (h : feas m W R) : (backS m W R).sum = W.length := by
  have h2 := (feas_left hm hR.reverse hW.reverse).1 (feas_reverse h)
  rw [leftG_eq, List.drop_eq_nil_iff, List.length_reverse] at h2
  have h3 := takenG_sum_le (capsOf R.reverse m) W.reverse
  rw [List.length_reverse] at h3
  unfold backS
  rw [List.sum_reverse]
  omega
end Go.Proofs.Yteiaidjknnbpjaa
