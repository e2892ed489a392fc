/- Shares that take the least time: plain arithmetic. No condition. -/
import Derived.Test.YteiaidjknnbpjaaCut
namespace Go.Proofs.Yteiaidjknnbpjaa

/-- how many boards from the left on one painter can paint who works no more than c -/
def fitN (c : Int) : List Int → Nat
  | [] => 0
  | x :: W => if x ≤ c then fitN (c - x) W + 1 else 0
theorem fitN_le (c : Int) : ∀ W : List Int, fitN c W ≤ W.length := by
  intro W
  induction W generalizing c with
  | nil => exact Nat.le_refl _
  | cons x W ih =>
    unfold fitN
    split
    · have := ih (c - x); rw [List.length_cons]; omega
    · exact Nat.zero_le _
/-- widths that are positive -/
def Pos (W : List Int) : Prop := ∀ x ∈ W, 1 ≤ x
theorem Pos.tail {x : Int} {W : List Int} (h : Pos (x :: W)) : Pos W := fun y hy => h y (List.mem_cons_of_mem _ hy)
theorem Pos.drop {W : List Int} (h : Pos W) (n : Nat) : Pos (W.drop n) := fun y hy => h y (List.mem_of_mem_drop hy)
theorem Pos.take {W : List Int} (h : Pos W) (n : Nat) : Pos (W.take n) := fun y hy => h y (List.mem_of_mem_take hy)
theorem Pos.sum {W : List Int} (h : Pos W) : 0 ≤ W.sum := by
  induction W with
  | nil => exact Int.le_refl _
  | cons x W ih => have := h x (List.mem_cons_self ..); have := ih h.tail; rw [List.sum_cons]; omega
theorem fitN_iff {W : List Int} (h : Pos W) : ∀ (c : Int) (n : Nat), 0 ≤ c → n ≤ W.length → ((W.take n).sum ≤ c ↔ n ≤ fitN c W) := by
  induction W with
  | nil => intro c n hc hn; simp at hn; subst hn; simp [fitN, hc]
  | cons x W ih =>
    intro c n hc hn
    have hx := h x (List.mem_cons_self ..)
    match n with
    | 0 => simp [hc]
    | n + 1 =>
      rw [List.take_succ_cons, List.sum_cons]
      unfold fitN
      by_cases hxc : x ≤ c
      · rw [if_pos hxc]
        have := ih h.tail (c - x) n (by omega) (by simpa using hn)
        constructor
        · intro hs; have := this.1 (by omega); omega
        · intro hs; have := this.2 (by omega); omega
      · rw [if_neg hxc]
        constructor
        · intro hs; have := (h.tail.take n).sum; omega
        · intro hs; omega

/-- the least time that painters with rates need for boards: the last one paints all that is left -/
def leastT : List Int → List Int → Int
  | _, [] => 0
  | W, [r] => r * W.sum
  | W, r :: s :: R => ((List.range (W.length + 1)).map fun n => max (r * (W.take n).sum) (leastT (W.drop n) (s :: R))).foldl min (max (r * 0) (leastT W (s :: R)))
theorem foldl_min_le (l : List Int) : ∀ (a m : Int), l.foldl min a ≤ m ↔ a ≤ m ∨ ∃ x ∈ l, x ≤ m := by
  induction l with
  | nil => intro a m; simp
  | cons z l ih =>
    intro a m
    rw [List.foldl_cons, ih]
    constructor
    · rintro (h | ⟨x, hx, h⟩)
      · by_cases ha : a ≤ m
        · exact .inl ha
        · exact .inr ⟨z, List.mem_cons_self .., by omega⟩
      · exact .inr ⟨x, List.mem_cons_of_mem _ hx, h⟩
    · rintro (h | ⟨x, hx, h⟩)
      · exact .inl (by omega)
      · rcases List.mem_cons.1 hx with rfl | hx
        · exact .inl (by omega)
        · exact .inr ⟨x, hx, h⟩
theorem leastT_two (W : List Int) (r s : Int) (R : List Int) (m : Int) :
    leastT W (r :: s :: R) ≤ m ↔ ∃ n, n ≤ W.length ∧ r * (W.take n).sum ≤ m ∧ leastT (W.drop n) (s :: R) ≤ m := by
  rw [leastT, foldl_min_le]
  constructor
  · rintro (h | ⟨x, hx, h⟩)
    · exact ⟨0, Nat.zero_le _, by rw [List.take_zero, List.sum_nil]; omega, by rw [List.drop_zero]; omega⟩
    · obtain ⟨n, hn, rfl⟩ := List.mem_map.1 hx
      exact ⟨n, by have := List.mem_range.1 hn; omega, by omega, by omega⟩
  · rintro ⟨n, hn, h1, h2⟩
    exact .inr ⟨_, List.mem_map.2 ⟨n, List.mem_range.2 (by omega), rfl⟩, by omega⟩
/-- rates that are positive -/
theorem leastT_mono {R : List Int} (hR : Pos R) : ∀ {W : List Int}, Pos W → ∀ (n : Nat) (m : Int), leastT W R ≤ m → leastT (W.drop n) R ≤ m := by
  induction R with
  | nil => intro W _ n m h; exact h
  | cons r R ih =>
    intro W hW n m h
    have hr := hR r (List.mem_cons_self ..)
    match R, ih with
    | [], _ =>
      rw [leastT] at h ⊢
      have e : W.sum = (W.take n).sum + (W.drop n).sum := by rw [← List.sum_append, List.take_append_drop]
      have h0 := (hW.take n).sum
      have : r * (W.drop n).sum ≤ r * W.sum := Int.mul_le_mul_of_nonneg_left (by omega) (by omega)
      omega
    | s :: R, ih =>
      rw [leastT_two] at h ⊢
      obtain ⟨k, hk, h1, h2⟩ := h
      by_cases hnk : n ≤ k
      · refine ⟨k - n, by rw [List.length_drop]; omega, ?_, ?_⟩
        · have e : (W.take k).sum = (W.take n).sum + ((W.drop n).take (k - n)).sum := by
            rw [← List.sum_append]
            congr 1
            rw [← List.take_append_drop n (W.take k), List.take_take, Nat.min_eq_left hnk, List.drop_take]
          have h0 := (hW.take n).sum
          have : r * ((W.drop n).take (k - n)).sum ≤ r * (W.take k).sum := Int.mul_le_mul_of_nonneg_left (by omega) (by omega)
          omega
        · rw [List.drop_drop, show n + (k - n) = k by omega]; exact h2
      · refine ⟨0, Nat.zero_le _, ?_, ?_⟩
        · rw [List.take_zero, List.sum_nil]
          have : 0 ≤ r * (W.take k).sum := Int.mul_nonneg (by omega) (hW.take k).sum
          omega
        · rw [List.drop_zero]
          have := ih hR.tail (hW.drop k) (n - k) m h2
          rw [List.drop_drop, show k + (n - k) = n by omega] at this
          exact this

/-- each painter in turn takes as many boards as it can: what is left -/
def leftG : List Int → List Int → List Int
  | W, [] => W
  | W, c :: C => leftG (W.drop (fitN c W)) C
/-- and what each one has taken -/
def takenG : List Int → List Int → List Nat
  | _, [] => []
  | W, c :: C => fitN c W :: takenG (W.drop (fitN c W)) C
theorem takenG_len : ∀ (C W : List Int), (takenG W C).length = C.length
  | [], _ => rfl
  | c :: C, W => by rw [takenG, List.length_cons, takenG_len C, List.length_cons]
theorem leftG_eq : ∀ (C W : List Int), leftG W C = W.drop (takenG W C).sum
  | [], W => rfl
  | c :: C, W => by rw [leftG, leftG_eq C, takenG, List.sum_cons, List.drop_drop]
theorem takenG_sum_le : ∀ (C W : List Int), (takenG W C).sum ≤ W.length
  | [], W => Nat.zero_le _
  | c :: C, W => by
    have h1 := fitN_le c W
    have h2 := takenG_sum_le C (W.drop (fitN c W))
    rw [List.length_drop] at h2
    rw [takenG, List.sum_cons]
    omega
/-- what they can work in so many minutes -/
def capsOf (R : List Int) (m : Int) : List Int := R.map fun r => m / r
theorem mul_le_iff {r s m : Int} (hr : 1 ≤ r) : r * s ≤ m ↔ s ≤ m / r := by
  rw [Int.le_ediv_iff_mul_le (by omega), Int.mul_comm]
/-- the least time is at most m just if nothing is left where all take as much as they can in m minutes -/
theorem least_iff {R : List Int} (hR : Pos R) (hne : R ≠ []) : ∀ {W : List Int}, Pos W → ∀ (m : Int), 0 ≤ m → (leastT W R ≤ m ↔ leftG W (capsOf R m) = []) := by
  induction R with
  | nil => exact absurd rfl hne
  | cons r R ih =>
    intro W hW m hm
    have hr := hR r (List.mem_cons_self ..)
    have hc : 0 ≤ m / r := Int.ediv_nonneg hm (by omega)
    match R, ih with
    | [], _ =>
      rw [leastT, mul_le_iff hr]
      show _ ↔ leftG (W.drop (fitN (m / r) W)) [] = []
      rw [leftG, List.drop_eq_nil_iff]
      have := fitN_iff hW (m / r) W.length hc (Nat.le_refl _)
      rwa [List.take_length] at this
    | s :: R, ih =>
      rw [leastT_two]
      show _ ↔ leftG (W.drop (fitN (m / r) W)) (capsOf (s :: R) m) = []
      rw [← ih hR.tail (by simp) (hW.drop _) m hm]
      constructor
      · rintro ⟨n, hn, h1, h2⟩
        rw [mul_le_iff hr, fitN_iff hW _ n hc hn] at h1
        have := leastT_mono hR.tail (hW.drop n) (fitN (m / r) W - n) m h2
        rw [List.drop_drop, show n + (fitN (m / r) W - n) = fitN (m / r) W by omega] at this
        exact this
      · intro h
        have hf := fitN_le (m / r) W
        exact ⟨fitN (m / r) W, hf, by rw [mul_le_iff hr, fitN_iff hW _ _ hc hf]; exact Nat.le_refl _, h⟩
theorem leastT_nonneg {R : List Int} (hR : Pos R) : ∀ {W : List Int}, Pos W → 0 ≤ leastT W R := by
  induction R with
  | nil => intro W _; exact Int.le_refl _
  | cons r R ih =>
    intro W hW
    have hr := hR r (List.mem_cons_self ..)
    match R, ih with
    | [], _ => rw [leastT]; exact Int.mul_nonneg (by omega) hW.sum
    | s :: R, ih =>
      by_cases h : 0 ≤ leastT W (r :: s :: R)
      · exact h
      · have h2 : leastT W (r :: s :: R) ≤ -1 := by omega
        rw [leastT_two] at h2
        obtain ⟨n, _, _, h3⟩ := h2
        have := ih hR.tail (hW.drop n)
        omega
theorem leastT_le {R : List Int} {r : Int} (hne : R ≠ []) : ∀ {W : List Int}, Pos W → Pos R → (∀ x ∈ R, x ≤ r) → leastT W R ≤ r * W.sum := by
  induction R with
  | nil => exact absurd rfl hne
  | cons x R ih =>
    intro W hW hR hx
    have h1 := hx x (List.mem_cons_self ..)
    have h0 := hR x (List.mem_cons_self ..)
    match R, ih with
    | [], _ => rw [leastT]; exact Int.mul_le_mul_of_nonneg_right h1 hW.sum
    | s :: R, ih =>
      rw [leastT_two]
      refine ⟨W.length, Nat.le_refl _, by rw [List.take_length]; exact Int.mul_le_mul_of_nonneg_right h1 hW.sum, ?_⟩
      rw [List.drop_length]
      have := ih (by simp) (W := []) (fun _ h => nomatch h) hR.tail (fun y hy => hx y (List.mem_cons_of_mem _ hy))
      rw [List.sum_nil, Int.mul_zero] at this
      have : 0 ≤ r * W.sum := Int.mul_nonneg (by omega) hW.sum
      omega
end Go.Proofs.Yteiaidjknnbpjaa
