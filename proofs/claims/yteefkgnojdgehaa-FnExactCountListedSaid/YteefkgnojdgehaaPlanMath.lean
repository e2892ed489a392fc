/- The plan: the tallies of all boards in a line. Pure. -/
import Derived.Test.YteefkgnojdgehaaTalBeside
import Derived.Test.YteefkgnojdgehaaCstMap
namespace Go.Proofs.Yteefkgnojdgehaa

/-- the tallies of the last d boards of n -/
def tT (B : Nat → Nat → Option Int) (n : Nat) : Nat → Nat → Option (Int × Int)
  | 0 => fun _ => none
  | d + 1 => fun k => match B (n - 1 - d) k with
    | none => none
    | some c => if 0 < (if d = 0 then ((1, 0) : Int × Int) else besT (tT B n d) k).1 then some ((if d = 0 then ((1, 0) : Int × Int) else besT (tT B n d) k).1, (if d = 0 then ((1, 0) : Int × Int) else besT (tT B n d) k).2 + c) else none
def rst (B : Nat → Nat → Option Int) (n d k : Nat) : Int × Int := if d = 0 then (1, 0) else besT (tT B n d) k
theorem tT_none {B : Nat → Nat → Option Int} {n d k : Nat} (h : B (n - 1 - d) k = none) : tT B n (d + 1) k = none := by
  show (match B (n - 1 - d) k with | none => none | some c => _) = none
  rw [h]
theorem tT_some {B : Nat → Nat → Option Int} {n d k : Nat} {c : Int} (h : B (n - 1 - d) k = some c) : tT B n (d + 1) k = if 0 < (rst B n d k).1 then some ((rst B n d k).1, (rst B n d k).2 + c) else none := by
  show (match B (n - 1 - d) k with | none => none | some c => _) = _
  rw [h]
  rfl
/-- costs as the program has them -/
def costly (B : Nat → Nat → Option Int) : Prop := ∀ j k v, B j k = some v → k ∈ keys5 ∧ 0 ≤ v ∧ v ≤ 100
theorem fol_le {f : Nat → Option (Int × Int)} {W C : Int} (hW : 0 ≤ W) (hC : 0 ≤ C) (h : ∀ k v, f k = some v → (0 < v.1 ∧ v.1 ≤ W) ∧ 0 ≤ v.2 ∧ v.2 ≤ C) : ∀ l : List Nat, 0 ≤ (fol f l).1 ∧ (fol f l).1 ≤ l.length * W ∧ 0 ≤ (fol f l).2 ∧ (fol f l).2 ≤ C
  | [] => by unfold fol; refine ⟨?_, ?_, ?_, ?_⟩ <;> simp <;> omega
  | k :: l => by
    obtain ⟨i1, i2, i3, i4⟩ := fol_le hW hC h l
    have hb : (0 ≤ ((f k).getD (0, 0)).1 ∧ ((f k).getD (0, 0)).1 ≤ W) ∧ 0 ≤ ((f k).getD (0, 0)).2 ∧ ((f k).getD (0, 0)).2 ≤ C := by
      cases hk : f k with
      | none => simp; omega
      | some v => have := h k v hk; simp only [Option.getD_some]; omega
    obtain ⟨p, hp⟩ : ∃ p, p = (f k).getD (0, 0) := ⟨_, rfl⟩
    show 0 ≤ (cmb ((f k).getD (0, 0)) (fol f l)).1 ∧ (cmb ((f k).getD (0, 0)) (fol f l)).1 ≤ ((l.length + 1 : Nat) : Int) * W ∧ 0 ≤ (cmb ((f k).getD (0, 0)) (fol f l)).2 ∧ (cmb ((f k).getD (0, 0)) (fol f l)).2 ≤ C
    rw [← hp] at hb ⊢
    obtain ⟨X, hX⟩ : ∃ X : Int, X = (l.length : Int) * W := ⟨_, rfl⟩
    have e : ((l.length + 1 : Nat) : Int) * W = X + W := by rw [hX, Int.natCast_add, Int.add_mul]; simp
    have hX0 : 0 ≤ X := by rw [hX]; exact Int.mul_nonneg (by omega) hW
    rw [e]
    rw [← hX] at i2
    unfold cmb
    split
    · omega
    · split
      · omega
      · split
        · omega
        · split
          · refine ⟨?_, ?_, ?_, ?_⟩ <;> simp only <;> omega
          · omega
theorem besT_le {f : Nat → Option (Int × Int)} {W C : Int} (hW : 0 ≤ W) (hC : 0 ≤ C) (h : ∀ k v, f k = some v → (0 < v.1 ∧ v.1 ≤ W) ∧ 0 ≤ v.2 ∧ v.2 ≤ C) (t : Nat) : 0 ≤ (besT f t).1 ∧ (besT f t).1 ≤ 5 * W ∧ 0 ≤ (besT f t).2 ∧ (besT f t).2 ≤ C := by
  refine fol_le hW hC (fun k v hk => ?_) keys5
  unfold wo at hk
  split at hk
  · cases hk
  · exact h k v hk
theorem tT_bd {B : Nat → Nat → Option Int} (hB : costly B) (n : Nat) : ∀ d k v, tT B n d k = some v → k ∈ keys5 ∧ (0 < v.1 ∧ v.1 ≤ 5 ^ d) ∧ 0 ≤ v.2 ∧ v.2 ≤ 100 * d
  | 0, k, v, h => by cases h
  | d + 1, k, v, h => by
    have ih := tT_bd hB n d
    cases hc : B (n - 1 - d) k with
    | none => rw [tT_none hc] at h; cases h
    | some c =>
      obtain ⟨q1, q2, q3⟩ := hB _ _ _ hc
      rw [tT_some hc] at h
      have hr : (rst B n d k).1 ≤ 5 ^ (d + 1) ∧ 0 ≤ (rst B n d k).2 ∧ (rst B n d k).2 ≤ 100 * d := by
        unfold rst
        split
        · next hd => subst hd; refine ⟨?_, ?_, ?_⟩ <;> simp
        · have := besT_le (W := 5 ^ d) (C := 100 * d) (Int.le_of_lt (Int.pow_pos (by decide))) (by omega) (fun k v hv => (ih k v hv).2) k
          rw [Int.pow_succ]
          omega
      split at h
      · next h0 =>
        injection h with h
        subst h
        refine ⟨q1, ⟨h0, hr.1⟩, ?_, ?_⟩ <;> simp only <;> omega
      · cases h
theorem pow5_le {d : Nat} (h : d ≤ 20) : (5 : Int) ^ d ≤ 100000000000000 := by
  have : (5 : Nat) ^ d ≤ 5 ^ 20 := Nat.pow_le_pow_right (by decide) h
  have e : ((5 ^ d : Nat) : Int) = (5 : Int) ^ d := by simp
  rw [← e]
  have e2 : (5 : Nat) ^ 20 = 95367431640625 := by decide
  omega
theorem tT_neat {B : Nat → Nat → Option Int} (hB : costly B) (n d : Nat) (hd : d ≤ 20) : Neat (tT B n d) := by
  have p := pow5_le hd
  refine ⟨fun k v h => (tT_bd hB n d k v h).1, fun k v h => ?_, fun k v h => ?_⟩
  · have := (tT_bd hB n d k v h).2.1
    omega
  · have := (tT_bd hB n d k v h).2.2
    omega
theorem rst_bd {B : Nat → Nat → Option Int} (hB : costly B) (n d k : Nat) (hd : d ≤ 20) : 0 ≤ (rst B n d k).1 ∧ (rst B n d k).1 ≤ 1000000000000000 ∧ 0 ≤ (rst B n d k).2 ∧ (rst B n d k).2 ≤ 2000 := by
  unfold rst
  split
  · refine ⟨?_, ?_, ?_, ?_⟩ <;> simp
  · have p := pow5_le hd
    have := besT_le (W := 5 ^ d) (C := 100 * d) (Int.le_of_lt (Int.pow_pos (by decide))) (by omega) (fun k v hv => (tT_bd hB n d k v hv).2) k
    omega
/-- how many colours have been seen -/
def seenN (left : Nat → Bool) : Nat := (keys5.filter fun z => !left z).length
theorem seenN_le (left : Nat → Bool) : seenN left ≤ 5 := by
  have := List.length_filter_le (fun z => !left z) keys5
  exact this
theorem seenN_step {left : Nat → Bool} {k : Nat} (hk : left k = true) (hm : k ∈ keys5) : seenN (fun z => left z && !decide (z = k)) = seenN left + 1 := by
  unfold keys5 at hm
  simp only [List.mem_cons, List.not_mem_nil, or_false] at hm
  unfold seenN keys5
  rcases hm with rfl | rfl | rfl | rfl | rfl <;> simp [List.filter_cons, hk] <;> (repeat' split) <;> simp_all
end Go.Proofs.Yteefkgnojdgehaa
