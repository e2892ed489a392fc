/- Boards whose tints cost nothing: the tallies count the ways. Pure. -/
import Derived.Test.YteefkgnojdgehaaPlanMath
namespace Go.Proofs.Yteefkgnojdgehaa

def sumL (g : Nat → Int) : List Nat → Int
  | [] => 0
  | z :: l => g z + sumL g l
theorem sumL_congr {g h : Nat → Int} : ∀ {l : List Nat}, (∀ z ∈ l, g z = h z) → sumL g l = sumL h l
  | [], _ => rfl
  | z :: l, e => by
    show g z + sumL g l = h z + sumL h l
    rw [e z (List.mem_cons_self ..), sumL_congr fun x hx => e x (List.mem_cons_of_mem _ hx)]
theorem sumL_append (g : Nat → Int) : ∀ (a b : List Nat), sumL g (a ++ b) = sumL g a + sumL g b
  | [], b => by show sumL g b = 0 + sumL g b; omega
  | z :: a, b => by
    show g z + sumL g (a ++ b) = g z + sumL g a + sumL g b
    rw [sumL_append g a b]; omega
theorem sumL_zero : ∀ l : List Nat, sumL (fun _ => 0) l = 0
  | [] => rfl
  | _ :: l => by show 0 + sumL (fun _ => 0) l = 0; rw [sumL_zero l]; rfl
theorem sumL_one {g : Nat → Int} {x : Nat} : ∀ {l : List Nat}, l.Nodup → x ∈ l → sumL (fun z => if z = x then g z else 0) l = g x
  | [], _, h => by cases h
  | z :: l, hn, h => by
    rw [List.nodup_cons] at hn
    show (if z = x then g z else 0) + sumL (fun z => if z = x then g z else 0) l = g x
    by_cases e : z = x
    · subst e
      rw [if_pos rfl, sumL_congr (h := fun _ => 0) fun y hy => if_neg (fun e => hn.1 (by rw [← e]; exact hy)), sumL_zero]; omega
    · rw [if_neg e, sumL_one hn.2 (by rcases List.mem_cons.1 h with h | h; exact absurd h.symm e; exact h)]; omega
theorem sumL_add (g h : Nat → Int) : ∀ l : List Nat, sumL (fun z => g z + h z) l = sumL g l + sumL h l
  | [] => rfl
  | z :: l => by show g z + h z + sumL (fun z => g z + h z) l = g z + sumL g l + (h z + sumL h l); rw [sumL_add g h l]; omega
theorem sum_keys {g : Nat → Int} : ∀ {l : List Nat}, l.Nodup → (∀ z ∈ l, z ∈ keys5) → sumL (fun z => if z ∈ l then g z else 0) keys5 = sumL g l
  | [], _, _ => by rw [sumL_congr (h := fun _ => 0) fun z _ => if_neg (by simp), sumL_zero]; rfl
  | x :: l, hn, hk => by
    rw [List.nodup_cons] at hn
    have ih := sum_keys (g := g) hn.2 fun z hz => hk z (List.mem_cons_of_mem _ hz)
    show _ = g x + sumL g l
    rw [← ih, ← sumL_one (g := g) keys5_nodup (hk x (List.mem_cons_self ..)), ← sumL_add]
    refine sumL_congr fun z _ => ?_
    by_cases e : z = x
    · subst e; rw [if_pos (List.mem_cons_self ..), if_pos rfl, if_neg hn.1]; omega
    · rw [if_neg e]
      by_cases h : z ∈ l
      · rw [if_pos (List.mem_cons_of_mem _ h), if_pos h]; omega
      · rw [if_neg h, if_neg (by simp [e, h])]; omega
theorem fol_zero {f : Nat → Option (Int × Int)} (h : ∀ k v, f k = some v → 0 < v.1 ∧ v.2 = 0) : ∀ l : List Nat, fol f l = (sumL (fun z => ((f z).getD (0, 0)).1) l, 0) ∧ 0 ≤ sumL (fun z => ((f z).getD (0, 0)).1) l
  | [] => ⟨rfl, Int.le_refl _⟩
  | k :: l => by
    obtain ⟨ih, ip⟩ := fol_zero h l
    have hz : 0 ≤ ((f k).getD (0, 0)).1 ∧ ((f k).getD (0, 0)).2 = 0 := by
      cases hk : f k with
      | none => exact ⟨Int.le_refl _, rfl⟩
      | some v => have := h k v hk; exact ⟨by show 0 ≤ v.1; omega, this.2⟩
    have e2 : sumL (fun z => ((f z).getD (0, 0)).1) (k :: l) = ((f k).getD (0, 0)).1 + sumL (fun z => ((f z).getD (0, 0)).1) l := rfl
    refine ⟨?_, by omega⟩
    show cmb ((f k).getD (0, 0)) (fol f l) = _
    rw [ih, e2]
    obtain ⟨S, hS⟩ : ∃ S, S = sumL (fun z => ((f z).getD (0, 0)).1) l := ⟨_, rfl⟩
    obtain ⟨p, hp⟩ : ∃ p, p = (f k).getD (0, 0) := ⟨_, rfl⟩
    rw [← hp] at hz
    rw [← hS, ← hp]
    rw [← hS] at ip
    obtain ⟨a, b⟩ := p
    simp only at hz
    unfold cmb
    simp only
    repeat' split
    all_goals first | omega | (apply Prod.ext <;> simp <;> omega)
/-- in how many ways the last d boards of n can be painted beside a board -/
def sW (Bl : Nat → List Nat) (n : Nat) : Nat → Nat → Int
  | 0 => fun _ => 1
  | d + 1 => fun k => sumL (fun z => if z = k then 0 else sW Bl n d z) (Bl (n - 1 - d))
theorem sW_zero (Bl : Nat → List Nat) (n k : Nat) : sW Bl n 0 k = 1 := rfl
theorem sW_succ (Bl : Nat → List Nat) (n d k : Nat) : sW Bl n (d + 1) k = sumL (fun z => if z = k then 0 else sW Bl n d z) (Bl (n - 1 - d)) := rfl
theorem sumL_nn {g : Nat → Int} (h : ∀ z, 0 ≤ g z) : ∀ l, 0 ≤ sumL g l
  | [] => Int.le_refl _
  | z :: l => by have := h z; have := sumL_nn h l; show 0 ≤ g z + sumL g l; omega
theorem sW_nn (Bl : Nat → List Nat) (n : Nat) : ∀ d k, 0 ≤ sW Bl n d k
  | 0, _ => by rw [sW_zero]; decide
  | d + 1, k => by
    rw [sW_succ]
    refine sumL_nn (fun z => ?_) _
    split
    · exact Int.le_refl _
    · exact sW_nn Bl n d z
theorem sumL_le {g : Nat → Int} {C : Int} (h : ∀ z, g z ≤ C) : ∀ l : List Nat, sumL g l ≤ l.length * C
  | [] => by show (0 : Int) ≤ ((0 : Nat) : Int) * C; simp
  | z :: l => by
    have h1 := h z
    have h2 := sumL_le h l
    have e : ((z :: l).length : Int) * C = (l.length : Int) * C + C := by rw [List.length_cons, Int.natCast_add, Int.add_mul]; simp
    show g z + sumL g l ≤ _
    rw [e]; omega
/-- boards as a list of letters each -/
structure OkBl (Bl : Nat → List Nat) : Prop where
  nodup : ∀ j, (Bl j).Nodup
  keys : ∀ j, ∀ z ∈ Bl j, z ∈ keys5
  len : ∀ j, (Bl j).length ≤ 5
theorem sW_le {Bl : Nat → List Nat} (h : OkBl Bl) (n : Nat) : ∀ d k, sW Bl n d k ≤ 5 ^ d
  | 0, _ => by rw [sW_zero]; decide
  | d + 1, k => by
    rw [sW_succ]
    have h1 := sumL_le (g := fun z => if z = k then 0 else sW Bl n d z) (C := 5 ^ d) (fun z => by
      show (if z = k then 0 else sW Bl n d z) ≤ _
      split
      · exact Int.pow_nonneg (by decide)
      · exact sW_le h n d z) (Bl (n - 1 - d))
    have h2 := h.len (n - 1 - d)
    have h3 : (0 : Int) ≤ 5 ^ d := Int.pow_nonneg (by decide)
    have h4 : ((Bl (n - 1 - d)).length : Int) * 5 ^ d ≤ 5 * 5 ^ d := Int.mul_le_mul_of_nonneg_right (by omega) h3
    have h5 : (5 : Int) ^ (d + 1) = 5 * 5 ^ d := by rw [Int.pow_succ, Int.mul_comm]
    omega
/-- the letters cost nothing -/
def zeroB (Bl : Nat → List Nat) (j z : Nat) : Option Int := if z ∈ Bl j then some 0 else none
theorem zeroB_costly {Bl : Nat → List Nat} (h : OkBl Bl) : costly (zeroB Bl) := fun j k v hv => by
  unfold zeroB at hv
  by_cases e : k ∈ Bl j
  · rw [if_pos e] at hv; obtain rfl := Option.some.inj hv; exact ⟨h.keys j k e, by decide, by decide⟩
  · rw [if_neg e] at hv; cases hv
theorem rst_zero {Bl : Nat → List Nat} (h : OkBl Bl) (n : Nat) : ∀ d k, rst (zeroB Bl) n d k = (sW Bl n d k, 0)
  | 0, _ => rfl
  | d + 1, k => by
    have ih := rst_zero h n d
    have hT : ∀ z, tT (zeroB Bl) n (d + 1) z = if z ∈ Bl (n - 1 - d) then (if 0 < sW Bl n d z then some (sW Bl n d z, 0) else none) else none := fun z => by
      by_cases e : z ∈ Bl (n - 1 - d)
      · rw [if_pos e, tT_some (c := 0) (by unfold zeroB; rw [if_pos e]), ih z]; rfl
      · rw [if_neg e, tT_none (by unfold zeroB; rw [if_neg e])]
    have hg : ∀ z v, wo (tT (zeroB Bl) n (d + 1)) k z = some v → 0 < v.1 ∧ v.2 = 0 := fun z v hv => by
      unfold wo at hv
      split at hv
      · cases hv
      · rw [hT z] at hv
        split at hv
        · split at hv
          · obtain rfl := Option.some.inj hv; exact ⟨by assumption, rfl⟩
          · cases hv
        · cases hv
    show besT (tT (zeroB Bl) n (d + 1)) k = _
    unfold besT
    rw [(fol_zero hg keys5).1, sW_succ, ← sum_keys (h.nodup _) (h.keys _)]
    congr 1
    refine sumL_congr fun z _ => ?_
    unfold wo
    by_cases e1 : z = k
    · rw [if_pos e1, if_pos e1]; split <;> rfl
    · rw [if_neg e1, if_neg e1, hT z]
      split
      · have := sW_nn Bl n d z
        split
        · rfl
        · show (0 : Int) = _; omega
      · rfl
end Go.Proofs.Yteefkgnojdgehaa
