/- Fewest strokes: the numbers of both sides' tables. Pure. -/
import Derived.WalkKit
namespace Go.Proofs.Ytohmodjigneldaa.Tx

/-- the fewest strokes that paint the boards from s up to, without, e; k: rounds of recursion -/
def pfn (c : Nat → Nat) : Nat → Nat → Nat → Nat
  | 0, _, _ => 0
  | k + 1, s, e => if e ≤ s then 0 else
    ((List.range e).filter fun o => decide (s < o ∧ c o = c s)).foldl (fun m o => min m (pfn c k (s + 1) o + pfn c k o e)) (1 + pfn c k (s + 1) e)
theorem pfn_zero (c : Nat → Nat) (k s e : Nat) (h : e ≤ s) : pfn c k s e = 0 := by
  cases k with
  | zero => rfl
  | succ k => unfold pfn; rw [if_pos h]
theorem foldl_congr_mem {α : Type} {f g : Nat → α → Nat} : ∀ {l : List α} {a : Nat}, (∀ x ∈ l, ∀ m, f m x = g m x) → l.foldl f a = l.foldl g a
  | [], _, _ => rfl
  | x :: l, a, h => by
    rw [List.foldl_cons, List.foldl_cons, h x (List.mem_cons_self ..)]
    exact foldl_congr_mem fun y hy m => h y (List.mem_cons_of_mem _ hy) m
theorem pfn_more (c : Nat → Nat) : ∀ (k s e : Nat), e - s ≤ k → pfn c k s e = pfn c (e - s) s e := by
  intro k
  induction k using Nat.strongRecOn with
  | _ k ih =>
    intro s e h
    rcases Nat.lt_or_ge s e with hlt | hge
    · obtain ⟨j, rfl⟩ : ∃ j, k = j + 1 := ⟨k - 1, by omega⟩
      obtain ⟨d, hd⟩ : ∃ d, e - s = d + 1 := ⟨e - s - 1, by omega⟩
      have key : ∀ q, e - s ≤ q + 1 → q ≤ j → pfn c (q + 1) s e = ((List.range e).filter fun o => decide (s < o ∧ c o = c s)).foldl (fun m o => min m (pfn c (o - (s + 1)) (s + 1) o + pfn c (e - o) o e)) (1 + pfn c (e - (s + 1)) (s + 1) e) := by
        intro q hq hqj
        rw [show pfn c (q + 1) s e = ((List.range e).filter fun o => decide (s < o ∧ c o = c s)).foldl (fun m o => min m (pfn c q (s + 1) o + pfn c q o e)) (1 + pfn c q (s + 1) e) by
          conv => lhs; unfold pfn
          rw [if_neg (by omega)]]
        rw [ih q (by omega) (s + 1) e (by omega)]
        refine foldl_congr_mem fun o ho m => ?_
        rw [List.mem_filter, List.mem_range, decide_eq_true_iff] at ho
        rw [ih q (by omega) (s + 1) o (by omega), ih q (by omega) o e (by omega)]
      rw [key j (by omega) (Nat.le_refl _), hd, key d (by omega) (by omega)]
    · rw [pfn_zero c k s e hge, pfn_zero c _ s e hge]
def parF (c : Nat → Nat) (s e : Nat) : Nat := pfn c (e - s) s e
theorem parF_zero {c : Nat → Nat} {s e : Nat} (h : e ≤ s) : parF c s e = 0 := pfn_zero c _ s e h
/-- the best so far: other boards below t -/
def bstF (c : Nat → Nat) (s e t : Nat) : Nat := ((List.range t).filter fun o => decide (s < o ∧ c o = c s)).foldl (fun m o => min m (parF c (s + 1) o + parF c o e)) (1 + parF c (s + 1) e)
theorem parF_bst {c : Nat → Nat} {s e : Nat} (h : s < e) : parF c s e = bstF c s e e := by
  unfold parF bstF
  obtain ⟨d, hd⟩ : ∃ d, e - s = d + 1 := ⟨e - s - 1, by omega⟩
  rw [hd]
  conv => lhs; unfold pfn
  rw [if_neg (by omega)]
  unfold parF
  rw [pfn_more c d (s + 1) e (by omega)]
  refine foldl_congr_mem fun o ho m => ?_
  rw [List.mem_filter, List.mem_range, decide_eq_true_iff] at ho
  rw [pfn_more c d (s + 1) o (by omega), pfn_more c d o e (by omega)]
theorem bst_start (c : Nat → Nat) (s e : Nat) : bstF c s e (s + 1) = 1 + parF c (s + 1) e := by
  unfold bstF
  have : ((List.range (s + 1)).filter fun o => decide (s < o ∧ c o = c s)) = [] := by
    rw [List.filter_eq_nil_iff]
    intro o ho
    have := List.mem_range.1 ho
    rw [decide_eq_true_iff]
    omega
  rw [this]; rfl
theorem bst_yes {c : Nat → Nat} {s e t : Nat} (h : s < t) (hc : c t = c s) : bstF c s e (t + 1) = min (bstF c s e t) (parF c (s + 1) t + parF c t e) := by
  unfold bstF
  rw [List.range_succ, List.filter_append, List.foldl_append]
  have : [t].filter (fun o => decide (s < o ∧ c o = c s)) = [t] := by simp [h, hc]
  rw [this]; rfl
theorem bst_no {c : Nat → Nat} {s e t : Nat} (hc : c t ≠ c s) : bstF c s e (t + 1) = bstF c s e t := by
  unfold bstF
  rw [List.range_succ, List.filter_append, List.foldl_append]
  have : [t].filter (fun o => decide (s < o ∧ c o = c s)) = [] := by simp [hc]
  rw [this]; rfl
theorem bst_le (c : Nat → Nat) (s e : Nat) : ∀ t, bstF c s e t ≤ 1 + parF c (s + 1) e := by
  intro t
  induction t with
  | zero => unfold bstF; exact Nat.le_refl _
  | succ t ih =>
    by_cases hc : c t = c s
    · by_cases hst : s < t
      · rw [bst_yes hst hc]; omega
      · have : bstF c s e (t + 1) = bstF c s e t := by
          unfold bstF
          rw [List.range_succ, List.filter_append, List.foldl_append]
          have : [t].filter (fun o => decide (s < o ∧ c o = c s)) = [] := by simp [hst]
          rw [this]; rfl
        rw [this]; exact ih
    · rw [bst_no hc]; exact ih
theorem parF_le (c : Nat → Nat) : ∀ (d s e : Nat), e - s = d → parF c s e ≤ d
  | 0, s, e, h => by rw [parF_zero (by omega)]; exact Nat.zero_le _
  | d + 1, s, e, h => by
    rw [parF_bst (by omega)]
    have h1 := bst_le c s e e
    have h2 := parF_le c d (s + 1) e (by omega)
    omega
theorem parF_bd (c : Nat → Nat) (s e : Nat) : parF c s e ≤ e - s := parF_le c _ s e rfl
theorem parF_one (c : Nat → Nat) (s : Nat) : parF c s (s + 1) = 1 := by
  rw [parF_bst (Nat.lt_succ_self s), bst_start, parF_zero (Nat.le_refl _)]
theorem bst_bd {c : Nat → Nat} {s e t : Nat} : bstF c s e t ≤ 1 + (e - (s + 1)) := by
  have h1 := bst_le c s e t
  have h2 := parF_bd c (s + 1) e
  omega

/-- parts that are painted, their first boards from k down as long as no board is bare -/
def dnF (c : Nat → Nat) (e : Nat) (fp : Nat → Nat) : Nat → Nat → Nat
  | best, 0 => best
  | best, k + 1 => if c k = 46 then best else dnF c e fp (min best (fp k + parF c k (e + 1))) k
/-- fewest strokes for the first i boards, for i up to e -/
def fpF (c d : Nat → Nat) : Nat → Nat → Nat
  | 0, _ => 0
  | e + 1, i => if i = e + 1 then dnF c e (fpF c d e) (if d e = c e then fpF c d e e else 20) (e + 1) else fpF c d e i
theorem fpF_new (c d : Nat → Nat) (e : Nat) : fpF c d (e + 1) (e + 1) = dnF c e (fpF c d e) (if d e = c e then fpF c d e e else 20) (e + 1) := by
  show (if _ then _ else _) = _; rw [if_pos rfl]
theorem fpF_old {c d : Nat → Nat} {e i : Nat} (h : i ≠ e + 1) : fpF c d (e + 1) i = fpF c d e i := by
  show (if _ then _ else _) = _; rw [if_neg h]
theorem fpF_stay (c d : Nat → Nat) (i : Nat) : ∀ e, i ≤ e → fpF c d e i = fpF c d i i := by
  intro e
  induction e with
  | zero =>
    intro h
    obtain rfl : i = 0 := by omega
    rfl
  | succ e ih =>
    intro h
    by_cases he : i = e + 1
    · subst he; rfl
    · rw [fpF_old he]; exact ih (by omega)
theorem fpF_beyond (c d : Nat → Nat) (i : Nat) : ∀ e, e < i → fpF c d e i = 0 := by
  intro e
  induction e with
  | zero => intro _; rfl
  | succ e ih => intro h; rw [fpF_old (by omega)]; exact ih (by omega)
theorem dnF_spec (c : Nat → Nat) (e : Nat) (fp : Nat → Nat) : ∀ (k best b : Nat), b ≤ k → (∀ j, b ≤ j → j < k → c j ≠ 46) → (b = 0 ∨ c (b - 1) = 46) →
    dnF c e fp best k ≤ best ∧ (∀ j, b ≤ j → j < k → dnF c e fp best k ≤ fp j + parF c j (e + 1)) ∧ (dnF c e fp best k = best ∨ ∃ j, b ≤ j ∧ j < k ∧ dnF c e fp best k = fp j + parF c j (e + 1))
  | 0, best, b, hb, _, _ => ⟨Nat.le_refl _, fun j _ hj => absurd hj (Nat.not_lt_zero _), .inl rfl⟩
  | k + 1, best, b, hb, hno, hend => by
    by_cases hk : b = k + 1
    · subst hk
      have hc : c k = 46 := by
        rcases hend with h | h
        · omega
        · exact h
      have e1 : dnF c e fp best (k + 1) = best := by show (if _ then _ else _) = _; rw [if_pos hc]
      rw [e1]
      exact ⟨Nat.le_refl _, fun j h1 h2 => by omega, .inl rfl⟩
    · have hc := hno k (by omega) (by omega)
      have e1 : dnF c e fp best (k + 1) = dnF c e fp (min best (fp k + parF c k (e + 1))) k := by show (if _ then _ else _) = _; rw [if_neg hc]
      rw [e1]
      obtain ⟨h1, h2, h3⟩ := dnF_spec c e fp k (min best (fp k + parF c k (e + 1))) b (by omega) (fun j q1 q2 => hno j q1 (by omega)) hend
      refine ⟨by omega, fun j q1 q2 => ?_, ?_⟩
      · by_cases hj : j = k
        · subst hj; omega
        · exact h2 j q1 (by omega)
      · rcases h3 with h3 | ⟨j, q1, q2, q3⟩
        · by_cases hm : best ≤ fp k + parF c k (e + 1)
          · exact .inl (by omega)
          · exact .inr ⟨k, by omega, by omega, by omega⟩
        · exact .inr ⟨j, q1, by omega, q3⟩
/-- the first board behind the last bare one below i -/
def beg (c : Nat → Nat) : Nat → Nat
  | 0 => 0
  | i + 1 => if c i = 46 then i + 1 else beg c i
theorem beg_le (c : Nat → Nat) : ∀ i, beg c i ≤ i
  | 0 => Nat.le_refl _
  | i + 1 => by
    have := beg_le c i
    unfold beg
    split
    · exact Nat.le_refl _
    · omega
theorem beg_bare {c : Nat → Nat} {i : Nat} (h : c i = 46) : beg c (i + 1) = i + 1 := by show (if _ then _ else _) = _; rw [if_pos h]
theorem beg_not {c : Nat → Nat} {i : Nat} (h : c i ≠ 46) : beg c (i + 1) = beg c i := by show (if _ then _ else _) = _; rw [if_neg h]
theorem beg_no (c : Nat → Nat) : ∀ i j, beg c i ≤ j → j < i → c j ≠ 46
  | 0, j, _, h => absurd h (Nat.not_lt_zero _)
  | i + 1, j, h1, h2 => by
    by_cases hc : c i = 46
    · rw [beg_bare hc] at h1; omega
    · rw [beg_not hc] at h1
      by_cases hj : j = i
      · subst hj; exact hc
      · exact beg_no c i j h1 (by omega)
theorem beg_end (c : Nat → Nat) : ∀ i, beg c i = 0 ∨ c (beg c i - 1) = 46
  | 0 => .inl rfl
  | i + 1 => by
    by_cases hc : c i = 46
    · rw [beg_bare hc]; exact .inr hc
    · rw [beg_not hc]; exact beg_end c i
/-- a fence leads to the other one as far as n -/
def leadsF (c d : Nat → Nat) (n : Nat) : Prop := ∀ i, i < n → c i = 46 → d i = 46
theorem fp_bare {c d : Nat → Nat} {e : Nat} (h : c e = 46) (hd : d e = 46) : fpF c d (e + 1) (e + 1) = fpF c d e e := by
  rw [fpF_new, if_pos (by rw [h, hd])]
  show (if _ then _ else _) = _
  rw [if_pos h]
theorem fp_bd {c d : Nat → Nat} {n : Nat} (hn : n ≤ 20) (hl : leadsF c d n) : ∀ e, e ≤ n → fpF c d e e ≤ e
  | 0, _ => Nat.le_refl _
  | e + 1, h => by
    have ih := fp_bd hn hl e (by omega)
    by_cases hc : c e = 46
    · rw [fp_bare hc (hl e (by omega) hc)]; omega
    · rw [fpF_new]
      obtain ⟨h1, h2, h3⟩ := dnF_spec c e (fpF c d e) (e + 1) (if d e = c e then fpF c d e e else 20) (beg c (e + 1)) (beg_le c _) (fun j q1 q2 => beg_no c (e + 1) j q1 q2) (beg_end c (e + 1))
      have h4 := h2 e (by rw [beg_not hc]; exact beg_le c e) (Nat.lt_succ_self e)
      rw [parF_one] at h4
      omega
/-- the model's best so far: first boards below t -/
def mdF (c d : Nat → Nat) (i : Nat) : Nat → Nat
  | 0 => fpF c d i (beg c i) + parF c (beg c i) (i + 1)
  | t + 1 => if t < beg c i then mdF c d i t else min (mdF c d i t) (fpF c d i t + parF c t (i + 1))
theorem md_start {c d : Nat → Nat} {i : Nat} : ∀ t, t ≤ beg c i → mdF c d i t = fpF c d i (beg c i) + parF c (beg c i) (i + 1)
  | 0, _ => rfl
  | t + 1, h => by show (if _ then _ else _) = _; rw [if_pos (by omega)]; exact md_start t (by omega)
theorem md_step {c d : Nat → Nat} {i t : Nat} (h : beg c i ≤ t) : mdF c d i (t + 1) = min (mdF c d i t) (fpF c d i t + parF c t (i + 1)) := by
  show (if _ then _ else _) = _; rw [if_neg (by omega)]
theorem md_spec {c d : Nat → Nat} {i : Nat} : ∀ t, beg c i < t → (∀ j, beg c i ≤ j → j < t → mdF c d i t ≤ fpF c d i j + parF c j (i + 1)) ∧ ∃ j, beg c i ≤ j ∧ j < t ∧ mdF c d i t = fpF c d i j + parF c j (i + 1)
  | 0, h => absurd h (Nat.not_lt_zero _)
  | t + 1, h => by
    by_cases hb : beg c i = t
    · have e : mdF c d i (t + 1) = fpF c d i t + parF c t (i + 1) := by rw [md_step (by omega), md_start t (by omega), hb, Nat.min_self]
      refine ⟨fun j h1 h2 => ?_, t, by omega, Nat.lt_succ_self t, e⟩
      obtain rfl : j = t := by omega
      exact Nat.le_of_eq e
    · obtain ⟨h1, j, h2, h3, h4⟩ := md_spec (c := c) (d := d) (i := i) t (by omega)
      rw [md_step (by omega)]
      refine ⟨fun q q1 q2 => ?_, ?_⟩
      · by_cases hq : q = t
        · subst hq; omega
        · have := h1 q q1 (by omega); omega
      · by_cases hm : mdF c d i t ≤ fpF c d i t + parF c t (i + 1)
        · exact ⟨j, h2, by omega, by omega⟩
        · exact ⟨t, by omega, by omega, by omega⟩
/-- BOTH ARE THE SAME: what the model finds for board i is what the program finds. -/
theorem md_same {c d : Nat → Nat} {n i : Nat} (hn : n ≤ 20) (hl : leadsF c d n) (hi : i < n) (hc : c i ≠ 46) :
    fpF c d (i + 1) (i + 1) = if d i = c i then min (mdF c d i (i + 1)) (fpF c d i i) else mdF c d i (i + 1) := by
  rw [fpF_new]
  have hbe : beg c (i + 1) = beg c i := beg_not hc
  have hbl := beg_le c i
  obtain ⟨h1, h2, h3⟩ := dnF_spec c i (fpF c d i) (i + 1) (if d i = c i then fpF c d i i else 20) (beg c (i + 1)) (beg_le c _) (fun j q1 q2 => beg_no c (i + 1) j q1 q2) (beg_end c (i + 1))
  rw [hbe] at h2 h3
  obtain ⟨m1, j, m2, m3, m4⟩ := md_spec (c := c) (d := d) (i := i) (i + 1) (by omega)
  have hfi := fp_bd hn hl i (by omega)
  have h5 := h2 j m2 m3
  have h6 := m1 i hbl (Nat.lt_succ_self i)
  rw [parF_one] at h6
  obtain ⟨D, hD⟩ : ∃ D, D = dnF c i (fpF c d i) (if d i = c i then fpF c d i i else 20) (i + 1) := ⟨_, rfl⟩
  rw [← hD] at h1 h3 h5 ⊢
  by_cases he : d i = c i
  · rw [if_pos he] at h1 h3 ⊢
    rcases h3 with h3 | ⟨q, q1, q2, q3⟩
    · omega
    · have := m1 q q1 q2; omega
  · rw [if_neg he] at h1 h3 ⊢
    rcases h3 with h3 | ⟨q, q1, q2, q3⟩
    · omega
    · have := m1 q q1 q2; omega
end Go.Proofs.Ytohmodjigneldaa.Tx
