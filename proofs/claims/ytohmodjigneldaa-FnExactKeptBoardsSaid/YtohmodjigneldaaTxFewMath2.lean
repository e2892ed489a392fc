/- Fewest strokes: a stroke saves one at most, and some stroke saves one. Pure. -/
import Derived.Test.YtohmodjigneldaaTxFewMath
namespace Go.Proofs.Ytohmodjigneldaa.Tx

theorem fold_le {f : Nat → Nat} : ∀ {l : List Nat} {a : Nat}, l.foldl (fun m o => min m (f o)) a ≤ a ∧ (∀ o ∈ l, l.foldl (fun m o => min m (f o)) a ≤ f o) ∧ (l.foldl (fun m o => min m (f o)) a = a ∨ ∃ o ∈ l, l.foldl (fun m o => min m (f o)) a = f o)
  | [], a => ⟨Nat.le_refl _, fun o h => (by cases h), .inl rfl⟩
  | x :: l, a => by
    obtain ⟨h1, h2, h3⟩ := fold_le (f := f) (l := l) (a := min a (f x))
    rw [List.foldl_cons]
    refine ⟨by omega, fun o ho => ?_, ?_⟩
    · rcases List.mem_cons.1 ho with rfl | ho
      · omega
      · exact h2 o ho
    · rcases h3 with h3 | ⟨o, ho, h3⟩
      · by_cases hm : a ≤ f x
        · exact .inl (by omega)
        · exact .inr ⟨x, List.mem_cons_self .., by omega⟩
      · exact .inr ⟨o, List.mem_cons_of_mem _ ho, h3⟩
theorem par_spec {c : Nat → Nat} {s e : Nat} (h : s < e) : parF c s e ≤ 1 + parF c (s + 1) e ∧ (∀ o, s < o → o < e → c o = c s → parF c s e ≤ parF c (s + 1) o + parF c o e) ∧
    (parF c s e = 1 + parF c (s + 1) e ∨ ∃ o, s < o ∧ o < e ∧ c o = c s ∧ parF c s e = parF c (s + 1) o + parF c o e) := by
  rw [parF_bst h]
  unfold bstF
  obtain ⟨h1, h2, h3⟩ := fold_le (f := fun o => parF c (s + 1) o + parF c o e) (l := (List.range e).filter fun o => decide (s < o ∧ c o = c s)) (a := 1 + parF c (s + 1) e)
  refine ⟨h1, fun o ho1 ho2 hc => h2 o (by rw [List.mem_filter, List.mem_range, decide_eq_true_iff]; exact ⟨ho2, ho1, hc⟩), ?_⟩
  rcases h3 with h3 | ⟨o, ho, h3⟩
  · exact .inl h3
  · rw [List.mem_filter, List.mem_range, decide_eq_true_iff] at ho
    exact .inr ⟨o, ho.2.1, ho.1, ho.2.2, h3⟩
/-- two parts side by side -/
theorem par_add (c : Nat → Nat) : ∀ (k s m e : Nat), m - s = k → s ≤ m → m ≤ e → parF c s e ≤ parF c s m + parF c m e := by
  intro k
  induction k using Nat.strongRecOn with
  | _ k ih =>
    intro s m e hk hsm hme
    by_cases h0 : s = m
    · subst h0; omega
    · obtain ⟨-, -, h3⟩ := par_spec (c := c) (s := s) (e := m) (by omega)
      obtain ⟨g1, g2, -⟩ := par_spec (c := c) (s := s) (e := e) (by omega)
      rcases h3 with h3 | ⟨o, o1, o2, o3, h3⟩
      · have := ih (m - (s + 1)) (by omega) (s + 1) m e rfl (by omega) hme
        omega
      · have q1 := g2 o o1 (by omega) o3
        have q2 := ih (m - o) (by omega) o m e rfl (by omega) hme
        omega
/-- a base stroke that goes on to another board of its colour -/
theorem par_on (c : Nat → Nat) {p e : Nat} (hpe : p < e) (hc : c p = c e) : ∀ (k a : Nat), p - a = k → a ≤ p → parF c a (e + 1) ≤ parF c a (p + 1) + parF c (p + 1) e := by
  intro k
  induction k using Nat.strongRecOn with
  | _ k ih =>
    intro a hk ha
    by_cases h0 : a = p
    · subst h0
      obtain ⟨-, g2, -⟩ := par_spec (c := c) (s := a) (e := e + 1) (by omega)
      have := g2 e (by omega) (by omega) hc.symm
      rw [parF_one] at this
      rw [parF_one]
      omega
    · obtain ⟨-, -, h3⟩ := par_spec (c := c) (s := a) (e := p + 1) (by omega)
      obtain ⟨g1, g2, -⟩ := par_spec (c := c) (s := a) (e := e + 1) (by omega)
      rcases h3 with h3 | ⟨o, o1, o2, o3, h3⟩
      · have := ih (p - (a + 1)) (by omega) (a + 1) rfl (by omega)
        omega
      · have q1 := g2 o o1 (by omega) o3
        have q2 := ih (p - o) (by omega) o rfl (by omega)
        omega

/-- no board is bare from a up to, without, e -/
def noBare (c : Nat → Nat) (a e : Nat) : Prop := ∀ i, a ≤ i → i < e → c i ≠ 46
theorem beg_of {c : Nat → Nat} {j e : Nat} (h : noBare c j e) (_ : j ≤ e) : beg c e ≤ j := by
  rcases beg_end c e with h1 | h1
  · omega
  · rcases Nat.lt_or_ge j (beg c e) with h2 | h2
    · exact absurd h1 (h _ (by omega) (by have := beg_le c e; omega))
    · exact h2
/-- the fewest for the first e boards -/
def fpN (c d : Nat → Nat) (e : Nat) : Nat := fpF c d e e
theorem fpN_spec {c d : Nat → Nat} {n e : Nat} (hn : n ≤ 20) (hl : leadsF c d n) (he : e < n) :
    (c e = 46 → fpN c d (e + 1) = fpN c d e) ∧ (d e = c e → fpN c d (e + 1) ≤ fpN c d e) ∧ (∀ j, j ≤ e → noBare c j (e + 1) → fpN c d (e + 1) ≤ fpN c d j + parF c j (e + 1)) ∧
    ((d e = c e ∧ fpN c d (e + 1) = fpN c d e) ∨ ∃ j, j ≤ e ∧ noBare c j (e + 1) ∧ fpN c d (e + 1) = fpN c d j + parF c j (e + 1)) := by
  unfold fpN
  by_cases hc : c e = 46
  · have hd := hl e he hc
    have h1 := fp_bare hc hd
    refine ⟨fun _ => h1, fun _ => Nat.le_of_eq h1, fun j hj hb => absurd hc (hb e hj (Nat.lt_succ_self e)), .inl ⟨by rw [hd, hc], h1⟩⟩
  · obtain ⟨h1, h2, h3⟩ := dnF_spec c e (fpF c d e) (e + 1) (if d e = c e then fpF c d e e else 20) (beg c (e + 1)) (beg_le c _) (fun j q1 q2 => beg_no c (e + 1) j q1 q2) (beg_end c (e + 1))
    rw [← fpF_new] at h1 h2 h3
    have hfe := fp_bd hn hl e (by omega)
    have h4 := h2 e (by rw [beg_not hc]; exact beg_le c e) (Nat.lt_succ_self e)
    rw [parF_one] at h4
    have hst : ∀ j, j ≤ e → fpF c d e j = fpF c d j j := fun j hj => fpF_stay c d j e hj
    refine ⟨fun h => absurd h hc, fun h => by rw [if_pos h] at h1; exact h1, fun j hj hb => ?_, ?_⟩
    · have := h2 j (beg_of hb (by omega)) (by omega)
      rw [hst j hj] at this
      exact this
    · rcases h3 with h3 | ⟨j, j1, j2, h3⟩
      · by_cases he2 : d e = c e
        · rw [if_pos he2] at h3; exact .inl ⟨he2, h3⟩
        · rw [if_neg he2] at h3
          have hee : noBare c e (e + 1) := fun i i1 i2 => by
            obtain rfl : i = e := by omega
            exact hc
          refine .inr ⟨e, Nat.le_refl _, hee, ?_⟩
          rw [parF_one]
          omega
      · rw [hst j (by omega)] at h3
        exact .inr ⟨j, by omega, fun i i1 i2 => beg_no c (e + 1) i (by omega) i2, h3⟩
theorem fpF_dep {c d d' : Nat → Nat} : ∀ (e : Nat), (∀ i, i < e → d i = d' i) → ∀ i, fpF c d e i = fpF c d' e i
  | 0, _, _ => rfl
  | e + 1, h, i => by
    have ih := fpF_dep (c := c) (d := d) (d' := d') e fun k hk => h k (by omega)
    by_cases hi : i = e + 1
    · subst hi
      rw [fpF_new, fpF_new, h e (Nat.lt_succ_self e), show fpF c d e = fpF c d' e from funext ih]
    · rw [fpF_old hi, fpF_old hi]; exact ih i
theorem fpN_dep {c d d' : Nat → Nat} {e : Nat} (h : ∀ i, i < e → d i = d' i) : fpN c d e = fpN c d' e := fpF_dep e h e
/-- a fence behind a stroke -/
def pnt (d : Nat → Nat) (f l x : Nat) (i : Nat) : Nat := if f ≤ i ∧ i ≤ l then x else d i
theorem pnt_in {d : Nat → Nat} {f l x i : Nat} (h1 : f ≤ i) (h2 : i ≤ l) : pnt d f l x i = x := by unfold pnt; rw [if_pos ⟨h1, h2⟩]
theorem pnt_out {d : Nat → Nat} {f l x i : Nat} (h : i < f ∨ l < i) : pnt d f l x i = d i := by unfold pnt; rw [if_neg (by omega)]
theorem leads_pnt {c d : Nat → Nat} {n f l x : Nat} (hl : leadsF c d n) (hb : noBare c f (l + 1)) : leadsF c (pnt d f l x) n := fun i hi hc => by
  by_cases h : f ≤ i ∧ i ≤ l
  · exact absurd hc (hb i h.1 (by omega))
  · rw [pnt_out (by omega)]; exact hl i hi hc
/-- A STROKE SAVES ONE AT MOST. -/
theorem save_one {c d : Nat → Nat} {n f l x : Nat} (hn : n ≤ 20) (hl : leadsF c d n) (hb : noBare c f (l + 1)) (hx : x ≠ 46) : fpN c d n ≤ fpN c (pnt d f l x) n + 1 := by
  have hl' := leads_pnt (x := x) hl hb
  have key : ∀ e, e ≤ n → (e ≤ f → fpN c d e = fpN c (pnt d f l x) e) ∧ (fpN c d e ≤ fpN c (pnt d f l x) e + 1) ∧ (f ≤ e → e ≤ l + 1 → fpN c d e ≤ fpN c (pnt d f l x) e ∨
      ∃ a p, f ≤ a ∧ a ≤ p ∧ p < e ∧ c p = x ∧ noBare c a e ∧ fpN c d a + parF c a (p + 1) + parF c (p + 1) e ≤ fpN c (pnt d f l x) e + 1) := by
    intro e
    induction e using Nat.strongRecOn with
    | _ e ih =>
      intro hen
      have eq0 : ∀ e', e' ≤ f → fpN c d e' = fpN c (pnt d f l x) e' := fun e' he' => fpN_dep fun i hi => (pnt_out (by omega)).symm
      by_cases hef : e ≤ f
      · have h0 := eq0 e hef
        exact ⟨fun _ => h0, by omega, fun _ _ => .inl (by omega)⟩
      · obtain ⟨k, rfl⟩ : ∃ k, e = k + 1 := ⟨e - 1, by omega⟩
        obtain ⟨A1, A2, A3, -⟩ := fpN_spec hn hl (e := k) (by omega)
        obtain ⟨-, -, -, B4⟩ := fpN_spec hn hl' (e := k) (by omega)
        obtain ⟨ik1, ik2, ik3⟩ := ih k (by omega) (by omega)
        by_cases hkl : k ≤ l
        · -- within the stroke
          have hP : fpN c d (k + 1) ≤ fpN c (pnt d f l x) (k + 1) ∨ ∃ a p, f ≤ a ∧ a ≤ p ∧ p < k + 1 ∧ c p = x ∧ noBare c a (k + 1) ∧ fpN c d a + parF c a (p + 1) + parF c (p + 1) (k + 1) ≤ fpN c (pnt d f l x) (k + 1) + 1 := by
            rcases B4 with ⟨b1, b2⟩ | ⟨j, j1, j2, j3⟩
            · rw [pnt_in (by omega) hkl] at b1
              rw [b2]
              right
              have hck : c k ≠ 46 := by rw [← b1]; exact hx
              have hkk : noBare c k (k + 1) := fun i i1 i2 => by
                obtain rfl : i = k := by omega
                exact hck
              rcases ik3 (by omega) (by omega) with h | ⟨a, p, a1, a2, a3, a4, a5, a6⟩
              · refine ⟨k, k, by omega, Nat.le_refl _, Nat.lt_succ_self k, b1.symm, hkk, ?_⟩
                rw [parF_one, parF_zero (Nat.le_refl _)]; omega
              · refine ⟨a, k, a1, by omega, Nat.lt_succ_self k, b1.symm, fun i i1 i2 => ?_, ?_⟩
                · by_cases hi : i = k
                  · subst hi; exact hck
                  · exact a5 i i1 (by omega)
                · have := par_on c (p := p) (e := k) a3 (by rw [a4, b1]) (p - a) a rfl a2
                  rw [parF_zero (Nat.le_refl (k + 1))]; omega
            · rw [j3]
              obtain ⟨ij1, ij2, ij3⟩ := ih j (by omega) (by omega)
              by_cases hjf : j < f
              · left
                have := A3 j j1 j2
                have := ij1 (by omega)
                omega
              · rcases ij3 (by omega) (by omega) with h | ⟨a, p, a1, a2, a3, a4, a5, a6⟩
                · left
                  have := A3 j j1 j2
                  omega
                · right
                  refine ⟨a, p, a1, a2, by omega, a4, fun i i1 i2 => ?_, ?_⟩
                  · rcases Nat.lt_or_ge i j with h | h
                    · exact a5 i i1 h
                    · exact j2 i h i2
                  · have := par_add c (j - (p + 1)) (p + 1) j (k + 1) rfl (by omega) (by omega)
                    omega
          refine ⟨fun h => absurd h hef, ?_, fun _ _ => hP⟩
          rcases hP with h | ⟨a, p, a1, a2, a3, a4, a5, a6⟩
          · omega
          · have h1 := A3 a (by omega) a5
            have h2 := par_add c (p + 1 - a) a (p + 1) (k + 1) rfl (by omega) (by omega)
            omega
        · -- behind it
          refine ⟨fun h => absurd h hef, ?_, fun _ h => by omega⟩
          rcases B4 with ⟨b1, b2⟩ | ⟨j, j1, j2, j3⟩
          · rw [pnt_out (by omega)] at b1
            have := A2 b1
            omega
          · have := A3 j j1 j2
            obtain ⟨-, ij2, -⟩ := ih j (by omega) (by omega)
            omega
  exact (key n (Nat.le_refl _)).2.1
/-- SOME STROKE SAVES ONE: of a part, its lowest stroke. -/
theorem part_saves {c : Nat → Nat} {n E : Nat} (hn : n ≤ 20) (hE : E ≤ n) : ∀ (k j : Nat), E - j = k → j < E → noBare c j E → ∃ q, j ≤ q ∧ q < E ∧ ∀ d', leadsF c d' n → (∀ i, j ≤ i → i ≤ q → d' i = c j) → fpN c d' E + 1 ≤ fpN c d' j + parF c j E := by
  intro k
  induction k using Nat.strongRecOn with
  | _ k ih =>
    intro j hk hj hb
    obtain ⟨-, -, h3⟩ := par_spec (c := c) (s := j) (e := E) hj
    have hall : ∀ (d' : Nat → Nat) (_ : leadsF c d' n) (a b : Nat), j ≤ a → a ≤ b → b ≤ E → fpN c d' b ≤ fpN c d' a + parF c a b := fun d' hl a b ha hab hbE => by
      by_cases he : a = b
      · subst he; omega
      · obtain ⟨b', rfl⟩ : ∃ b', b = b' + 1 := ⟨b - 1, by omega⟩
        exact (fpN_spec hn hl (e := b') (by omega)).2.2.1 a (by omega) fun i i1 i2 => hb i (by omega) (by omega)
    rcases h3 with h3 | ⟨o, o1, o2, o3, h3⟩
    · refine ⟨j, Nat.le_refl _, hj, fun d' hl hd => ?_⟩
      have h1 := (fpN_spec hn hl (e := j) (by omega)).2.1 (hd j (Nat.le_refl _) (Nat.le_refl _))
      have h2 := hall d' hl (j + 1) E (by omega) (by omega) (Nat.le_refl _)
      omega
    · obtain ⟨q, q1, q2, q3⟩ := ih (E - o) (by omega) o rfl o2 fun i i1 i2 => hb i (by omega) i2
      refine ⟨q, by omega, q2, fun d' hl hd => ?_⟩
      have h1 := (fpN_spec hn hl (e := j) (by omega)).2.1 (hd j (Nat.le_refl _) (by omega))
      have h2 := hall d' hl (j + 1) o (by omega) (by omega) (by omega)
      have h4 := q3 d' hl fun i i1 i2 => by rw [hd i (by omega) i2, o3]
      omega
/-- some stroke saves one -/
theorem some_saves {c d : Nat → Nat} {n : Nat} (hn : n ≤ 20) (hl : leadsF c d n) : ∀ m, m ≤ n → 0 < fpN c d m → ∃ f l, f ≤ l ∧ l < m ∧ noBare c f (l + 1) ∧ fpN c (pnt d f l (c f)) m + 1 ≤ fpN c d m
  | 0, _, h => absurd h (Nat.lt_irrefl 0)
  | m + 1, hm, h => by
    obtain ⟨-, -, -, h4⟩ := fpN_spec hn hl (e := m) (by omega)
    rcases h4 with ⟨h1, h2⟩ | ⟨j, j1, j2, j3⟩
    · obtain ⟨f, l, f1, f2, f3, f4⟩ := some_saves hn hl m (by omega) (by omega)
      refine ⟨f, l, f1, by omega, f3, ?_⟩
      have := (fpN_spec hn (leads_pnt (x := c f) hl f3) (e := m) (by omega)).2.1 (by rw [pnt_out (by omega)]; exact h1)
      omega
    · obtain ⟨q, q1, q2, q3⟩ := part_saves hn (E := m + 1) hm (m + 1 - j) j rfl (by omega) j2
      have hb : noBare c j (q + 1) := fun i i1 i2 => j2 i i1 (by omega)
      refine ⟨j, q, q1, q2, hb, ?_⟩
      have h5 := q3 (pnt d j q (c j)) (leads_pnt hl hb) fun i i1 i2 => pnt_in i1 i2
      have h6 : fpN c (pnt d j q (c j)) j = fpN c d j := fpN_dep fun i hi => pnt_out (by omega)
      omega
end Go.Proofs.Ytohmodjigneldaa.Tx
