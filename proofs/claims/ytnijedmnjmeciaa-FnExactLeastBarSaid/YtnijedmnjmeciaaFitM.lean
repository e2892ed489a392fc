/- First fits: which bar each rail in turn is cut from. Pure. -/
import Derived.Test.YtnijedmnjmeciaaCutMath
namespace Go.Proofs.Ytnijedmnjmeciaa

/-- k is the first bar that has enough left -/
def IsFit (F : Nat → Int) (r : Int) (k : Nat) : Prop := k < 8 ∧ r ≤ F k ∧ ∀ i, i < k → F i < r
def fitI (F : Nat → Int) (r : Int) : Nat := ((List.range 8).find? fun i => decide (r ≤ F i)).getD 8
theorem fitI_of {F : Nat → Int} {r : Int} {k : Nat} (h : IsFit F r k) : fitI F r = k := by
  unfold fitI
  rw [List.find?_range_eq_some.2 ⟨by simpa using h.2.1, by simpa using h.1, fun j hj => by have := h.2.2 j hj; simpa using this⟩]
  rfl
theorem fitI_is {F : Nat → Int} {r : Int} {m : Nat} (hm : m < 8) (h : r ≤ F m) : IsFit F r (fitI F r) := by
  have key : ∀ n, n ≤ m + 1 → (∀ i, i < n → F i < r) ∨ ∃ k, k < n ∧ IsFit F r k := by
    intro n
    induction n with
    | zero => intro _; exact .inl fun i hi => absurd hi (Nat.not_lt_zero _)
    | succ n ih =>
      intro hn
      rcases ih (by omega) with h1 | ⟨k, hk, h2⟩
      · by_cases hc : r ≤ F n
        · exact .inr ⟨n, by omega, by omega, hc, h1⟩
        · exact .inl fun i hi => by
            by_cases e : i = n
            · subst e; omega
            · exact h1 i (by omega)
      · exact .inr ⟨k, by omega, h2⟩
  rcases key (m + 1) (Nat.le_refl _) with h1 | ⟨k, _, h2⟩
  · have := h1 m (by omega); omega
  · rw [fitI_of h2]; exact h2
/-- the bars of the first j rails -/
def fitS (bar : Int) (L : List Int) : Nat → List Int
  | 0 => []
  | j + 1 => fitS bar L j ++ [((fitI (fun i => restK bar L (fitS bar L j) i j) (L.getD j 0) : Nat) : Int)]
theorem fitS_len (bar : Int) (L : List Int) : ∀ j, (fitS bar L j).length = j
  | 0 => rfl
  | j + 1 => by show (fitS bar L j ++ [_]).length = _; rw [List.length_append, fitS_len bar L j]; rfl
theorem fitS_get (bar : Int) (L : List Int) : ∀ (n j : Nat), j < n → (fitS bar L n).getD j 0 = ((fitI (fun i => restK bar L (fitS bar L j) i j) (L.getD j 0) : Nat) : Int)
  | n + 1, j, h => by
    have hl := fitS_len bar L n
    show (fitS bar L n ++ [_]).getD j 0 = _
    rw [List.getD_eq_getElem?_getD]
    by_cases e : j = n
    · subst e
      rw [List.getElem?_append_right (by omega), hl, Nat.sub_self]; rfl
    · rw [List.getElem?_append_left (by omega), ← List.getD_eq_getElem?_getD]
      exact fitS_get bar L n j (by omega)
/-- what is left hangs on the bars told so far alone -/
theorem restK_same {bar : Int} {L S T : List Int} {i : Nat} : ∀ {j : Nat}, (∀ t, t < j → S.getD t 0 = T.getD t 0) → restK bar L S i j = restK bar L T i j
  | 0, _ => rfl
  | j + 1, h => by
    show (if S.getD j 0 = (i : Int) then restK bar L S i j - L.getD j 0 else restK bar L S i j) = if T.getD j 0 = (i : Int) then restK bar L T i j - L.getD j 0 else restK bar L T i j
    rw [h j (by omega), restK_same fun t ht => h t (by omega)]
theorem lenK_same {S T : List Int} : ∀ {j : Nat}, (∀ t, t < j → S.getD t 0 = T.getD t 0) → lenK S j = lenK T j
  | 0, _ => rfl
  | j + 1, h => by
    show max (lenK S j) (S.getD j 0 + 1).toNat = max (lenK T j) (T.getD j 0 + 1).toNat
    rw [h j (by omega), lenK_same fun t ht => h t (by omega)]
/-- what is left when the first j rails are cut so -/
def fitR (bar : Int) (L : List Int) (j i : Nat) : Int := restK bar L (fitS bar L j) i j
def fitK (bar : Int) (L : List Int) (j : Nat) : Nat := fitI (fitR bar L j) (L.getD j 0)
def fitN (bar : Int) (L : List Int) (j : Nat) : Nat := lenK (fitS bar L j) j
theorem fitS_succ (bar : Int) (L : List Int) (j : Nat) : fitS bar L (j + 1) = fitS bar L j ++ [((fitK bar L j : Nat) : Int)] := rfl
theorem fitS_same (bar : Int) (L : List Int) {n m t : Nat} (h : t < n) (h2 : t < m) : (fitS bar L n).getD t 0 = (fitS bar L m).getD t 0 := by
  rw [fitS_get bar L n t h, fitS_get bar L m t h2]
theorem fitR_succ (bar : Int) (L : List Int) (j i : Nat) : fitR bar L (j + 1) i = if fitK bar L j = i then fitR bar L j i - L.getD j 0 else fitR bar L j i := by
  have e : restK bar L (fitS bar L (j + 1)) i j = restK bar L (fitS bar L j) i j := restK_same fun t ht => fitS_same bar L (by omega) ht
  show (if (fitS bar L (j + 1)).getD j 0 = (i : Int) then restK bar L (fitS bar L (j + 1)) i j - L.getD j 0 else restK bar L (fitS bar L (j + 1)) i j) = _
  rw [e, fitS_get bar L (j + 1) j (by omega)]
  by_cases h : fitK bar L j = i
  · rw [if_pos h, if_pos (by rw [← h]; rfl)]; rfl
  · rw [if_neg h, if_neg fun x => h (by exact Int.ofNat.inj x)]; rfl
theorem fitN_succ (bar : Int) (L : List Int) (j : Nat) : fitN bar L (j + 1) = max (fitN bar L j) (fitK bar L j + 1) := by
  show max (lenK (fitS bar L (j + 1)) j) ((fitS bar L (j + 1)).getD j 0 + 1).toNat = _
  rw [lenK_same (S := fitS bar L (j + 1)) (T := fitS bar L j) fun t ht => fitS_same bar L (by omega) ht, fitS_get bar L (j + 1) j (by omega)]
  show max (fitN bar L j) (((fitK bar L j : Nat) : Int) + 1).toNat = _
  omega
theorem fitR_whole {bar : Int} {L : List Int} {j i : Nat} (h : fitN bar L j ≤ i) : fitR bar L j i = bar := restK_whole j h
theorem fit_all {bar : Int} {L : List Int} (hb : 0 ≤ bar) (hL : ∀ x ∈ L, 1 ≤ x ∧ x ≤ bar) : ∀ j, j ≤ L.length → j ≤ 8 → fitN bar L j ≤ j ∧ ∀ i, 0 ≤ fitR bar L j i
  | 0, _, _ => ⟨Nat.le_refl _, fun _ => hb⟩
  | j + 1, h, h8 => by
    obtain ⟨h1, h2⟩ := fit_all hb hL j (by omega) (by omega)
    have hx := hL L[j] (List.getElem_mem (by omega))
    have hf : IsFit (fitR bar L j) (L.getD j 0) (fitK bar L j) := by
      apply fitI_is (m := fitN bar L j) (by omega)
      rw [fitR_whole (Nat.le_refl _), getD_lt L j (by omega)]
      exact hx.2
    have hk : fitK bar L j ≤ fitN bar L j := by
      rcases Nat.lt_or_ge (fitN bar L j) (fitK bar L j) with h3 | h3
      · have := hf.2.2 _ h3
        rw [fitR_whole (Nat.le_refl _), getD_lt L j (by omega)] at this
        omega
      · exact h3
    refine ⟨by rw [fitN_succ]; omega, fun i => ?_⟩
    rw [fitR_succ]
    by_cases e : fitK bar L j = i
    · rw [if_pos e]
      have := hf.2.1
      rw [e] at this
      omega
    · rw [if_neg e]; exact h2 i
theorem fit_is {bar : Int} {L : List Int} (hb : 0 ≤ bar) (hL : ∀ x ∈ L, 1 ≤ x ∧ x ≤ bar) {j : Nat} (hj : j < L.length) (h8 : j < 8) : IsFit (fitR bar L j) (L.getD j 0) (fitK bar L j) ∧ fitK bar L j ≤ fitN bar L j ∧ fitN bar L j ≤ j := by
  obtain ⟨h1, h2⟩ := fit_all hb hL j (by omega) (by omega)
  have hx := hL L[j] (List.getElem_mem hj)
  have hf : IsFit (fitR bar L j) (L.getD j 0) (fitK bar L j) := by
    apply fitI_is (m := fitN bar L j) (by omega)
    rw [fitR_whole (Nat.le_refl _), getD_lt L j hj]
    exact hx.2
  refine ⟨hf, ?_, h1⟩
  rcases Nat.lt_or_ge (fitN bar L j) (fitK bar L j) with h3 | h3
  · have := hf.2.2 _ h3
    rw [fitR_whole (Nat.le_refl _), getD_lt L j hj] at this
    omega
  · exact h3
/-- the array behind the cut -/
theorem fit_cut {bar : Int} {L : List Int} {j : Nat} (hf : IsFit (fitR bar L j) (L.getD j 0) (fitK bar L j)) : restA (cutF (fitR bar L j) (L.getD j 0) (fitK bar L j : Nat)) = restA (fitR bar L (j + 1)) := restA_congr fun i hi => by
  rw [fitR_succ]
  unfold cutF
  by_cases e : fitK bar L j = i
  · subst e; rw [if_pos ⟨rfl, hf.2.1⟩, if_pos rfl]
  · rw [if_neg fun x => e (by omega), if_neg e]
/-- rails that can be cut -/
def okFit (L : List Int) (bar : Int) : Bool := (okRa L && okL bar) && allIn 1 bar L
def fitL (L : List Int) (bar : Int) : List Int := if okFit L bar = true then fitS bar L L.length else []
theorem fitL_len (L : List Int) (bar : Int) : (fitL L bar).length ≤ 1048576 := by
  unfold fitL
  split
  · next h =>
    unfold okFit at h
    rw [Bool.and_eq_true, Bool.and_eq_true] at h
    have := (okRa_len h.1.1).2
    rw [fitS_len]; omega
  · exact Nat.zero_le _
theorem fitL_no {L : List Int} {bar : Int} (h : okFit L bar = false) : fitL L bar = [] := by unfold fitL; rw [h]; rfl
theorem fitL_yes {L : List Int} {bar : Int} (h : okFit L bar = true) : fitL L bar = fitS bar L L.length := by unfold fitL; rw [if_pos h]
theorem okFit_at {L : List Int} {bar : Int} (h : okFit L bar = true) : okRa L = true ∧ okL bar = true ∧ ∀ x ∈ L, 1 ≤ x ∧ x ≤ bar := by
  unfold okFit at h
  rw [Bool.and_eq_true, Bool.and_eq_true] at h
  exact ⟨h.1.1, h.1.2, fun x hx => allIn_mem h.2 hx⟩
end Go.Proofs.Ytnijedmnjmeciaa
