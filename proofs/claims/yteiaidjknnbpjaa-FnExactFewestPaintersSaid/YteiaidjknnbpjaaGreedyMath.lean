/- What each painter gets who takes all that it can: plain arithmetic. No condition. -/
import Derived.Test.YteiaidjknnbpjaaHandMath
namespace Go.Proofs.Yteiaidjknnbpjaa

/-- as many painters as boards, each of whom works at most m -/
def capM (W : List Int) (m : Int) : List Int := List.replicate W.length m
def allLe (W : List Int) (m : Int) : Bool := W.all fun x => decide (x ≤ m)
/-- what the painters get who get boards -/
def greedyL (W : List Int) (m : Int) : List Nat := (takenG W (capM W m)).filter fun n => !(n == 0)
theorem capM_len (W : List Int) (m : Int) : (capM W m).length = W.length := List.length_replicate ..
theorem capM_at (W : List Int) (m : Int) (p : Nat) (h : p < (capM W m).length) : (capM W m)[p] = m := List.getElem_replicate ..
theorem fit_le : ∀ (W : List Int) (c : Int), Pos W → ∀ x ∈ W.take (fitN c W), x ≤ c
  | [], c, _, x, hx => by simp [fitN] at hx
  | y :: W, c, hW, x, hx => by
    have hy := hW y (List.mem_cons_self ..)
    unfold fitN at hx
    split at hx
    · next h =>
      rw [List.take_succ_cons] at hx
      rcases List.mem_cons.1 hx with rfl | hx
      · exact h
      · have := fit_le W (c - y) hW.tail x hx; omega
    · simp at hx
theorem left_all : ∀ (C W : List Int) (m : Int), (∀ c ∈ C, c ≤ m) → Pos W → leftG W C = [] → ∀ x ∈ W, x ≤ m
  | [], W, m, _, _, h, x, hx => by
    have h : W = [] := h
    rw [h] at hx; cases hx
  | c :: C, W, m, hC, hW, h, x, hx => by
    rw [leftG] at h
    rw [← List.take_append_drop (fitN c W) W] at hx
    rcases List.mem_append.1 hx with hx | hx
    · have := fit_le W c hW x hx
      have := hC c (List.mem_cons_self ..)
      omega
    · exact left_all C _ m (fun d hd => hC d (List.mem_cons_of_mem _ hd)) (hW.drop _) h x hx
/-- j boards are handed out, the last of them to the painter p, and nobody up to p is without one -/
structure GAt (W : List Int) (m : Int) (p j : Nat) : Prop where
  at_ : At W (capM W m) p j
  hp : p + 1 ≤ j
  h1 : ∀ i, i ≤ p → 1 ≤ shareA W (capM W m) p j i
theorem g_start {W : List Int} {m : Int} (hW : Pos W) (hm : 0 ≤ m) (h0 : 0 < W.length) (h : W[0] ≤ m) : GAt W m 0 1 ∧ shareA W (capM W m) 0 1 0 = 1 ∧ workA W (capM W m) 0 1 = W[0] := by
  obtain ⟨a, b, c⟩ := at_zero W (capM W m)
  have hp : 0 < (capM W m).length := by rw [capM_len]; exact h0
  have e := work_next a h0
  obtain ⟨d1, d2⟩ := at_take hW a h0 hp (by rw [capM_at]; exact hm) (by rw [capM_at, b, Int.zero_add]; exact h)
  have d3 := d2 0
  rw [if_pos rfl, c 0] at d3
  refine ⟨⟨d1, Nat.le_refl _, fun i hi => ?_⟩, d3.symm, by rw [e, b, Int.zero_add]⟩
  obtain rfl : i = 0 := by omega
  rw [← d3]; decide
theorem g_take {W : List Int} {m : Int} (hW : Pos W) (hm : 0 ≤ m) {p j : Nat} (g : GAt W m p j) (hj : j < W.length) (h : workA W (capM W m) p j + W[j] ≤ m) :
    GAt W m p (j + 1) ∧ (∀ i, (if i = p then shareA W (capM W m) p j p + 1 else shareA W (capM W m) p j i) = shareA W (capM W m) p (j + 1) i) ∧ workA W (capM W m) p (j + 1) = workA W (capM W m) p j + W[j] := by
  have hp : p < (capM W m).length := by rw [capM_len]; have := g.hp; omega
  obtain ⟨d1, d2⟩ := at_take hW g.at_ hj hp (by rw [capM_at]; exact hm) (by rw [capM_at]; exact h)
  refine ⟨⟨d1, by have := g.hp; omega, fun i hi => ?_⟩, d2, work_next g.at_ hj⟩
  rw [← d2 i]
  split
  · have := g.h1 p (Nat.le_refl _); omega
  · exact g.h1 i hi
theorem g_jump {W : List Int} {m : Int} (hW : Pos W) (hm : 0 ≤ m) {p j : Nat} (g : GAt W m p j) (hj : j < W.length) (h : ¬ workA W (capM W m) p j + W[j] ≤ m) (hx : W[j] ≤ m) :
    GAt W m (p + 1) (j + 1) ∧ (∀ i, i ≤ p → shareA W (capM W m) (p + 1) (j + 1) i = shareA W (capM W m) p j i) ∧ shareA W (capM W m) (p + 1) (j + 1) (p + 1) = 1 ∧ workA W (capM W m) (p + 1) (j + 1) = W[j] := by
  have hgp := g.hp
  have hp : p < (capM W m).length := by rw [capM_len]; omega
  obtain ⟨a1, a2, a3⟩ := at_jump hW g.at_ hj hp (by rw [capM_at]; exact hm) (by rw [capM_at]; exact h)
  have hp1 : p + 1 < (capM W m).length := by rw [capM_len]; omega
  obtain ⟨d1, d2⟩ := at_take hW a1 hj hp1 (by rw [capM_at]; exact hm) (by rw [capM_at, a2, Int.zero_add]; exact hx)
  have hs : ∀ i, i ≤ p → shareA W (capM W m) (p + 1) (j + 1) i = shareA W (capM W m) p j i := fun i hi => by rw [← d2 i, if_neg (by omega), a3 i]
  have hz : shareA W (capM W m) (p + 1) j (p + 1) = 0 := by
    rw [← a3 (p + 1)]
    unfold shareA
    rw [if_neg (by omega), if_neg (by omega)]
  have h1 : shareA W (capM W m) (p + 1) (j + 1) (p + 1) = 1 := by rw [← d2 (p + 1), if_pos rfl, hz]; rfl
  refine ⟨⟨d1, by omega, fun i hi => ?_⟩, hs, h1, by rw [work_next a1 hj, a2, Int.zero_add]⟩
  by_cases e : i = p + 1
  · subst e; rw [h1]; decide
  · rw [hs i (by omega)]; exact g.h1 i (by omega)
theorem g_end {W : List Int} {m : Int} {p : Nat} (g : GAt W m p W.length) :
    leftG W (capM W m) = [] ∧ ((List.range (p + 1)).map (shareA W (capM W m) p W.length)) = (greedyL W m).map fun n : Nat => (n : Int) := by
  obtain ⟨h1, h2⟩ := at_end g.at_
  have hp := g.hp
  refine ⟨h1, ?_⟩
  obtain ⟨T, hT⟩ : ∃ T, T = takenG W (capM W m) := ⟨_, rfl⟩
  have hTl : T.length = W.length := by rw [hT, takenG_len, capM_len]
  unfold greedyL
  rw [capM_len] at h2
  rw [← hT] at h2 ⊢
  have hz : ∀ i, p < i → i < W.length → T.getD i 0 = 0 := fun i hi hil => by
    have := h2 i hil
    unfold shareA at this
    rw [if_neg (by omega), if_neg (by omega)] at this
    omega
  have e : T.filter (fun n => !(n == 0)) = T.take (p + 1) := by
    conv => lhs; rw [← List.take_append_drop (p + 1) T]
    rw [List.filter_append]
    have e1 : (T.take (p + 1)).filter (fun n => !(n == 0)) = T.take (p + 1) := by
      rw [List.filter_eq_self]
      intro x hx
      obtain ⟨i, hi, rfl⟩ := List.getElem_of_mem hx
      rw [List.length_take] at hi
      rw [List.getElem_take]
      have h3 := g.h1 i (by omega)
      have h4 := h2 i (by omega)
      rw [getD_nat T i (by omega)] at h4
      have : T[i] ≠ 0 := by omega
      simpa using this
    have e2 : (T.drop (p + 1)).filter (fun n => !(n == 0)) = [] := by
      rw [List.filter_eq_nil_iff]
      intro x hx
      obtain ⟨i, hi, rfl⟩ := List.getElem_of_mem hx
      rw [List.length_drop] at hi
      rw [List.getElem_drop]
      have := hz (p + 1 + i) (by omega) (by omega)
      rw [getD_nat T _ (by omega)] at this
      simp [this]
    rw [e1, e2, List.append_nil]
  rw [e]
  apply List.ext_getElem?
  intro i
  rw [List.getElem?_map, List.getElem?_map]
  by_cases hi : i < p + 1
  · rw [List.getElem?_range hi, List.getElem?_take_of_lt hi, List.getElem?_eq_getElem (by omega)]
    simp only [Option.map_some]
    rw [h2 i (by omega), getD_nat T i (by omega)]
  · rw [List.getElem?_eq_none (by rw [List.length_range]; omega), List.getElem?_eq_none (by rw [List.length_take]; omega)]
    rfl
theorem greedy_len (W : List Int) (m : Int) : (greedyL W m).length ≤ W.length := by
  unfold greedyL
  refine Nat.le_trans (List.length_filter_le ..) ?_
  rw [takenG_len, capM_len]
  exact Nat.le_refl _
theorem left_iff_one {W : List Int} {m : Int} (hW : Pos W) (hm : 0 ≤ m) (h0 : 0 < W.length) : leftG W (capM W m) = [] ↔ allLe W m = true := by
  unfold allLe
  rw [List.all_eq_true]
  constructor
  · intro h x hx
    exact decide_eq_true (left_all (capM W m) W m (fun c hc => by obtain ⟨_, rfl⟩ := List.mem_replicate.1 hc; exact Int.le_refl _) hW h x hx)
  · intro h
    have hx : ∀ j (hj : j < W.length), W[j] ≤ m := fun j hj => of_decide_eq_true (h _ (List.getElem_mem hj))
    have key : ∀ j, 1 ≤ j → j ≤ W.length → ∃ p, GAt W m p j := by
      intro j
      induction j with
      | zero => intro h; omega
      | succ j ih =>
        intro _ hj
        rcases Nat.eq_zero_or_pos j with e | e
        · subst e; exact ⟨0, (g_start hW hm h0 (hx 0 h0)).1⟩
        · obtain ⟨p, g⟩ := ih e (by omega)
          by_cases hf : workA W (capM W m) p j + W[j] ≤ m
          · exact ⟨p, (g_take hW hm g (by omega) hf).1⟩
          · exact ⟨p + 1, (g_jump hW hm g (by omega) hf (hx j (by omega))).1⟩
    obtain ⟨p, g⟩ := key W.length h0 (Nat.le_refl _)
    exact (g_end g).1
end Go.Proofs.Yteiaidjknnbpjaa
