/- What boards are handed out in turn: plain arithmetic for the loop. No condition. -/
import Derived.Test.YteiaidjknnbpjaaFitMath
import Derived.Test.YteiaidjknnbpjaaWork
import Derived.Test.YteiaidjknnbpjaaRow
namespace Go.Proofs.Yteiaidjknnbpjaa

theorem takenG_at : ∀ (C W : List Int) (p : Nat) (h : p < C.length), (takenG W C).getD p 0 = fitN C[p] (W.drop (posN (takenG W C) p))
  | c :: C, W, 0, _ => by simp [takenG, posN]
  | c :: C, W, p + 1, h => by
    have ih := takenG_at C (W.drop (fitN c W)) p (by simpa using h)
    rw [takenG]
    show (takenG (W.drop (fitN c W)) C).getD p 0 = _
    rw [ih, List.drop_drop]
    unfold posN
    rw [List.take_succ_cons, List.sum_cons]
    rfl
theorem posN_all (T : List Nat) : posN T T.length = T.sum := by unfold posN; rw [List.take_length]
theorem posN_getD {T : List Nat} {k : Nat} (h : k < T.length) : posN T (k + 1) = posN T k + T.getD k 0 := by rw [posN_succ h, getD_nat T k h]
theorem posN_mono (T : List Nat) {i k : Nat} (h : i ≤ k) : posN T i ≤ posN T k := by
  obtain ⟨d, rfl⟩ : ∃ d, k = i + d := ⟨k - i, by omega⟩
  induction d with
  | zero => exact Nat.le_refl _
  | succ d ih =>
    refine Nat.le_trans (ih (by omega)) ?_
    by_cases hk : i + d < T.length
    · rw [show i + (d + 1) = i + d + 1 by omega, posN_getD hk]; omega
    · unfold posN; rw [List.take_of_length_le (by omega), List.take_of_length_le (by omega)]; exact Nat.le_refl _
/-- the painter p, who has begun behind all before, has d boards; j are handed out -/
structure At (W C : List Int) (p j : Nat) : Prop where
  hp : p ≤ C.length
  hs : posN (takenG W C) p ≤ j
  hd : j - posN (takenG W C) p ≤ (takenG W C).getD p 0
/-- what the painter has worked so far -/
def workA (W C : List Int) (p j : Nat) : Int := ((W.drop (posN (takenG W C) p)).take (j - posN (takenG W C) p)).sum
/-- what each one has so far -/
def shareA (W C : List Int) (p j i : Nat) : Int := if i < p then ((takenG W C).getD i 0 : Int) else if i = p then ((j - posN (takenG W C) p : Nat) : Int) else 0
theorem at_zero (W C : List Int) : At W C 0 0 ∧ workA W C 0 0 = 0 ∧ ∀ i, shareA W C 0 0 i = 0 := by
  refine ⟨⟨Nat.zero_le _, Nat.le_refl _, Nat.zero_le _⟩, rfl, fun i => ?_⟩
  unfold shareA
  rw [if_neg (by omega)]
  split <;> rfl
theorem work_next {W C : List Int} {p j : Nat} (h : At W C p j) (hj : j < W.length) : workA W C p (j + 1) = workA W C p j + W[j] := by
  have hs := h.hs
  unfold workA
  have e : j + 1 - posN (takenG W C) p = j - posN (takenG W C) p + 1 := by omega
  rw [e, sum_take_succ (by rw [List.length_drop]; omega), List.getElem_drop]
  congr 2
  omega
theorem at_fits {W C : List Int} (hW : Pos W) {p j : Nat} (h : At W C p j) (hj : j < W.length) (hp : p < C.length) (hc : 0 ≤ C[p]) :
    (workA W C p j + W[j] ≤ C[p] ↔ j - posN (takenG W C) p + 1 ≤ (takenG W C).getD p 0) := by
  have hs := h.hs
  rw [← work_next h hj, takenG_at C W p hp]
  unfold workA
  have e : j + 1 - posN (takenG W C) p = j - posN (takenG W C) p + 1 := by omega
  rw [e]
  exact fitN_iff (hW.drop _) C[p] _ hc (by rw [List.length_drop]; omega)
theorem at_take {W C : List Int} (hW : Pos W) {p j : Nat} (h : At W C p j) (hj : j < W.length) (hp : p < C.length) (hc : 0 ≤ C[p]) (hf : workA W C p j + W[j] ≤ C[p]) :
    At W C p (j + 1) ∧ ∀ i, (if i = p then shareA W C p j p + 1 else shareA W C p j i) = shareA W C p (j + 1) i := by
  have hs := h.hs
  have := (at_fits hW h hj hp hc).1 hf
  refine ⟨⟨h.hp, by omega, by omega⟩, fun i => ?_⟩
  unfold shareA
  rw [if_neg (Nat.lt_irrefl p), if_pos rfl]
  by_cases e : i = p
  · subst e
    rw [if_pos rfl, if_neg (Nat.lt_irrefl i), if_pos rfl]
    omega
  · rw [if_neg e, if_neg e, if_neg e]
theorem at_jump {W C : List Int} (hW : Pos W) {p j : Nat} (h : At W C p j) (hj : j < W.length) (hp : p < C.length) (hc : 0 ≤ C[p]) (hf : ¬ workA W C p j + W[j] ≤ C[p]) :
    At W C (p + 1) j ∧ workA W C (p + 1) j = 0 ∧ ∀ i, shareA W C p j i = shareA W C (p + 1) j i := by
  have hs := h.hs
  have hd := h.hd
  have hn := mt (at_fits hW h hj hp hc).2 hf
  have e : posN (takenG W C) (p + 1) = j := by
    rw [posN_getD (by rw [takenG_len]; exact hp)]; omega
  refine ⟨⟨hp, by omega, by omega⟩, ?_, fun i => ?_⟩
  · unfold workA; rw [e, Nat.sub_self]; rfl
  · unfold shareA
    rw [e]
    by_cases h1 : i < p
    · rw [if_pos h1, if_pos (by omega)]
    · rw [if_neg h1]
      by_cases h2 : i = p
      · subst h2
        rw [if_pos rfl, if_pos (by omega)]
        congr 1
        omega
      · rw [if_neg h2, if_neg (by omega)]
        split
        · rw [Nat.sub_self]; rfl
        · rfl
theorem at_fail {W C : List Int} {j : Nat} (h : At W C C.length j) (hj : j < W.length) : leftG W C ≠ [] := by
  have hs := h.hs
  rw [← takenG_len C W, posN_all] at hs
  rw [leftG_eq]
  intro e
  rw [List.drop_eq_nil_iff] at e
  omega
theorem at_end {W C : List Int} {p : Nat} (h : At W C p W.length) : leftG W C = [] ∧ ∀ i, i < C.length → shareA W C p W.length i = ((takenG W C).getD i 0 : Int) := by
  have hs := h.hs
  have hd := h.hd
  have hle := takenG_sum_le C W
  have hpl := h.hp
  have key : (takenG W C).sum = W.length ∧ ∀ i, p < i → i < C.length → (takenG W C).getD i 0 = 0 := by
    by_cases hp : p < C.length
    · have e := posN_getD (T := takenG W C) (k := p) (by rw [takenG_len]; exact hp)
      have h1 := posN_le (takenG W C) (p + 1)
      refine ⟨by omega, fun i hi hic => ?_⟩
      have e2 := posN_getD (T := takenG W C) (k := i) (by rw [takenG_len]; exact hic)
      have h2 := posN_le (takenG W C) (i + 1)
      have h3 := posN_mono (takenG W C) (i := p + 1) (k := i) hi
      omega
    · have : p = C.length := by omega
      subst this
      have h1 := posN_le (takenG W C) C.length
      have hz : (takenG W C).getD C.length 0 = 0 := by
        rw [List.getD_eq_getElem?_getD, List.getElem?_eq_none (by rw [takenG_len]; omega)]; rfl
      exact ⟨by omega, fun i hi hic => by omega⟩
  refine ⟨by rw [leftG_eq, List.drop_eq_nil_iff]; omega, fun i hi => ?_⟩
  unfold shareA
  by_cases h1 : i < p
  · rw [if_pos h1]
  · rw [if_neg h1]
    by_cases h2 : i = p
    · subst h2
      rw [if_pos rfl]
      have e := posN_getD (T := takenG W C) (k := i) (by rw [takenG_len]; exact hi)
      have h3 := posN_le (takenG W C) (i + 1)
      congr 1
      omega
    · rw [if_neg h2, key.2 i (by omega) hi]; rfl
theorem taken_list (W C : List Int) : ((List.range C.length).map fun i => ((takenG W C).getD i 0 : Int)) = (takenG W C).map fun n : Nat => (n : Int) := by
  apply List.ext_getElem?
  intro i
  rw [List.getElem?_map, List.getElem?_map]
  by_cases hi : i < C.length
  · rw [List.getElem?_range hi, List.getElem?_eq_getElem (by rw [takenG_len]; exact hi)]
    simp only [Option.map_some]
    rw [getD_nat _ i (by rw [takenG_len]; exact hi)]
  · rw [List.getElem?_eq_none (by rw [List.length_range]; omega), List.getElem?_eq_none (by rw [takenG_len]; omega)]
    rfl
end Go.Proofs.Yteiaidjknnbpjaa
