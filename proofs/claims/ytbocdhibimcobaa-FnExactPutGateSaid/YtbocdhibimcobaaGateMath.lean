/- Gates: what both sides reckon with parts. No condition. -/
import Derived.Test.YtbocdhibimcobaaInc
import Derived.Test.YtbocdhibimcobaaNums
import Derived.Test.YtbocdhibimcobaaRow
namespace Go.Proofs.Ytbocdhibimcobaa
open Go.RowKit

/-- a row of boards -/
def okRow (n : Int) : Bool := decide (2 ≤ n ∧ n ≤ 40)
theorem okRow_at {n : Int} (h : okRow n = true) : 2 ≤ n ∧ n ≤ 40 := of_decide_eq_true h
/-- gates of a row -/
def okGa (n : Int) (L : List Int) : Bool := okRow n && (decide (L.length ≤ 10) && incF n 1 L)
theorem okGa_at {n : Int} {L : List Int} (h : okGa n L = true) : (2 ≤ n ∧ n ≤ 40) ∧ L.length ≤ 10 ∧ incF n 1 L = true := by
  unfold okGa at h
  rw [Bool.and_eq_true, Bool.and_eq_true, decide_eq_true_iff] at h
  exact ⟨okRow_at h.1, h.2⟩
theorem incF_mem {n : Int} : ∀ {L : List Int} {lo : Int}, incF n lo L = true → ∀ x ∈ L, lo ≤ x ∧ x < n
  | [], _, _, x, hx => absurd hx (by simp)
  | y :: L, lo, h, x, hx => by
    have h' : (decide (lo ≤ y ∧ y < n) && incF n (y + 1) L) = true := h
    rw [Bool.and_eq_true, decide_eq_true_iff] at h'
    rcases List.mem_cons.1 hx with rfl | hx
    · exact h'.1
    · have := incF_mem h'.2 x hx
      omega
theorem incF_lt {n : Int} : ∀ {L : List Int} {lo : Int}, incF n lo L = true → ∀ {k : Nat} (hk : k + 1 < L.length), L[k] < L[k + 1]
  | [], _, _, k, hk => absurd hk (by simp)
  | y :: L, lo, h, k, hk => by
    have h' : (decide (lo ≤ y ∧ y < n) && incF n (y + 1) L) = true := h
    rw [Bool.and_eq_true, decide_eq_true_iff] at h'
    cases k with
    | zero =>
      have hk2 : 0 < L.length := by simpa using hk
      have := (incF_mem h'.2 L[0] (List.getElem_mem hk2)).1
      show y < L[0]
      omega
    | succ k => exact incF_lt h'.2 (by simpa using hk)
theorem incF_one (n : Int) (L : List Int) : (incF n 0 L && !decide ((0 : Int) ∈ L)) = incF n 1 L := by
  cases L with
  | nil => rfl
  | cons x L =>
    show ((decide (0 ≤ x ∧ x < n) && incF n (x + 1) L) && !decide ((0 : Int) ∈ x :: L)) = (decide (1 ≤ x ∧ x < n) && incF n (x + 1) L)
    cases h : incF n (x + 1) L
    · simp
    · have hm := incF_mem h
      by_cases h0 : x = 0
      · subst h0
        rw [decide_eq_true (show (0 : Int) ∈ 0 :: L by simp), decide_eq_false (show ¬ ((1 : Int) ≤ 0 ∧ (0 : Int) < n) by omega)]
        simp
      · by_cases h1 : 0 ≤ x
        · have hn : ¬ (0 : Int) ∈ x :: L := by
            rw [List.mem_cons]
            rintro (h2 | h2)
            · exact h0 h2.symm
            · have := hm 0 h2; omega
          rw [decide_eq_false hn]
          have e : decide (0 ≤ x ∧ x < n) = decide (1 ≤ x ∧ x < n) := by rw [decide_eq_decide]; omega
          rw [e]; simp
        · rw [decide_eq_false (show ¬ (0 ≤ x ∧ x < n) by omega), decide_eq_false (show ¬ (1 ≤ x ∧ x < n) by omega)]; rfl

/-- where the part k begins -/
def bdG (n : Int) (L : List Int) : Nat → Int
  | 0 => 0
  | k + 1 => L.getD k n
/-- how long the part k is -/
def prt (n : Int) (L : List Int) (k : Nat) : Int := bdG n L (k + 1) - bdG n L k
def partL (n : Int) (L : List Int) : List Int := (List.range (L.length + 1)).map (prt n L)
theorem partL_len (n : Int) (L : List Int) : (partL n L).length = L.length + 1 := by simp [partL]
theorem partL_at (n : Int) (L : List Int) (k : Nat) (h : k < (partL n L).length) : (partL n L)[k] = prt n L k := by simp [partL]
theorem bdG_at {n : Int} {L : List Int} {k : Nat} (h : k < L.length) : bdG n L (k + 1) = L[k] := by
  show L.getD k n = _
  rw [List.getD_eq_getElem?_getD, List.getElem?_eq_getElem h]; rfl
theorem bdG_end (n : Int) (L : List Int) : bdG n L (L.length + 1) = n := by
  show L.getD L.length n = _
  rw [List.getD_eq_getElem?_getD, List.getElem?_eq_none (Nat.le_refl _)]; rfl
theorem prt_bd {n : Int} {L : List Int} (h : okGa n L = true) {k : Nat} (hk : k ≤ L.length) : 1 ≤ prt n L k ∧ prt n L k ≤ n ∧ 0 ≤ bdG n L k ∧ bdG n L k + 1 ≤ bdG n L (k + 1) ∧ bdG n L (k + 1) ≤ n := by
  obtain ⟨hn, hl, hi⟩ := okGa_at h
  have hlo : 0 ≤ bdG n L k := by
    cases k with
    | zero => exact Int.le_refl _
    | succ k =>
      rw [bdG_at (by omega)]
      have := incF_mem hi L[k] (List.getElem_mem _)
      omega
  have hhi : bdG n L (k + 1) ≤ n := by
    rcases Nat.lt_or_ge k L.length with h1 | h1
    · rw [bdG_at h1]
      have := incF_mem hi L[k] (List.getElem_mem _)
      omega
    · rw [show k = L.length by omega, bdG_end]; exact Int.le_refl _
  have hst : bdG n L k + 1 ≤ bdG n L (k + 1) := by
    cases k with
    | zero =>
      show 0 + 1 ≤ _
      rcases Nat.lt_or_ge 0 L.length with h1 | h1
      · rw [bdG_at h1]
        have := incF_mem hi L[0] (List.getElem_mem _)
        omega
      · rw [show 0 = L.length by omega, bdG_end]; omega
    | succ k =>
      rw [bdG_at (by omega)]
      rcases Nat.lt_or_ge (k + 1) L.length with h1 | h1
      · rw [bdG_at h1]
        have := incF_lt hi h1
        omega
      · rw [show k + 1 = L.length by omega, bdG_end]
        have := incF_mem hi L[k] (List.getElem_mem _)
        omega
  unfold prt
  omega
theorem partL_bd {n : Int} {L : List Int} (h : okGa n L = true) : ∀ x ∈ partL n L, 1 ≤ x ∧ x ≤ n := fun x hx => by
  unfold partL at hx
  obtain ⟨k, hk, rfl⟩ := List.mem_map.1 hx
  have := prt_bd h (k := k) (by have := List.mem_range.1 hk; omega)
  omega
theorem partL_sum (n : Int) (L : List Int) : ∀ j, ((List.range j).map (prt n L)).sum = bdG n L j
  | 0 => rfl
  | j + 1 => by
    rw [List.range_succ, List.map_append, List.sum_append, partL_sum n L j]
    unfold prt
    simp; omega
theorem partL_total (n : Int) (L : List Int) : (partL n L).sum = n := by
  unfold partL
  rw [partL_sum, bdG_end]
theorem prt_congr (n : Int) (L : List Int) : partL n L = (List.range (L.length + 1)).map (prt n L) := rfl

/-- the first place of a number -/
theorem idxOf_at {b : Int} : ∀ {R : List Int} {k : Nat} (hk : k < R.length), b ∉ R.take k → R[k] = b → R.idxOf b = k
  | [], k, hk, _, _ => absurd hk (by simp)
  | x :: R, 0, _, _, h => by
    have h' : x = b := h
    rw [h', List.idxOf_cons_self]
  | x :: R, k + 1, hk, hn, h => by
    rw [List.take_succ_cons, List.mem_cons, not_or] at hn
    have hb : (x == b) = false := by rw [beq_eq_false_iff_ne]; exact fun e => hn.1 e.symm
    rw [List.idxOf_cons, hb, idxOf_at (by simpa using hk) hn.2 (by simpa using h)]; rfl
/-- the place and the number that are told behind k numbers, the greatest so far -/
def topS (P : List Int) (k : Nat) : Nat × Int := if k = 0 then (0, 0) else (P.idxOf (Lib.maxOf (P.take k)), Lib.maxOf (P.take k))
theorem maxOf_mem : ∀ {L : List Int}, 0 < L.length → Lib.maxOf L ∈ L ∧ ∀ x ∈ L, x ≤ Lib.maxOf L := fun {L} h => by
  have h2 := (maxOf_le h (Lib.maxOf L)).1 (Int.le_refl _)
  refine ⟨?_, h2⟩
  rcases Classical.em (Lib.maxOf L ∈ L) with h3 | h3
  · exact h3
  · exfalso
    have h4 : Lib.maxOf L ≤ Lib.maxOf L - 1 := (maxOf_le h _).2 fun x hx => by
      have := h2 x hx
      have : x ≠ Lib.maxOf L := fun e => h3 (e ▸ hx)
      omega
    omega
theorem minOf_mem : ∀ {L : List Int}, 0 < L.length → Lib.minOf L ∈ L ∧ ∀ x ∈ L, Lib.minOf L ≤ x := fun {L} h => by
  have h2 := (minOf_ge h (Lib.minOf L)).1 (Int.le_refl _)
  refine ⟨?_, h2⟩
  rcases Classical.em (Lib.minOf L ∈ L) with h3 | h3
  · exact h3
  · exfalso
    have h4 : Lib.minOf L + 1 ≤ Lib.minOf L := (minOf_ge h _).2 fun x hx => by
      have := h2 x hx
      have : x ≠ Lib.minOf L := fun e => h3 (e ▸ hx)
      omega
    omega
theorem topS_yes {P : List Int} {k : Nat} (hk : k < P.length) (h : (topS P k).2 < P[k]) : topS P (k + 1) = (k, P[k]) := by
  have hl : 0 < (P.take (k + 1)).length := by rw [List.length_take]; omega
  have hm : Lib.maxOf (P.take (k + 1)) = P[k] := by
    have h1 := maxOf_mem hl
    have h2 : P[k] ∈ P.take (k + 1) := by rw [List.take_succ_eq_append_getElem hk]; exact List.mem_append_right _ (List.mem_singleton.2 rfl)
    have h3 : Lib.maxOf (P.take (k + 1)) ≤ P[k] := (maxOf_le hl _).2 fun x hx => by
      rw [List.take_succ_eq_append_getElem hk, List.mem_append, List.mem_singleton] at hx
      rcases hx with hx | rfl
      · rcases Nat.eq_zero_or_pos k with h0 | h0
        · subst h0; simp at hx
        · unfold topS at h
          rw [if_neg (by omega)] at h
          have := (maxOf_mem (L := P.take k) (by rw [List.length_take]; omega)).2 x hx
          have h' : Lib.maxOf (P.take k) < P[k] := h
          omega
      · exact Int.le_refl _
    have := h1.2 _ h2
    omega
  unfold topS
  rw [if_neg (by omega), hm]
  refine Prod.ext (idxOf_at hk (fun hx => ?_) rfl) rfl
  rcases Nat.eq_zero_or_pos k with h0 | h0
  · subst h0; simp at hx
  · unfold topS at h
    rw [if_neg (by omega)] at h
    have := (maxOf_mem (L := P.take k) (by rw [List.length_take]; omega)).2 _ hx
    have h' : Lib.maxOf (P.take k) < P[k] := h
    omega
theorem topS_no {P : List Int} {k : Nat} (hk : k < P.length) (hp : ∀ x ∈ P, 1 ≤ x) (h : ¬ (topS P k).2 < P[k]) : topS P (k + 1) = topS P k := by
  rcases Nat.eq_zero_or_pos k with h0 | h0
  · subst h0
    exact absurd (show (0 : Int) < P[0] from by have := hp P[0] (List.getElem_mem _); omega) h
  · have hm : Lib.maxOf (P.take (k + 1)) = Lib.maxOf (P.take k) := by
      unfold topS at h
      rw [if_neg (by omega)] at h
      have h' : ¬ Lib.maxOf (P.take k) < P[k] := h
      have h1 := maxOf_mem (L := P.take k) (by rw [List.length_take]; omega)
      have h2 := maxOf_mem (L := P.take (k + 1)) (by rw [List.length_take]; omega)
      have h3 := h2.2 (Lib.maxOf (P.take k)) (by rw [List.take_succ_eq_append_getElem hk]; exact List.mem_append_left _ h1.1)
      have h4 := h2.1
      rw [List.take_succ_eq_append_getElem hk, List.mem_append, List.mem_singleton] at h4
      rw [← List.take_succ_eq_append_getElem hk] at h4
      rcases h4 with h4 | h4
      · have := h1.2 _ h4; omega
      · omega
    unfold topS
    rw [if_neg (by omega), if_neg (by omega), hm]
/-- .. the least so far, of numbers up to n -/
def lowS (n : Int) (P : List Int) (k : Nat) : Nat × Int := if k = 0 then (0, n) else (P.idxOf (Lib.minOf (P.take k)), Lib.minOf (P.take k))
theorem lowS_yes {n : Int} {P : List Int} {k : Nat} (hk : k < P.length) (h : P[k] < (lowS n P k).2) : lowS n P (k + 1) = (k, P[k]) := by
  have hl : 0 < (P.take (k + 1)).length := by rw [List.length_take]; omega
  have hm : Lib.minOf (P.take (k + 1)) = P[k] := by
    have h1 := minOf_mem hl
    have h2 : P[k] ∈ P.take (k + 1) := by rw [List.take_succ_eq_append_getElem hk]; exact List.mem_append_right _ (List.mem_singleton.2 rfl)
    have h3 : P[k] ≤ Lib.minOf (P.take (k + 1)) := (minOf_ge hl _).2 fun x hx => by
      rw [List.take_succ_eq_append_getElem hk, List.mem_append, List.mem_singleton] at hx
      rcases hx with hx | rfl
      · rcases Nat.eq_zero_or_pos k with h0 | h0
        · subst h0; simp at hx
        · unfold lowS at h
          rw [if_neg (by omega)] at h
          have := (minOf_mem (L := P.take k) (by rw [List.length_take]; omega)).2 x hx
          have h' : P[k] < Lib.minOf (P.take k) := h
          omega
      · exact Int.le_refl _
    have := h1.2 _ h2
    omega
  unfold lowS
  rw [if_neg (by omega), hm]
  refine Prod.ext (idxOf_at hk (fun hx => ?_) rfl) rfl
  rcases Nat.eq_zero_or_pos k with h0 | h0
  · subst h0; simp at hx
  · unfold lowS at h
    rw [if_neg (by omega)] at h
    have := (minOf_mem (L := P.take k) (by rw [List.length_take]; omega)).2 _ hx
    have h' : P[k] < Lib.minOf (P.take k) := h
    omega
theorem lowS_no {n : Int} {P : List Int} {k : Nat} (hk : k < P.length) (hp : ∀ x ∈ P, x ≤ n) (h : ¬ P[k] < (lowS n P k).2) : lowS n P (k + 1) = lowS n P k := by
  rcases Nat.eq_zero_or_pos k with h0 | h0
  · subst h0
    have h1 : ¬ P[0] < n := h
    have h2 := hp P[0] (List.getElem_mem _)
    have h3 : P[0] = n := by omega
    have ht : P.take 1 = [P[0]] := by rw [List.take_succ_eq_append_getElem hk]; rfl
    unfold lowS
    rw [if_neg (by omega), if_pos rfl, ht]
    have hm : Lib.minOf [P[0]] = P[0] := by
      have := minOf_mem (L := [P[0]]) (by simp)
      simpa using this.1
    rw [hm, idxOf_at hk (by simp) rfl, h3]
  · have hm : Lib.minOf (P.take (k + 1)) = Lib.minOf (P.take k) := by
      unfold lowS at h
      rw [if_neg (by omega)] at h
      have h' : ¬ P[k] < Lib.minOf (P.take k) := h
      have h1 := minOf_mem (L := P.take k) (by rw [List.length_take]; omega)
      have h2 := minOf_mem (L := P.take (k + 1)) (by rw [List.length_take]; omega)
      have h3 := h2.2 (Lib.minOf (P.take k)) (by rw [List.take_succ_eq_append_getElem hk]; exact List.mem_append_left _ h1.1)
      have h4 := h2.1
      rw [List.take_succ_eq_append_getElem hk, List.mem_append, List.mem_singleton] at h4
      rw [← List.take_succ_eq_append_getElem hk] at h4
      rcases h4 with h4 | h4
      · have := h1.2 _ h4; omega
      · omega
    unfold lowS
    rw [if_neg (by omega), if_neg (by omega), hm]
end Go.Proofs.Ytbocdhibimcobaa
