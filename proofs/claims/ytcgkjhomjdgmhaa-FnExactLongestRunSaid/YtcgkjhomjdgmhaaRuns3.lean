/- RunsOf: the two functions. No condition but the text's length. -/
import Derived.Test.YtcgkjhomjdgmhaaRuns2
namespace Go.Proofs.Ytcgkjhomjdgmhaa
open Go.RowKit Go.Maps

/-- the last board of a run, as the first boards tell it -/
def eo (s : ByteArray) : Nat → Nat → Nat
  | 0, _ => 0
  | m + 1, y => if fo s m = y then m else eo s m y
def mkR (s : ByteArray) (m y : Nat) : Strk := ⟨(y : Int), (eo s m y : Int), s.extract y (y + 1)⟩
def stB (s : ByteArray) (y : Nat) : Bool := decide (fo s y = y)
def firstsL (s : ByteArray) (m x : Nat) : List Strk := ((List.range x).filter (stB s)).map (mkR s m)
theorem firsts_eq (s : ByteArray) : ∀ m, (List.range (m + 1)).filter (stB s) = (List.range (fo s m)).filter (stB s) ++ [fo s m]
  | 0 => by
    rw [List.range_succ, List.filter_append]
    simp [stB, fo]
  | m + 1 => by
    rw [List.range_succ, List.filter_append]
    by_cases h : s.data.toList[m + 1]? = s.data.toList[m]?
    · have e : fo s (m + 1) = fo s m := by rw [fo, if_pos h]
      have hl := fo_le s m
      have : stB s (m + 1) = false := by unfold stB; rw [e]; exact decide_eq_false (by omega)
      rw [firsts_eq s m, e]
      simp [this]
    · have e : fo s (m + 1) = m + 1 := by rw [fo, if_neg h]
      have : stB s (m + 1) = true := by unfold stB; rw [e]; exact decide_eq_true rfl
      rw [e]
      simp [this]
theorem mkR_stable {s : ByteArray} {m y : Nat} (h : fo s m ≠ y) : mkR s (m + 1) y = mkR s m y := by unfold mkR; rw [eo, if_neg h]
theorem mkR_last (s : ByteArray) (m : Nat) : mkR s (m + 1) (fo s m) = lastR s m := by unfold mkR lastR; rw [eo, if_pos rfl]
theorem map_stable {s : ByteArray} {m n : Nat} (h : ∀ y, y < n → fo s m ≠ y) : ((List.range n).filter (stB s)).map (mkR s (m + 1)) = ((List.range n).filter (stB s)).map (mkR s m) := by
  apply List.map_congr_left
  intro y hy
  exact mkR_stable (h y (List.mem_range.1 (List.mem_filter.1 hy).1))
theorem doneL_eq (s : ByteArray) : ∀ m, doneL s m = ((List.range (fo s m)).filter (stB s)).map (mkR s (m + 1))
  | 0 => rfl
  | m + 1 => by
    have ih := doneL_eq s m
    by_cases h : s.data.toList[m + 1]? = s.data.toList[m]?
    · have e : fo s (m + 1) = fo s m := by rw [fo, if_pos h]
      rw [doneL, if_pos h, ih, e, map_stable (m := m + 1) (fun y hy => by rw [e]; omega)]
    · have e : fo s (m + 1) = m + 1 := by rw [fo, if_neg h]
      have hl := fo_le s m
      rw [doneL, if_neg h, ih, e, firsts_eq s m, List.map_append, map_stable (m := m + 1) (fun y hy => by rw [e]; omega)]
      congr 1
      rw [List.map_cons, List.map_nil, mkR_stable (by rw [e]; omega), mkR_last]
theorem runsL_eq (s : ByteArray) (m : Nat) : runsL s (m + 1) = firstsL s (m + 1) (m + 1) := by
  unfold firstsL
  rw [runsL, doneL_eq, firsts_eq, List.map_append, List.map_cons, List.map_nil, mkR_last]

/-- a run that is not of bare boards -/
def nbR (r : Strk) : Bool := !(r.c.toList == [46])
/-- what RunsOf returns -/
def outR (s : ByteArray) : List Strk := (runsL s s.size).filter nbR
def accR (s : ByteArray) (x : Nat) : List Strk := (firstsL s s.size x).filter nbR
theorem accR_all {s : ByteArray} (h : 1 ≤ s.size) : accR s s.size = outR s := by
  unfold accR outR
  obtain ⟨m, hm⟩ : ∃ m, s.size = m + 1 := ⟨s.size - 1, by omega⟩
  rw [hm, runsL_eq]
theorem accR_yes {s : ByteArray} {x : Nat} (h : stB s x = true) (hn : nbR (mkR s s.size x) = true) : accR s (x + 1) = accR s x ++ [mkR s s.size x] := by
  unfold accR firstsL
  rw [List.range_succ, List.filter_append, List.map_append, List.filter_append]
  simp [h, hn]
theorem accR_bare {s : ByteArray} {x : Nat} (hn : nbR (mkR s s.size x) = false) : accR s (x + 1) = accR s x := by
  unfold accR firstsL
  rw [List.range_succ, List.filter_append, List.map_append, List.filter_append]
  cases h : stB s x <;> simp [h, hn]
theorem accR_no {s : ByteArray} {x : Nat} (h : stB s x = false) : accR s (x + 1) = accR s x := by
  unfold accR firstsL
  rw [List.range_succ, List.filter_append, List.map_append, List.filter_append]
  simp [h]
theorem accR_len (s : ByteArray) : ∀ x, (accR s x).length ≤ x
  | 0 => by simp [accR, firstsL]
  | x + 1 => by
    have ih := accR_len s x
    cases h : stB s x
    · rw [accR_no h]; omega
    · cases hn : nbR (mkR s s.size x)
      · rw [accR_bare hn]; omega
      · rw [accR_yes h hn, List.length_append]; simp; omega
theorem outR_len {s : ByteArray} (h : 1 ≤ s.size) : (outR s).length ≤ s.size := by rw [← accR_all h]; exact accR_len s _
theorem fo_idem (s : ByteArray) : ∀ k, fo s (fo s k) = fo s k
  | 0 => rfl
  | k + 1 => by
    by_cases h : s.data.toList[k + 1]? = s.data.toList[k]?
    · have e : fo s (k + 1) = fo s k := by rw [fo, if_pos h]
      rw [e, fo_idem s k]
    · have e : fo s (k + 1) = k + 1 := by rw [fo, if_neg h]
      rw [e, e]
theorem mapD_start {s : ByteArray} {n x : Nat} (hx : x < n) : has (mapD s n) (.int .i64 (x : Int)) = stB s x := by
  cases h : stB s x
  · rw [Bool.eq_false_iff]
    intro hh
    obtain ⟨j, hj, hf⟩ := (mapD_has s _ n).1 hh
    have : fo s j = x := by omega
    have h2 := fo_idem s j
    rw [this] at h2
    unfold stB at h
    exact (of_decide_eq_false h) h2
  · exact (mapD_has s _ n).2 ⟨x, hx, by rw [of_decide_eq_true h]⟩
theorem mapD_val (s : ByteArray) (x : Nat) : ∀ n, (mapD s n).atKey (.int .i64 (x : Int)) (.lit (.int .i64 0)) = .lit (.int .i64 (eo s n x : Int))
  | 0 => rfl
  | n + 1 => by
    rw [mapD, eo]
    by_cases e : fo s n = x
    · rw [if_pos e, ← e]
      exact atKey_put_same (mapD_is s n) (isKey _) _ _
    · rw [if_neg e]
      rw [atKey_put_other (by intro h; injection h with _ h; omega)]
      exact mapD_val s x n
theorem eo_le (s : ByteArray) (x : Nat) : ∀ n, eo s n x ≤ n
  | 0 => Nat.le_refl _
  | n + 1 => by
    have := eo_le s x n
    unfold eo; split <;> omega
end Go.Proofs.Ytcgkjhomjdgmhaa
