/- One gate more: what both sides reckon. No condition. -/
import Derived.Test.YtbocdhibimcobaaBinS
namespace Go.Proofs.Ytbocdhibimcobaa
open Go.RowKit

/-- a number put ahead of the first that is not less -/
def insR (x : Int) : List Int → List Int
  | [] => [x]
  | y :: L => if y < x then y :: insR x L else x :: y :: L
theorem insR_len (x : Int) : ∀ L : List Int, (insR x L).length = L.length + 1
  | [] => rfl
  | y :: L => by
    unfold insR
    split
    · rw [List.length_cons, insR_len x L, List.length_cons]
    · rfl
theorem insR_take {n x : Int} : ∀ {L : List Int} {lo : Int}, incF n lo L = true → insR x L = L.take (lessN L x) ++ x :: L.drop (lessN L x)
  | [], _, _ => rfl
  | y :: L, lo, h => by
    have h' : (decide (lo ≤ y ∧ y < n) && incF n (y + 1) L) = true := h
    rw [Bool.and_eq_true] at h'
    have hm := incF_mem h'.2
    unfold insR
    by_cases h1 : y < x
    · have ih := insR_take (x := x) h'.2
      unfold lessN at *
      rw [if_pos h1, List.countP_cons, if_pos (by simpa using h1), List.take_succ_cons, List.drop_succ_cons, ih]
      rfl
    · have hc : L.countP (· < x) = 0 := by
        rw [List.countP_eq_zero]
        intro z hz
        have := hm z hz
        simp; omega
      unfold lessN
      rw [if_neg h1, List.countP_cons, if_neg (by simpa using h1), hc]
      rfl
theorem insR_inc {n x : Int} : ∀ {L : List Int} {lo : Int}, incF n lo L = true → incF n lo (insR x L) = (decide (lo ≤ x ∧ x < n) && !decide (x ∈ L))
  | [], lo, _ => by
    show (decide (lo ≤ x ∧ x < n) && true) = _
    simp
  | y :: L, lo, h => by
    have h' : (decide (lo ≤ y ∧ y < n) && incF n (y + 1) L) = true := h
    rw [Bool.and_eq_true, decide_eq_true_iff] at h'
    have hm := incF_mem h'.2
    unfold insR
    by_cases h1 : y < x
    · rw [if_pos h1]
      show (decide (lo ≤ y ∧ y < n) && incF n (y + 1) (insR x L)) = _
      rw [insR_inc h'.2, decide_eq_true h'.1, Bool.true_and]
      have e1 : decide (y + 1 ≤ x ∧ x < n) = decide (lo ≤ x ∧ x < n) := by rw [decide_eq_decide]; omega
      have e2 : decide (x ∈ L) = decide (x ∈ y :: L) := by
        rw [decide_eq_decide, List.mem_cons]
        exact ⟨.inr, fun h => h.resolve_left (by omega)⟩
      rw [e1, e2]
    · rw [if_neg h1]
      show (decide (lo ≤ x ∧ x < n) && (decide (x + 1 ≤ y ∧ y < n) && incF n (y + 1) L)) = _
      rw [h'.2, Bool.and_true]
      have e2 : decide (x + 1 ≤ y ∧ y < n) = !decide (x ∈ y :: L) := by
        by_cases h2 : x = y
        · subst h2
          rw [decide_eq_false (by omega), decide_eq_true (List.mem_cons_self ..)]; rfl
        · rw [decide_eq_true (show x + 1 ≤ y ∧ y < n by omega), decide_eq_false]
          · rfl
          · rw [List.mem_cons]
            rintro (h3 | h3)
            · exact h2 h3
            · have := hm x h3; omega
      rw [e2]
/-- gates to which one can be put -/
def okPu (n : Int) (L : List Int) (x : Int) : Bool := okGa n L && (decide (1 ≤ x ∧ x ≤ n - 1) && (!decide (x ∈ L) && !decide (L.length = 10)))
def putR (n : Int) (L : List Int) (x : Int) : List Int := if okPu n L x = true then insR x L else []
theorem putR_no {n : Int} {L : List Int} {x : Int} (h : okPu n L x = false) : putR n L x = [] := by unfold putR; rw [h]; rfl
theorem putR_yes {n : Int} {L : List Int} {x : Int} (h : okPu n L x = true) : putR n L x = insR x L := by unfold putR; rw [h]; rfl
theorem okPu_at {n : Int} {L : List Int} {x : Int} (h : okPu n L x = true) : okGa n L = true ∧ (1 ≤ x ∧ x ≤ n - 1) ∧ ¬ x ∈ L ∧ L.length ≠ 10 := by
  unfold okPu at h
  rw [Bool.and_eq_true, Bool.and_eq_true, Bool.and_eq_true, decide_eq_true_iff] at h
  obtain ⟨h1, h2, h3, h4⟩ := h
  exact ⟨h1, h2, by simpa using h3, by simpa using h4⟩
theorem okPu_ins {n : Int} {L : List Int} {x : Int} (h : okGa n L = true) : okGa n (insR x L) = okPu n L x := by
  obtain ⟨hn, hl, hi⟩ := okGa_at h
  unfold okPu
  rw [h, Bool.true_and]
  unfold okGa
  have hr : okRow n = true := decide_eq_true hn
  rw [hr, Bool.true_and, insR_len, insR_inc hi]
  have e1 : decide (1 ≤ x ∧ x < n) = decide (1 ≤ x ∧ x ≤ n - 1) := by rw [decide_eq_decide]; omega
  have e2 : decide (L.length + 1 ≤ 10) = !decide (L.length = 10) := by
    by_cases h2 : L.length = 10
    · rw [decide_eq_true h2, decide_eq_false (by omega)]; rfl
    · rw [decide_eq_false h2, decide_eq_true (by omega)]; rfl
  rw [e1, e2, Bool.and_comm, Bool.and_assoc]
theorem putR_len (n : Int) (L : List Int) (x : Int) : (putR n L x).length ≤ 1048576 := by
  unfold putR
  split
  · next h => have := okGa_at (okPu_at h).1; rw [insR_len]; omega
  · exact Nat.zero_le _
theorem insR_app {x y : Int} : ∀ {A : List Int}, A.any (fun a => decide (x < a)) = true → insR x (A ++ [y]) = insR x A ++ [y]
  | [], h => by simp at h
  | a :: A, h => by
    rw [List.cons_append]
    unfold insR
    by_cases h1 : a < x
    · rw [if_pos h1, if_pos h1, insR_app (A := A) (by
        rw [List.any_cons, Bool.or_eq_true, decide_eq_true_iff] at h
        exact h.resolve_left (by omega))]
      rfl
    · rw [if_neg h1, if_neg h1]; rfl
theorem insR_end {x : Int} : ∀ {A : List Int}, (∀ a ∈ A, a < x) → insR x A = A ++ [x]
  | [], _ => rfl
  | a :: A, h => by
    unfold insR
    rw [if_pos (h a (List.mem_cons_self ..)), insR_end fun b hb => h b (List.mem_cons_of_mem _ hb)]; rfl
theorem insR_end2 {x y : Int} : ∀ {A : List Int}, (∀ a ∈ A, a < x) → x < y → insR x (A ++ [y]) = A ++ [x] ++ [y]
  | [], _, h => by show insR x [y] = _; unfold insR; rw [if_neg (by omega)]; rfl
  | a :: A, h, h2 => by
    rw [List.cons_append]
    unfold insR
    rw [if_pos (h a (List.mem_cons_self ..)), insR_end2 (fun b hb => h b (List.mem_cons_of_mem _ hb)) h2]; rfl
/-- what the model has behind k gates: whether the new one is put, and the list -/
def putB (L : List Int) (x : Int) (k : Nat) : Bool := (L.take k).any fun a => decide (x < a)
def outP (L : List Int) (x : Int) (k : Nat) : List Int := if putB L x k = true then insR x (L.take k) else L.take k
theorem outP_len (L : List Int) (x : Int) (k : Nat) : (outP L x k).length ≤ L.length + 1 := by
  unfold outP
  split
  · rw [insR_len, List.length_take]; omega
  · rw [List.length_take]; omega
theorem putB_succ {L : List Int} {x : Int} {k : Nat} (h : k < L.length) : putB L x (k + 1) = (putB L x k || decide (x < L[k])) := by
  unfold putB
  rw [List.take_succ_eq_append_getElem h, List.any_append]; simp
theorem outP_put {L : List Int} {x : Int} {k : Nat} (h : k < L.length) (hp : putB L x k = true) : outP L x (k + 1) = outP L x k ++ [L[k]] ∧ putB L x (k + 1) = true := by
  have h2 : putB L x (k + 1) = true := by rw [putB_succ h, hp]; rfl
  refine ⟨?_, h2⟩
  unfold outP
  rw [if_pos h2, if_pos hp, List.take_succ_eq_append_getElem h]
  exact insR_app hp
theorem putB_no {L : List Int} {x : Int} {k : Nat} (hx : ¬ x ∈ L) (hp : putB L x k = false) : ∀ a ∈ L.take k, a < x := fun a ha => by
  unfold putB at hp
  rw [List.any_eq_false] at hp
  have h1 := hp a ha
  have h2 : a ≠ x := fun e => hx (e ▸ List.mem_of_mem_take ha)
  simp at h1
  omega
theorem outP_now {L : List Int} {x : Int} {k : Nat} (h : k < L.length) (hx : ¬ x ∈ L) (hp : putB L x k = false) (h2 : x < L[k]) : outP L x (k + 1) = outP L x k ++ [x] ++ [L[k]] ∧ putB L x (k + 1) = true := by
  have h3 : putB L x (k + 1) = true := by rw [putB_succ h, hp, decide_eq_true h2]; rfl
  refine ⟨?_, h3⟩
  unfold outP
  rw [if_pos h3, hp, if_neg (by decide), List.take_succ_eq_append_getElem h]
  exact insR_end2 (putB_no hx hp) h2
theorem outP_later {L : List Int} {x : Int} {k : Nat} (h : k < L.length) (hp : putB L x k = false) (h2 : ¬ x < L[k]) : outP L x (k + 1) = outP L x k ++ [L[k]] ∧ putB L x (k + 1) = false := by
  have h3 : putB L x (k + 1) = false := by rw [putB_succ h, hp, decide_eq_false h2]; rfl
  refine ⟨?_, h3⟩
  unfold outP
  rw [h3, hp, if_neg (by decide), if_neg (by decide), List.take_succ_eq_append_getElem h]
theorem outP_end {L : List Int} {x : Int} (hx : ¬ x ∈ L) : insR x L = if putB L x L.length = true then outP L x L.length else outP L x L.length ++ [x] := by
  unfold outP
  rw [List.take_length]
  cases hp : putB L x L.length
  · rw [if_neg (by decide), if_neg (by decide)]
    have := putB_no hx hp
    rw [List.take_length] at this
    exact insR_end this
  · rw [if_pos rfl, if_pos rfl]
end Go.Proofs.Ytbocdhibimcobaa
