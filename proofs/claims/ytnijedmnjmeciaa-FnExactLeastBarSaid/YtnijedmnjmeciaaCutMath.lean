/- Cuts of rails from bars: what is left, and which lists are cuts. Pure, but for the lists of numbers in bounds. -/
import Derived.Test.YtnijedmnjmeciaaCutArr
import Derived.Test.YtnijedmnjmeciaaRails
namespace Go.Proofs.Ytnijedmnjmeciaa

/-- what is left of a bar behind the first j cuts -/
def restK (bar : Int) (L S : List Int) (i : Nat) : Nat → Int
  | 0 => bar
  | j + 1 => if S.getD j 0 = (i : Int) then restK bar L S i j - L.getD j 0 else restK bar L S i j
/-- how many bars the first j cuts speak of -/
def lenK (S : List Int) : Nat → Nat
  | 0 => 0
  | j + 1 => max (lenK S j) (S.getD j 0 + 1).toNat
def idxOk (S : List Int) : Bool := allIn 0 7 S
def restsL (bar : Int) (L S : List Int) (j m : Nat) : List Int := (List.range m).map fun i => restK bar L S i j
def restOk (bar : Int) (R : List Int) : Bool := R.all fun x => decide (0 ≤ x) && !decide (x = bar)
/-- a list is a cut -/
def isCutB (bar : Int) (L S : List Int) : Bool := decide (S.length = L.length) && (idxOk S && restOk bar (restsL bar L S S.length (lenK S S.length)))
theorem restsL_len (bar : Int) (L S : List Int) (j m : Nat) : (restsL bar L S j m).length = m := by simp [restsL]
theorem restsL_get (bar : Int) (L S : List Int) (j m i : Nat) (h : i < m) : (restsL bar L S j m)[i]'(by rw [restsL_len]; exact h) = restK bar L S i j := by simp [restsL]
theorem restsL_snoc (bar : Int) (L S : List Int) (j m : Nat) : restsL bar L S j (m + 1) = restsL bar L S j m ++ [restK bar L S m j] := by
  unfold restsL; rw [List.range_succ, List.map_append]; rfl
theorem restsL_val (bar : Int) (L S : List Int) (j m i : Nat) (h : i < m) : ((restsL bar L S j m).map (Go.Value.int .i64))[i]? = some (.int .i64 (restK bar L S i j)) := by
  unfold restsL; rw [List.map_map, List.getElem?_map, List.getElem?_range h]; rfl
theorem lenK_le {S : List Int} (h : idxOk S = true) : ∀ j, j ≤ S.length → lenK S j ≤ 8
  | 0, _ => Nat.zero_le _
  | j + 1, hj => by
    have h1 := lenK_le h j (by omega)
    have h2 := allIn_at h (show j < S.length by omega)
    have e : lenK S (j + 1) = max (lenK S j) (S.getD j 0 + 1).toNat := rfl
    rw [getD_lt S j (by omega)] at e
    omega
theorem lenK_mono (S : List Int) (j : Nat) : lenK S j ≤ lenK S (j + 1) := Nat.le_max_left _ _
theorem lenK_mem {S : List Int} : ∀ {j : Nat} {t : Nat}, t < j → (S.getD t 0 + 1).toNat ≤ lenK S j
  | j + 1, t, h => by
    by_cases e : t = j
    · subst e; exact Nat.le_max_right _ _
    · exact Nat.le_trans (lenK_mem (by omega)) (lenK_mono S j)
/-- bars that no cut speaks of are whole -/
theorem restK_whole {bar : Int} {L S : List Int} {i : Nat} : ∀ j, lenK S j ≤ i → restK bar L S i j = bar
  | 0, _ => rfl
  | j + 1, h => by
    have h1 := restK_whole (bar := bar) (L := L) (S := S) (i := i) j (Nat.le_trans (lenK_mono S j) h)
    have h2 : (S.getD j 0 + 1).toNat ≤ i := Nat.le_trans (Nat.le_max_right _ _) h
    have e : restK bar L S i (j + 1) = if S.getD j 0 = (i : Int) then restK bar L S i j - L.getD j 0 else restK bar L S i j := rfl
    rw [e, if_neg (by omega), h1]
theorem restK_mono {bar : Int} {L S : List Int} (hL : ∀ x ∈ L, 1 ≤ x) {i : Nat} {j : Nat} (hj : j < L.length) : restK bar L S i (j + 1) ≤ restK bar L S i j := by
  have e : restK bar L S i (j + 1) = if S.getD j 0 = (i : Int) then restK bar L S i j - L.getD j 0 else restK bar L S i j := rfl
  rw [e]
  have h1 := hL L[j] (List.getElem_mem hj)
  rw [getD_lt L j hj]
  split <;> omega
theorem restK_mono2 {bar : Int} {L S : List Int} (hL : ∀ x ∈ L, 1 ≤ x) {i : Nat} {a : Nat} : ∀ {b : Nat}, a ≤ b → b ≤ L.length → restK bar L S i b ≤ restK bar L S i a
  | b, h, hb => by
    rcases Nat.lt_or_ge a b with h1 | h1
    · obtain ⟨c, rfl⟩ : ∃ c, b = c + 1 := ⟨b - 1, by omega⟩
      exact Int.le_trans (restK_mono hL (by omega)) (restK_mono2 hL (by omega) (by omega))
    · obtain rfl : b = a := by omega
      exact Int.le_refl _
theorem restK_bd {bar : Int} {L S : List Int} (hL : ∀ x ∈ L, 1 ≤ x ∧ x ≤ 500) (hl : L.length ≤ 8) (hb : 1 ≤ bar ∧ bar ≤ 4000) {i : Nat} : ∀ {j : Nat}, j ≤ L.length → bar - 500 * (j : Int) ≤ restK bar L S i j ∧ restK bar L S i j ≤ bar
  | 0, _ => ⟨by show bar - 500 * ((0 : Nat) : Int) ≤ bar; omega, Int.le_refl _⟩
  | j + 1, h => by
    have h1 := restK_bd hL hl hb (S := S) (i := i) (j := j) (by omega)
    have h2 := hL L[j] (List.getElem_mem (by omega))
    have e : restK bar L S i (j + 1) = if S.getD j 0 = (i : Int) then restK bar L S i j - L.getD j 0 else restK bar L S i j := rfl
    rw [e, getD_lt L j (by omega)]
    split <;> omega
theorem restOk_at {bar : Int} {R : List Int} (h : restOk bar R = true) {x : Int} (hx : x ∈ R) : 0 ≤ x ∧ x ≠ bar := by
  unfold restOk at h
  rw [List.all_eq_true] at h
  have := h x hx
  rw [Bool.and_eq_true, decide_eq_true_iff] at this
  refine ⟨this.1, ?_⟩
  have h2 := this.2
  simpa using h2
theorem restOk_no {bar : Int} {R : List Int} {x : Int} (hx : x ∈ R) (h : x < 0 ∨ x = bar) : restOk bar R = false := by
  unfold restOk
  rw [List.all_eq_false]
  refine ⟨x, hx, ?_⟩
  rcases h with h | h
  · rw [decide_eq_false (by omega), Bool.false_and]; exact Bool.false_ne_true
  · subst h; simp
theorem restOk_of {bar : Int} {R : List Int} (h : ∀ k (hk : k < R.length), 0 ≤ R[k] ∧ R[k] ≠ bar) : restOk bar R = true := by
  unfold restOk
  rw [List.all_eq_true]
  intro x hx
  obtain ⟨k, hk, rfl⟩ := List.getElem_of_mem hx
  have := h k hk
  simp [this.1, this.2]
/-- a cut goes wrong: so the list is none -/
theorem cut_wrong {bar : Int} {L S : List Int} (hL : ∀ x ∈ L, 1 ≤ x) (hl : S.length = L.length) {j : Nat} (hj : j < S.length) (h : ¬ (0 ≤ S[j] ∧ S[j] ≤ 7 ∧ L.getD j 0 ≤ restK bar L S S[j].toNat j)) : isCutB bar L S = false := by
  unfold isCutB
  cases hi : idxOk S
  · rw [Bool.false_and, Bool.and_false]
  · obtain ⟨h1, h2⟩ := allIn_at hi hj
    have h3 : ¬ L.getD j 0 ≤ restK bar L S S[j].toNat j := fun x => h ⟨h1, h2, x⟩
    have e : restK bar L S S[j].toNat (j + 1) = restK bar L S S[j].toNat j - L.getD j 0 := by
      show (if S.getD j 0 = (S[j].toNat : Int) then _ else _) = _
      rw [getD_lt S j hj, if_pos (by omega)]
    have h4 := restK_mono2 (bar := bar) (S := S) hL (i := S[j].toNat) (a := j + 1) (b := S.length) (by omega) (by omega)
    have h5 : S[j].toNat < lenK S S.length := by
      have := lenK_mem (S := S) hj
      rw [getD_lt S j hj] at this
      omega
    rw [restOk_no (x := restK bar L S S[j].toNat S.length) _ (.inl (by omega))]
    · rw [Bool.and_false, Bool.and_false]
    · unfold restsL
      exact List.mem_map.2 ⟨_, List.mem_range.2 h5, rfl⟩
theorem idx_wrong {bar : Int} {L S : List Int} {j : Nat} (hj : j < S.length) (h : ¬ (0 ≤ S[j] ∧ S[j] ≤ 7)) : isCutB bar L S = false := by
  unfold isCutB idxOk
  rw [allIn_no hj h, Bool.false_and, Bool.and_false]
theorem idxOk_of {S : List Int} (h : ∀ k (hk : k < S.length), 0 ≤ S[k] ∧ S[k] ≤ 7) : idxOk S = true := by
  unfold idxOk allIn
  rw [List.all_eq_true]
  intro x hx
  obtain ⟨k, hk, rfl⟩ := List.getElem_of_mem hx
  exact decide_eq_true (h k hk)
/-- the step of the array of rests -/
theorem cutF_step {bar : Int} {L S : List Int} {j : Nat} (hj : j < S.length) (h : 0 ≤ S[j] ∧ S[j] ≤ 7 ∧ L.getD j 0 ≤ restK bar L S S[j].toNat j) : restA (cutF (fun i => restK bar L S i j) (L.getD j 0) S[j]) = restA fun i => restK bar L S i (j + 1) := restA_congr fun i _ => by
  show (if (i : Int) = S[j] ∧ L.getD j 0 ≤ restK bar L S i j then restK bar L S i j - L.getD j 0 else restK bar L S i j) = if S.getD j 0 = (i : Int) then restK bar L S i j - L.getD j 0 else restK bar L S i j
  rw [getD_lt S j hj]
  by_cases e : S[j] = (i : Int)
  · have h3 := h.2.2
    rw [e, Int.toNat_natCast] at h3
    rw [if_pos e, if_pos ⟨e.symm, h3⟩]
  · rw [if_neg e, if_neg fun x => e x.1.symm]
theorem cutF_same {bar : Int} {L S : List Int} {j : Nat} (h : ¬ (0 ≤ S.getD j 0 ∧ S.getD j 0 ≤ 7 ∧ L.getD j 0 ≤ restK bar L S (S.getD j 0).toNat j)) : restA (cutF (fun i => restK bar L S i j) (L.getD j 0) (S.getD j 0)) = restA fun i => restK bar L S i j := restA_congr fun i hi => by
  show (if (i : Int) = S.getD j 0 ∧ L.getD j 0 ≤ restK bar L S i j then restK bar L S i j - L.getD j 0 else restK bar L S i j) = restK bar L S i j
  rw [if_neg]
  intro x
  refine h ⟨by omega, by omega, ?_⟩
  rw [← x.1, Int.toNat_natCast]
  exact x.2
theorem lenK_max {S : List Int} (h : idxOk S = true) (h0 : 0 < S.length) : (lenK S S.length : Int) = Lib.maxOf S + 1 := by
  have key : ∀ j, 0 < j → j ≤ S.length → (lenK S j : Int) = Lib.maxOf (S.take j) + 1 := by
    intro j
    induction j with
    | zero => intro h1; omega
    | succ j ih =>
      intro _ hj
      have h2 := allIn_at h (show j < S.length by omega)
      have e : lenK S (j + 1) = max (lenK S j) (S.getD j 0 + 1).toNat := rfl
      rw [getD_lt S j (by omega)] at e
      rcases Nat.eq_zero_or_pos j with h3 | h3
      · subst h3
        rw [Lib.maxOf_one, getD_lt S 0 (by omega)]
        have : lenK S 0 = 0 := rfl
        omega
      · have h4 := ih h3 (by omega)
        have h5 := Lib.maxOf_step S j h3 (by omega)
        rw [getD_lt S j (by omega)] at h5
        rw [h5, e]
        omega
  have := key S.length h0 (Nat.le_refl _)
  rwa [List.take_length] at this
theorem restA_inj {F G : Nat → Int} (h : restA F = restA G) {i : Nat} (hi : i < 8) : F i = G i := by
  have h1 := rowF_at 8 F i hi
  have h2 := rowF_at 8 G i hi
  have e : rowF 8 F = rowF 8 G := by
    have := congrArg Array.toList h
    exact this
  rw [e, h2] at h1
  injection h1 with h1
  injection h1 with _ h1
  exact h1.symm
theorem beq8 (x0 x1 x2 x3 x4 x5 x6 x7 y0 y1 y2 y3 y4 y5 y6 y7 : Int) : ((y0 == x0 && (y1 == x1 && (y2 == x2 && (y3 == x3 && (y4 == x4 && (y5 == x5 && (y6 == x6 && y7 == x7))))))) = true ↔ (#[.int .i64 y0, .int .i64 y1, .int .i64 y2, .int .i64 y3, .int .i64 y4, .int .i64 y5, .int .i64 y6, .int .i64 y7] : Array Go.Value) = #[.int .i64 x0, .int .i64 x1, .int .i64 x2, .int .i64 x3, .int .i64 x4, .int .i64 x5, .int .i64 x6, .int .i64 x7]) := by
  simp
/-- what a function of a cut answers with -/
def cutL (bar : Int) (L S : List Int) : List Int := if isCutB bar L S = true then restsL bar L S S.length (lenK S S.length) else []
theorem cutL_no {bar : Int} {L S : List Int} (h : isCutB bar L S = false) : cutL bar L S = [] := by unfold cutL; rw [h]; rfl
theorem cutL_yes {bar : Int} {L S : List Int} (h : isCutB bar L S = true) : cutL bar L S = restsL bar L S S.length (lenK S S.length) := by unfold cutL; rw [if_pos h]
theorem step_ok {bar : Int} {L S : List Int} {j : Nat} (hj : j < S.length) (h : 0 ≤ S[j] ∧ S[j] ≤ 7 ∧ L.getD j 0 ≤ restK bar L S S[j].toNat j)
    (hq : (∀ k (hk : k < S.length), k < j → 0 ≤ S[k] ∧ S[k] ≤ 7) ∧ ∀ i, i < 8 → 0 ≤ restK bar L S i j) :
    (∀ k (hk : k < S.length), k < j + 1 → 0 ≤ S[k] ∧ S[k] ≤ 7) ∧ ∀ i, i < 8 → 0 ≤ restK bar L S i (j + 1) := by
  refine ⟨fun k hk hkj => ?_, fun i hi => ?_⟩
  · by_cases e : k = j
    · subst e; exact ⟨h.1, h.2.1⟩
    · exact hq.1 k hk (by omega)
  · show 0 ≤ if S.getD j 0 = (i : Int) then restK bar L S i j - L.getD j 0 else restK bar L S i j
    rw [getD_lt S j hj]
    have h0 := hq.2 i hi
    by_cases e : S[j] = (i : Int)
    · rw [if_pos e]
      have h3 := h.2.2
      rw [e, Int.toNat_natCast] at h3
      omega
    · rw [if_neg e]; exact h0
theorem restsL_store {bar : Int} {L S : List Int} {j q k : Nat} (hj : j < S.length) (hk : S[j] = (k : Int)) (hq : k < q) :
    ((restsL bar L S j q).map (Go.Value.int .i64)).set k (.int .i64 (restK bar L S k j - L.getD j 0)) = (restsL bar L S (j + 1) q).map (Go.Value.int .i64) := by
  apply List.ext_getElem?
  intro i
  rw [List.getElem?_set, List.length_map, restsL_len]
  by_cases hi : i < q
  · rw [restsL_val bar L S (j + 1) q i hi]
    have e : restK bar L S i (j + 1) = if S.getD j 0 = (i : Int) then restK bar L S i j - L.getD j 0 else restK bar L S i j := rfl
    rw [getD_lt S j hj, hk] at e
    by_cases h : k = i
    · subst h
      rw [if_pos rfl] at e
      rw [if_pos rfl, if_pos hi, e]
    · rw [if_neg (by omega)] at e
      rw [if_neg h, restsL_val bar L S j q i hi, e]
  · rw [List.getElem?_eq_none (by rw [List.length_map, restsL_len]; omega), List.getElem?_eq_none (by rw [List.length_map, restsL_len]; omega)]
    by_cases h : k = i
    · omega
    · rw [if_neg h]
/-- what is told of a list of any numbers -/
def okCt (L : List Int) (bar : Int) (S : List Int) : Bool := (okRa L && okL bar) && isCutB bar L S
def ctL (L : List Int) (bar : Int) (S : List Int) : List Int := if (okRa L && okL bar) = true then cutL bar L S else []
theorem ctL_len (L : List Int) (bar : Int) (S : List Int) : (ctL L bar S).length ≤ 1048576 := by
  unfold ctL
  split
  · unfold cutL
    split
    · next h =>
      unfold isCutB at h
      rw [Bool.and_eq_true, Bool.and_eq_true] at h
      have := lenK_le h.2.1 S.length (Nat.le_refl _)
      rw [restsL_len]; omega
    · exact Nat.zero_le _
  · exact Nat.zero_le _
def lenV : Go.Value → Nat
  | .slice _ n _ => n
  | _ => 0
end Go.Proofs.Ytnijedmnjmeciaa
