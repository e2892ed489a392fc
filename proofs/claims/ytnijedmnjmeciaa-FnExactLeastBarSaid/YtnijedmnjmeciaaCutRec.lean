/- Cuts of rails as a search: what it finds, and that it does not matter in which order bars lie. Pure. -/
import Derived.WalkKit
namespace Go.Proofs.Ytnijedmnjmeciaa

/-- the first place from k on, of f more, where there is one -/
def firstK (f : Nat → Option (List Int)) : Nat → Nat → Option (List Int)
  | 0, _ => none
  | n + 1, k => match f k with
    | some c => some ((k : Int) :: c)
    | none => firstK f n (k + 1)
/-- the first cut of these rails out of bars with these rests -/
def cutM : List Int → List Int → Option (List Int)
  | [], _ => some []
  | x :: R, L => firstK (fun k => if x ≤ L.getD k 0 then cutM R (L.set k (L.getD k 0 - x)) else none) L.length 0
/-- what is tried with the bar k -/
def tryK (x : Int) (R L : List Int) (k : Nat) : Option (List Int) := if x ≤ L.getD k 0 then cutM R (L.set k (L.getD k 0 - x)) else none
theorem cutM_cons (x : Int) (R L : List Int) : cutM (x :: R) L = firstK (tryK x R L) L.length 0 := rfl
theorem firstK_found {f : Nat → Option (List Int)} {c : List Int} : ∀ {n k m : Nat}, k ≤ m → m < k + n → (∀ j, k ≤ j → j < m → f j = none) → f m = some c → firstK f n k = some ((m : Int) :: c)
  | 0, _, _, h1, h2, _, _ => by omega
  | n + 1, k, m, h1, h2, h3, h4 => by
    unfold firstK
    by_cases e : k = m
    · subst e; rw [h4]
    · rw [h3 k (Nat.le_refl _) (by omega)]
      exact firstK_found (by omega) (by omega) (fun j hj => h3 j (by omega)) h4
theorem firstK_none {f : Nat → Option (List Int)} : ∀ {n k : Nat}, (∀ j, k ≤ j → j < k + n → f j = none) → firstK f n k = none
  | 0, _, _ => rfl
  | n + 1, k, h => by
    unfold firstK
    rw [h k (Nat.le_refl _) (by omega)]
    exact firstK_none fun j h1 h2 => h j (by omega) (by omega)
theorem firstK_some {f : Nat → Option (List Int)} {c : List Int} : ∀ {n k : Nat}, firstK f n k = some c → ∃ m d, k ≤ m ∧ m < k + n ∧ (∀ j, k ≤ j → j < m → f j = none) ∧ f m = some d ∧ c = (m : Int) :: d
  | 0, _, h => by cases h
  | n + 1, k, h => by
    unfold firstK at h
    cases hf : f k with
    | some d =>
      rw [hf] at h
      obtain rfl := Option.some.inj h
      exact ⟨k, d, Nat.le_refl _, by omega, fun j h1 h2 => by omega, hf, rfl⟩
    | none =>
      rw [hf] at h
      obtain ⟨m, d, h1, h2, h3, h4, h5⟩ := firstK_some h
      exact ⟨m, d, by omega, by omega, fun j h6 h7 => by
        by_cases e : j = k
        · subst e; exact hf
        · exact h3 j (by omega) h7, h4, h5⟩

/-- the rails can be cut out of these rests, in whatever order -/
def canM : List Int → List Int → Prop
  | [], _ => True
  | x :: R, L => ∃ y M, L.Perm (y :: M) ∧ x ≤ y ∧ canM R ((y - x) :: M)
theorem canM_perm {R L M : List Int} (h : L.Perm M) (hc : canM R L) : canM R M := by
  cases R with
  | nil => trivial
  | cons x R =>
    obtain ⟨y, N, h1, h2, h3⟩ := hc
    exact ⟨y, N, h.symm.trans h1, h2, h3⟩
theorem perm_at {L : List Int} {k : Nat} (hk : k < L.length) (v : Int) : ∃ M, L.Perm (L.getD k 0 :: M) ∧ (L.set k v).Perm (v :: M) := by
  refine ⟨L.take k ++ L.drop (k + 1), ?_, ?_⟩
  · have e : L = L.take k ++ L.getD k 0 :: L.drop (k + 1) := by
      rw [List.getD_eq_getElem?_getD, List.getElem?_eq_getElem hk]
      show L = L.take k ++ L[k] :: L.drop (k + 1)
      rw [← List.drop_eq_getElem_cons hk, List.take_append_drop]
    exact (List.Perm.of_eq e).trans List.perm_middle
  · rw [List.set_eq_take_append_cons_drop, if_pos hk]
    exact List.perm_middle
theorem canM_iff : ∀ (R L : List Int), canM R L ↔ (cutM R L).isSome = true
  | [], L => ⟨fun _ => rfl, fun _ => trivial⟩
  | x :: R, L => by
    constructor
    · intro ⟨y, M, h1, h2, h3⟩
      have hm : y ∈ L := h1.mem_iff.2 (List.mem_cons_self ..)
      obtain ⟨k, hk, e⟩ := List.getElem_of_mem hm
      obtain ⟨N, p1, p2⟩ := perm_at hk (y - x)
      have ey : L.getD k 0 = y := by rw [List.getD_eq_getElem?_getD, List.getElem?_eq_getElem hk]; exact e
      rw [ey] at p1
      have p3 : M.Perm N := List.Perm.cons_inv (h1.symm.trans p1)
      have h4 : canM R (L.set k (y - x)) := canM_perm ((p3.cons _).trans p2.symm) h3
      have h5 := (canM_iff R _).1 h4
      cases hc : cutM (x :: R) L with
      | some c => rfl
      | none =>
        exfalso
        have hn : ∀ n k0, firstK (tryK x R L) n k0 = none → ∀ j, k0 ≤ j → j < k0 + n → tryK x R L j = none := by
          intro n
          induction n with
          | zero => intro k0 _ j h6 h7; omega
          | succ n ih =>
            intro k0 h6 j h7 h8
            unfold firstK at h6
            cases hf : tryK x R L k0 with
            | some d => rw [hf] at h6; cases h6
            | none =>
              rw [hf] at h6
              by_cases e2 : j = k0
              · subst e2; exact hf
              · exact ih (k0 + 1) h6 j (by omega) (by omega)
        have := hn _ _ hc k (Nat.zero_le _) (by omega)
        unfold tryK at this
        rw [ey, if_pos h2] at this
        rw [this] at h5; cases h5
    · intro h
      obtain ⟨c, hc⟩ := Option.isSome_iff_exists.1 h
      obtain ⟨m, d, -, h2, -, h4, -⟩ := firstK_some (f := tryK x R L) hc
      unfold tryK at h4
      by_cases hx : x ≤ L.getD m 0
      · rw [if_pos hx] at h4
        obtain ⟨N, p1, p2⟩ := perm_at (L := L) (k := m) (by omega) (L.getD m 0 - x)
        exact ⟨_, N, p1, hx, canM_perm p2 ((canM_iff R _).2 (by rw [h4]; rfl))⟩
      · rw [if_neg hx] at h4; cases h4
theorem cutM_none {R L : List Int} : cutM R L = none ↔ ¬ canM R L := by
  rw [canM_iff]
  cases cutM R L <;> simp
/-- equal bars fail alike -/
theorem tryK_alike {x : Int} {R L : List Int} {j k : Nat} (hj : j < L.length) (hk : k < L.length) (e : L.getD j 0 = L.getD k 0) (h : tryK x R L j = none) : tryK x R L k = none := by
  unfold tryK at h ⊢
  by_cases hx : x ≤ L.getD k 0
  · rw [if_pos hx]
    rw [e, if_pos hx] at h
    rw [cutM_none] at h ⊢
    obtain ⟨M, p1, p2⟩ := perm_at hj (L.getD k 0 - x)
    obtain ⟨N, q1, q2⟩ := perm_at hk (L.getD k 0 - x)
    rw [e] at p1
    have p3 : M.Perm N := List.Perm.cons_inv (p1.symm.trans q1)
    exact fun hc => h (canM_perm (q2.trans ((p3.symm.cons _).trans p2.symm)) hc)
  · rw [if_neg hx]
theorem cutM_len : ∀ {R L c : List Int}, cutM R L = some c → c.length = R.length
  | [], L, c, h => by obtain rfl := Option.some.inj h; rfl
  | x :: R, L, c, h => by
    obtain ⟨m, d, -, -, -, h4, rfl⟩ := firstK_some (f := tryK x R L) h
    unfold tryK at h4
    split at h4
    · rw [List.length_cons, List.length_cons, cutM_len h4]
    · cases h4
theorem cutM_mem : ∀ {R L c : List Int}, cutM R L = some c → ∀ z ∈ c, 0 ≤ z ∧ z < L.length
  | [], L, c, h, z, hz => by obtain rfl := Option.some.inj h; cases hz
  | x :: R, L, c, h, z, hz => by
    obtain ⟨m, d, -, h2, -, h4, rfl⟩ := firstK_some (f := tryK x R L) h
    unfold tryK at h4
    split at h4
    · rcases List.mem_cons.1 hz with h5 | h5
      · omega
      · have := cutM_mem h4 z h5
        rw [List.length_set] at this
        exact this
    · cases h4
/-- a bar that the cut leaves out is not wanted -/
theorem cutM_out : ∀ {R L c : List Int} {z : Int}, cutM R (L ++ [z]) = some c → (∀ y ∈ c, y < L.length) → canM R L
  | [], _, _, _, _, _ => trivial
  | x :: R, L, c, z, h, hy => by
    obtain ⟨m, d, -, h2, -, h4, rfl⟩ := firstK_some (f := tryK x R (L ++ [z])) h
    have hm := hy _ (List.mem_cons_self ..)
    have hml : m < L.length := by omega
    have e : (L ++ [z]).getD m 0 = L.getD m 0 := by rw [List.getD_eq_getElem?_getD, List.getElem?_append_left hml, ← List.getD_eq_getElem?_getD]
    unfold tryK at h4
    rw [e] at h4
    split at h4
    · next hx =>
      rw [List.set_append_left _ _ hml] at h4
      have h5 := cutM_out h4 fun y h6 => by rw [List.length_set]; exact hy y (List.mem_cons_of_mem _ h6)
      obtain ⟨M, p1, p2⟩ := perm_at hml (L.getD m 0 - x)
      exact ⟨_, M, p1, hx, canM_perm p2 h5⟩
    · cases h4
theorem sum_pos : ∀ {L : List Int}, (∀ y ∈ L, 0 ≤ y) → (0 : Int) ≤ L.sum
  | [], _ => Int.le_refl _
  | y :: L, h => by
    have := sum_pos fun z hz => h z (List.mem_cons_of_mem _ hz)
    have := h y (List.mem_cons_self ..)
    rw [List.sum_cons]; omega
theorem canM_sum : ∀ {R L : List Int}, (∀ y ∈ L, 0 ≤ y) → canM R L → R.sum ≤ L.sum
  | [], L, h, _ => sum_pos h
  | x :: R, L, h, ⟨y, M, h1, h2, h3⟩ => by
    have h4 := canM_sum (fun z hz => by
      rcases List.mem_cons.1 hz with e | e
      · omega
      · exact h z (h1.mem_iff.2 (List.mem_cons_of_mem _ e))) h3
    have h5 : L.sum = (y :: M).sum := perm_sum h1
    rw [List.sum_cons] at h4 h5 ⊢
    omega
where
  perm_sum {L M : List Int} (h : L.Perm M) : L.sum = M.sum := by
    induction h with
    | nil => rfl
    | cons x _ ih => rw [List.sum_cons, List.sum_cons, ih]
    | swap x y l => rw [List.sum_cons, List.sum_cons, List.sum_cons, List.sum_cons]; omega
    | trans _ _ h1 h2 => exact h1.trans h2
/-- of more whole bars than rails one is not wanted -/
theorem canM_drop (bar : Int) : ∀ (R L : List Int) (m : Nat), R.length < m → canM R (List.replicate m bar ++ L) → canM R (List.replicate (m - 1) bar ++ L)
  | [], _, _, _, _ => trivial
  | x :: R, L, m, hm, ⟨y, M, h1, h2, h3⟩ => by
    obtain ⟨q, rfl⟩ : ∃ q, m = q + 1 := ⟨m - 1, by omega⟩
    have hq : R.length + 1 ≤ q := by rw [List.length_cons] at hm; omega
    rw [Nat.add_sub_cancel]
    by_cases e : y = bar
    · subst e
      have h4 : (List.replicate q y ++ L).Perm M := by
        rw [List.replicate_succ, List.cons_append] at h1
        exact List.Perm.cons_inv h1
      have h5 : canM R (List.replicate q y ++ (y - x) :: L) := canM_perm (((h4.symm.cons _)).trans List.perm_middle.symm) h3
      have h6 := canM_drop y R ((y - x) :: L) q (by omega) h5
      refine ⟨y, List.replicate (q - 1) y ++ L, ?_, h2, canM_perm List.perm_middle h6⟩
      rw [← List.cons_append, ← List.replicate_succ, show q - 1 + 1 = q by omega]
    · have hy : y ∈ L := by
        have := h1.mem_iff.2 (List.mem_cons_self ..)
        rcases List.mem_append.1 this with h4 | h4
        · exact absurd (List.eq_of_mem_replicate h4) e
        · exact h4
      obtain ⟨k, hk, e2⟩ := List.getElem_of_mem hy
      obtain ⟨N, p1, -⟩ := perm_at hk 0
      have ey : L.getD k 0 = y := by rw [List.getD_eq_getElem?_getD, List.getElem?_eq_getElem hk]; exact e2
      rw [ey] at p1
      have h4 : (List.replicate (q + 1) bar ++ N).Perm M := by
        refine List.Perm.cons_inv (a := y) (List.Perm.trans ?_ h1)
        exact List.perm_middle.symm.trans (p1.symm.append_left _)
      have h5 : canM R (List.replicate (q + 1) bar ++ (y - x) :: N) := canM_perm ((h4.symm.cons _).trans List.perm_middle.symm) h3
      have h6 := canM_drop bar R ((y - x) :: N) (q + 1) (by omega) h5
      rw [Nat.add_sub_cancel] at h6
      refine ⟨y, List.replicate q bar ++ N, ?_, h2, canM_perm List.perm_middle h6⟩
      exact (p1.append_left _).trans List.perm_middle
/-- numbers from n on -/
def upFrom (n : Nat) : Nat → List Int
  | 0 => []
  | m + 1 => (n : Int) :: upFrom (n + 1) m
/-- where fewer bars are not enough, each rail has its own -/
theorem cutM_own (bar : Int) : ∀ (R U : List Int), (∀ x ∈ R, x ≤ bar) → (R ≠ [] → ¬ canM R (U ++ List.replicate (R.length - 1) bar)) → cutM R (U ++ List.replicate R.length bar) = some (upFrom U.length R.length)
  | [], U, _, _ => rfl
  | x :: R, U, hx, hn => by
    have hn' := hn (by simp)
    rw [List.length_cons, Nat.add_sub_cancel] at hn'
    have hxb := hx x (List.mem_cons_self ..)
    have hlen : (U ++ List.replicate (R.length + 1) bar).length = U.length + (R.length + 1) := by rw [List.length_append, List.length_replicate]
    have hfull : (U ++ List.replicate (R.length + 1) bar).getD U.length 0 = bar := by
      rw [List.getD_eq_getElem?_getD, List.getElem?_append_right (Nat.le_refl _), Nat.sub_self, List.replicate_succ]; rfl
    rw [List.length_cons, cutM_cons, hlen]
    show _ = some ((U.length : Int) :: upFrom (U.length + 1) R.length)
    refine firstK_found (Nat.zero_le _) (by omega) (fun j _ hj => ?_) ?_
    · have e : (U ++ List.replicate (R.length + 1) bar).getD j 0 = U.getD j 0 := by rw [List.getD_eq_getElem?_getD, List.getElem?_append_left hj, ← List.getD_eq_getElem?_getD]
      unfold tryK
      rw [e]
      split
      · next hle =>
        rw [cutM_none, List.set_append_left _ _ hj]
        intro hc
        apply hn'
        obtain ⟨M, p1, p2⟩ := perm_at hj (U.getD j 0 - x)
        have h1 : canM R (List.replicate (R.length + 1) bar ++ (U.getD j 0 - x) :: M) := canM_perm (((p2.append_right _)).trans List.perm_append_comm) hc
        have h2 := canM_drop bar R _ (R.length + 1) (Nat.lt_succ_self _) h1
        rw [Nat.add_sub_cancel] at h2
        exact ⟨U.getD j 0, List.replicate R.length bar ++ M, (p1.append_right _).trans (((List.perm_append_comm).cons _)), hle, canM_perm List.perm_middle h2⟩
      · rfl
    · unfold tryK
      rw [hfull, if_pos hxb]
      have e : (U ++ List.replicate (R.length + 1) bar).set U.length (bar - x) = (U ++ [bar - x]) ++ List.replicate R.length bar := by
        rw [List.set_append_right _ _ (Nat.le_refl _), Nat.sub_self, List.replicate_succ, List.set_cons_zero, List.append_assoc, List.singleton_append]
      rw [e]
      have := cutM_own bar R (U ++ [bar - x]) (fun z hz => hx z (List.mem_cons_of_mem _ hz)) fun hR hc => by
        apply hn'
        obtain ⟨q, hq⟩ : ∃ q, R.length = q + 1 := ⟨R.length - 1, by have : R.length ≠ 0 := fun h => hR (List.eq_nil_of_length_eq_zero h); omega⟩
        rw [hq, Nat.add_sub_cancel] at hc
        rw [hq]
        refine ⟨bar, U ++ List.replicate q bar, ?_, hxb, ?_⟩
        · rw [List.replicate_succ]; exact List.perm_middle
        · refine canM_perm ?_ hc
          rw [List.append_assoc, List.singleton_append]
          exact List.perm_middle
      rw [List.length_append, List.length_singleton] at this
      exact this
theorem upFrom_len (n : Nat) : ∀ m, (upFrom n m).length = m
  | 0 => rfl
  | m + 1 => by show (upFrom (n + 1) m).length + 1 = _; rw [upFrom_len]
end Go.Proofs.Ytnijedmnjmeciaa
