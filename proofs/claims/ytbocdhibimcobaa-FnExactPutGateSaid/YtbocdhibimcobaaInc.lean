/- 'spec.l1Rising', 'spec.l1Has', 'impl.areIncreasing': increasing lists of numbers. No condition but the lists' lengths. -/
import Derived.Test.YtbocdhibimcobaaIn
namespace Go.Proofs.Ytbocdhibimcobaa
open Go.RowKit

/-- increasing numbers, from lo on, below n -/
def incF (n : Int) : Int → List Int → Bool
  | _, [] => true
  | lo, x :: L => decide (lo ≤ x ∧ x < n) && incF n (x + 1) L
/-- the least that the number at j may be -/
def lstI (L : List Int) : Nat → Int
  | 0 => 0
  | j + 1 => L.getD j 0 + 1
theorem incF_at {n : Int} {L : List Int} {j : Nat} (h : j < L.length) (lo : Int) : incF n lo (L.drop j) = (decide (lo ≤ L[j] ∧ L[j] < n) && incF n (L[j] + 1) (L.drop (j + 1))) := by
  rw [List.drop_eq_getElem_cons h]; rfl
theorem incF_end {n : Int} {L : List Int} {j : Nat} (h : L.length ≤ j) (lo : Int) : incF n lo (L.drop j) = true := by
  rw [List.drop_of_length_le h]; rfl
theorem lstI_succ {L : List Int} {j : Nat} (h : j < L.length) : lstI L (j + 1) = L[j] + 1 := by
  show L.getD j 0 + 1 = _
  rw [List.getD_eq_getElem?_getD, List.getElem?_eq_getElem h]; rfl

set_option maxHeartbeats 1000000 in
theorem areIncreasing_any (A : Option Addr) (c : Nat) (L : List Int) (n : Int) (w : World) (hm : L.length ≤ 1048576) (hn : n ≤ 1048576) (h : IntSl w A L) :
    Calls Try.prog 54 #[.slice A L.length c, .int .i64 n] w fun e w' => e = .returned (.bool (incF n 0 L)) ∧ w = w' := by
  rcases Nat.eq_zero_or_pos L.length with h0 | h0
  · obtain rfl : L = [] := List.eq_nil_of_length_eq_zero h0
    clear h h0 hm
    go_enter Try.func54, Try.ntmps54
    go_wp2
    refine wp_loop_rounds 1 ?_
    rw [rounds_succ]
    go_wp2
    go_ret
    exact ⟨rfl, rfl⟩
  · obtain ⟨g, off, rfl, -, hat⟩ := h.some h0
    have HAT := Lib.hid hat
    clear hat h
    go_enter Try.func54, Try.ntmps54
    go_wp2
    go_loop [5, 10] (fun l i => ∃ (j : Nat) (lo : Int), j ≤ L.length ∧ i = .int .i64 j ∧ l = .int .i64 lo ∧ 0 ≤ lo ∧ lo ≤ 1048576 ∧ incF n 0 L = incF n lo (L.drop j)) (fun _ i => L.length - (intOf i).toNat)
    case atStart => exact ⟨0, 0, Nat.zero_le _, rfl, rfl, by omega, by omega, rfl⟩
    case round =>
      obtain ⟨j, lo, hj, rfl, rfl, lo0, lo1, hall⟩ := hrel
      have HA := Lib.hid hall
      clear hall
      by_cases hlt : j < L.length
      · have c1 := HAT.out j hlt
        have HS := Lib.hid (HA.out.trans (incF_at hlt lo))
        obtain ⟨x, hx⟩ : ∃ x, x = L[j] := ⟨_, rfl⟩
        rw [← hx] at c1 HS
        clear hx HA
        by_cases h1 : lo ≤ x
        · by_cases h2 : x < n
          · have HN : Hid (incF n 0 L = incF n (x + 1) (L.drop (j + 1))) := Lib.hid (by rw [HS.out, decide_eq_true (show lo ≤ x ∧ x < n from ⟨h1, h2⟩)]; rfl)
            go_wp2
            go_round
            case rel => exact ⟨j + 1, x + 1, by omega, by go_num, by go_num, by omega, by omega, HN.out⟩
            case measure => simp [intOf]; omega
          · have HN : Hid (incF n 0 L = false) := Lib.hid (by rw [HS.out, decide_eq_false (show ¬ (lo ≤ x ∧ x < n) from fun h => h2 h.2)]; rfl)
            go_wp2
            go_ret
            exact ⟨ret_bool HN.out.symm, rfl⟩
        · have HN : Hid (incF n 0 L = false) := Lib.hid (by rw [HS.out, decide_eq_false (show ¬ (lo ≤ x ∧ x < n) from fun h => h1 h.1)]; rfl)
          go_wp2
          go_ret
          exact ⟨ret_bool HN.out.symm, rfl⟩
      · have HN := Lib.hid (HA.out.trans (incF_end (by omega) lo))
        go_wp2
        go_ret
        exact ⟨ret_bool HN.out.symm, rfl⟩

set_option maxHeartbeats 1000000 in
theorem l1Rising_any (A : Option Addr) (c : Nat) (L : List Int) (hi : Int) (w : World) (hm : L.length ≤ 1048576) (hn : hi < 1048576) (h : IntSl w A L) :
    Calls Try.prog 83 #[.slice A L.length c, .int .i64 0, .int .i64 hi] w fun e w' => e = .returned (.bool (incF (hi + 1) 0 L)) ∧ w = w' := by
  rcases Nat.eq_zero_or_pos L.length with h0 | h0
  · obtain rfl : L = [] := List.eq_nil_of_length_eq_zero h0
    clear h h0 hm
    go_enter Try.func83, Try.ntmps83
    go_wp2
    refine wp_loop_rounds 1 ?_
    rw [rounds_succ]
    go_wp2
    go_ret
    exact ⟨rfl, rfl⟩
  · obtain ⟨g, off, rfl, -, hat⟩ := h.some h0
    have HAT := Lib.hid hat
    clear hat h
    go_enter Try.func83, Try.ntmps83
    go_wp2
    go_loop [11] (fun i => ∃ j : Nat, j ≤ L.length ∧ i = .int .i64 j ∧ 0 ≤ lstI L j ∧ incF (hi + 1) 0 L = incF (hi + 1) (lstI L j) (L.drop j)) (fun i => L.length - (intOf i).toNat)
    case atStart => exact ⟨0, Nat.zero_le _, rfl, Int.le_refl _, rfl⟩
    case round =>
      obtain ⟨j, hj, rfl, hl0, hall⟩ := hrel
      have HA := Lib.hid hall
      clear hall
      by_cases hlt : j < L.length
      · have c1 := HAT.out j hlt
        have HS := Lib.hid (HA.out.trans (incF_at hlt _))
        have HL := Lib.hid (lstI_succ hlt)
        obtain ⟨x, hx⟩ : ∃ x, x = L[j] := ⟨_, rfl⟩
        rw [← hx] at c1 HS HL
        have HC := Lib.hid fun W => l1In_any x 0 hi W
        clear hx HA
        by_cases h1 : 0 ≤ x ∧ x ≤ hi
        · rw [decide_eq_true h1] at HC
          cases j with
          | zero =>
            have HN : Hid (incF (hi + 1) 0 L = incF (hi + 1) (lstI L 1) (L.drop 1)) := Lib.hid (by
              rw [HS.out, HL.out, decide_eq_true (show lstI L 0 ≤ x ∧ x < hi + 1 from ⟨h1.1, by omega⟩)]; rfl)
            have H1 : Hid (0 ≤ lstI L (0 + 1)) := Lib.hid (by rw [HL.out]; omega)
            clear hl0
            rw [Nat.add_zero] at c1
            go_wp2_with (go_at_call 58; refine (HC.out _).mono ?_; rintro e w' ⟨rfl, rfl⟩)
            go_round
            case rel => exact ⟨1, by omega, rfl, H1.out, HN.out⟩
            case measure => simp [intOf]; omega
          | succ m =>
            have hm1 : m < L.length := by omega
            have c2 := HAT.out m hm1
            have HM := lstI_succ hm1
            obtain ⟨y, hy⟩ : ∃ y, y = L[m] := ⟨_, rfl⟩
            rw [← hy] at c2 HM
            rw [HM] at hl0 HS
            have hz : decide (0 < (m : Int) + 1) = true := decide_eq_true (by omega)
            have hz2 : (0 : Int) < (m : Int) + 1 := by omega
            have hk : (m : Int) + 1 < (L.length : Int) := by omega
            have e2 : ((m : Int) + 1).toNat = m + 1 := by omega
            have m0 : (0 : Int) ≤ (m : Int) := by omega
            have m1 : (m : Int) < (L.length : Int) := by omega
            have kz : (0 : Int) ≤ (m : Int) + 1 := by omega
            rw [show ((m + 1 : Nat) : Int) = (m : Int) + 1 by omega]
            clear hy HM
            by_cases h2 : x ≤ y
            · have HN : Hid (incF (hi + 1) 0 L = false) := Lib.hid (by rw [HS.out, decide_eq_false (show ¬ (y + 1 ≤ x ∧ x < hi + 1) by omega)]; rfl)
              go_wp2_with (go_at_call 58; refine (HC.out _).mono ?_; rintro e w' ⟨rfl, rfl⟩)
              go_ret
              exact ⟨ret_bool HN.out.symm, rfl⟩
            · have HN : Hid (incF (hi + 1) 0 L = incF (hi + 1) (lstI L (m + 1 + 1)) (L.drop (m + 1 + 1))) := Lib.hid (by
                rw [HS.out, HL.out, decide_eq_true (show y + 1 ≤ x ∧ x < hi + 1 by omega)]; rfl)
              have H1 : Hid (0 ≤ lstI L (m + 1 + 1)) := Lib.hid (by rw [HL.out]; omega)
              go_wp2_with (go_at_call 58; refine (HC.out _).mono ?_; rintro e w' ⟨rfl, rfl⟩)
              go_round
              case rel => exact ⟨m + 1 + 1, by omega, by go_num, H1.out, HN.out⟩
              case measure => simp [intOf]; omega
        · rw [decide_eq_false h1] at HC
          have HN : Hid (incF (hi + 1) 0 L = false) := Lib.hid (by rw [HS.out, decide_eq_false (show ¬ (lstI L j ≤ x ∧ x < hi + 1) by omega)]; rfl)
          clear hl0
          go_wp2_with (go_at_call 58; refine (HC.out _).mono ?_; rintro e w' ⟨rfl, rfl⟩)
          go_ret
          exact ⟨ret_bool HN.out.symm, rfl⟩
      · have HN := Lib.hid (HA.out.trans (incF_end (by omega) _))
        clear hl0
        go_wp2
        go_ret
        exact ⟨ret_bool HN.out.symm, rfl⟩
/-- the least that the number at j may be, from lo on -/
def lstJ (lo : Int) (L : List Int) : Nat → Int
  | 0 => lo
  | j + 1 => L.getD j 0 + 1
theorem lstJ_succ (lo : Int) {L : List Int} {j : Nat} (h : j < L.length) : lstJ lo L (j + 1) = L[j] + 1 := by
  show L.getD j 0 + 1 = _
  rw [List.getD_eq_getElem?_getD, List.getElem?_eq_getElem h]; rfl
set_option maxHeartbeats 1000000 in
theorem l1RisingL_any (A : Option Addr) (c : Nat) (L : List Int) (lo hi : Int) (w : World) (hlo : 0 ≤ lo) (hm : L.length ≤ 1048576) (hn : hi < 1048576) (h : IntSl w A L) :
    Calls Try.prog 83 #[.slice A L.length c, .int .i64 lo, .int .i64 hi] w fun e w' => e = .returned (.bool (incF (hi + 1) lo L)) ∧ w = w' := by
  rcases Nat.eq_zero_or_pos L.length with h0 | h0
  · obtain rfl : L = [] := List.eq_nil_of_length_eq_zero h0
    clear h h0 hm
    go_enter Try.func83, Try.ntmps83
    go_wp2
    refine wp_loop_rounds 1 ?_
    rw [rounds_succ]
    go_wp2
    go_ret
    exact ⟨rfl, rfl⟩
  · obtain ⟨g, off, rfl, -, hat⟩ := h.some h0
    have HAT := Lib.hid hat
    clear hat h
    go_enter Try.func83, Try.ntmps83
    go_wp2
    go_loop [11] (fun i => ∃ j : Nat, j ≤ L.length ∧ i = .int .i64 j ∧ lo ≤ lstJ lo L j ∧ incF (hi + 1) lo L = incF (hi + 1) (lstJ lo L j) (L.drop j)) (fun i => L.length - (intOf i).toNat)
    case atStart => exact ⟨0, Nat.zero_le _, rfl, Int.le_refl _, rfl⟩
    case round =>
      obtain ⟨j, hj, rfl, hl0, hall⟩ := hrel
      have HA := Lib.hid hall
      clear hall
      by_cases hlt : j < L.length
      · have c1 := HAT.out j hlt
        have HS := Lib.hid (HA.out.trans (incF_at hlt _))
        have HL := Lib.hid (lstJ_succ lo hlt)
        obtain ⟨x, hx⟩ : ∃ x, x = L[j] := ⟨_, rfl⟩
        rw [← hx] at c1 HS HL
        have HC := Lib.hid fun W => l1In_any x lo hi W
        clear hx HA
        by_cases h1 : lo ≤ x ∧ x ≤ hi
        · rw [decide_eq_true h1] at HC
          cases j with
          | zero =>
            have HN : Hid (incF (hi + 1) lo L = incF (hi + 1) (lstJ lo L 1) (L.drop 1)) := Lib.hid (by
              rw [HS.out, HL.out, decide_eq_true (show lstJ lo L 0 ≤ x ∧ x < hi + 1 from ⟨h1.1, by omega⟩)]; rfl)
            have H1 : Hid (lo ≤ lstJ lo L (0 + 1)) := Lib.hid (by rw [HL.out]; omega)
            clear hl0
            rw [Nat.add_zero] at c1
            go_wp2_with (go_at_call 58; refine (HC.out _).mono ?_; rintro e w' ⟨rfl, rfl⟩)
            go_round
            case rel => exact ⟨1, by omega, rfl, H1.out, HN.out⟩
            case measure => simp [intOf]; omega
          | succ m =>
            have hm1 : m < L.length := by omega
            have c2 := HAT.out m hm1
            have HM := lstJ_succ lo hm1
            obtain ⟨y, hy⟩ : ∃ y, y = L[m] := ⟨_, rfl⟩
            rw [← hy] at c2 HM
            rw [HM] at hl0 HS
            have hz : decide (0 < (m : Int) + 1) = true := decide_eq_true (by omega)
            have hz2 : (0 : Int) < (m : Int) + 1 := by omega
            have hk : (m : Int) + 1 < (L.length : Int) := by omega
            have e2 : ((m : Int) + 1).toNat = m + 1 := by omega
            have m0 : (0 : Int) ≤ (m : Int) := by omega
            have m1 : (m : Int) < (L.length : Int) := by omega
            have kz : (0 : Int) ≤ (m : Int) + 1 := by omega
            rw [show ((m + 1 : Nat) : Int) = (m : Int) + 1 by omega]
            clear hy HM
            by_cases h2 : x ≤ y
            · have HN : Hid (incF (hi + 1) lo L = false) := Lib.hid (by rw [HS.out, decide_eq_false (show ¬ (y + 1 ≤ x ∧ x < hi + 1) by omega)]; rfl)
              go_wp2_with (go_at_call 58; refine (HC.out _).mono ?_; rintro e w' ⟨rfl, rfl⟩)
              go_ret
              exact ⟨ret_bool HN.out.symm, rfl⟩
            · have HN : Hid (incF (hi + 1) lo L = incF (hi + 1) (lstJ lo L (m + 1 + 1)) (L.drop (m + 1 + 1))) := Lib.hid (by
                rw [HS.out, HL.out, decide_eq_true (show y + 1 ≤ x ∧ x < hi + 1 by omega)]; rfl)
              have H1 : Hid (lo ≤ lstJ lo L (m + 1 + 1)) := Lib.hid (by rw [HL.out]; omega)
              go_wp2_with (go_at_call 58; refine (HC.out _).mono ?_; rintro e w' ⟨rfl, rfl⟩)
              go_round
              case rel => exact ⟨m + 1 + 1, by omega, by go_num, H1.out, HN.out⟩
              case measure => simp [intOf]; omega
        · rw [decide_eq_false h1] at HC
          have HN : Hid (incF (hi + 1) lo L = false) := Lib.hid (by rw [HS.out, decide_eq_false (show ¬ (lstJ lo L j ≤ x ∧ x < hi + 1) by omega)]; rfl)
          clear hl0
          go_wp2_with (go_at_call 58; refine (HC.out _).mono ?_; rintro e w' ⟨rfl, rfl⟩)
          go_ret
          exact ⟨ret_bool HN.out.symm, rfl⟩
      · have HN := Lib.hid (HA.out.trans (incF_end (by omega) _))
        clear hl0
        go_wp2
        go_ret
        exact ⟨ret_bool HN.out.symm, rfl⟩
theorem l1Rising1_any (A : Option Addr) (c : Nat) (L : List Int) (hi : Int) (w : World) (hm : L.length ≤ 1048576) (hn : hi < 1048576) (h : IntSl w A L) :
    Calls Try.prog 83 #[.slice A L.length c, .int .i64 1, .int .i64 hi] w fun e w' => e = .returned (.bool (incF (hi + 1) 1 L)) ∧ w = w' := l1RisingL_any A c L 1 hi w (by decide) hm hn h

set_option maxHeartbeats 1000000 in
theorem l1Has_any (A : Option Addr) (c : Nat) (L : List Int) (x : Int) (w : World) (hm : L.length ≤ 1048576) (h : IntSl w A L) :
    Calls Try.prog 77 #[.slice A L.length c, .int .i64 x] w fun e w' => e = .returned (.bool (decide (x ∈ L))) ∧ w = w' := by
  rcases Nat.eq_zero_or_pos L.length with h0 | h0
  · obtain rfl : L = [] := List.eq_nil_of_length_eq_zero h0
    clear h h0 hm
    rw [show decide (x ∈ ([] : List Int)) = false from decide_eq_false (by simp)]
    go_enter Try.func77, Try.ntmps77
    go_wp2
    refine wp_loop_rounds 1 ?_
    rw [rounds_succ]
    go_wp2
    go_ret
    exact ⟨rfl, rfl⟩
  · obtain ⟨g, off, rfl, -, hat⟩ := h.some h0
    have HAT := Lib.hid hat
    clear hat h
    go_enter Try.func77, Try.ntmps77
    go_wp2
    go_loop [9] (fun i => ∃ j : Nat, j ≤ L.length ∧ i = .int .i64 j ∧ ¬ x ∈ L.take j) (fun i => L.length - (intOf i).toNat)
    case atStart => exact ⟨0, Nat.zero_le _, rfl, by simp⟩
    case round =>
      obtain ⟨j, hj, rfl, hall⟩ := hrel
      have HA := Lib.hid hall
      clear hall
      by_cases hlt : j < L.length
      · have c1 := HAT.out j hlt
        have HT := Lib.hid (List.take_succ_eq_append_getElem hlt)
        have HM := Lib.hid (List.getElem_mem hlt)
        obtain ⟨y, hy⟩ : ∃ y, y = L[j] := ⟨_, rfl⟩
        rw [← hy] at c1 HT HM
        clear hy
        by_cases h1 : y = x
        · subst h1
          have HN := Lib.hid (decide_eq_true HM.out)
          go_wp2
          go_ret
          exact ⟨ret_bool HN.out.symm, rfl⟩
        · have HN : Hid (¬ x ∈ L.take (j + 1)) := Lib.hid (by
            rw [HT.out, List.mem_append, List.mem_singleton]
            rintro (h | h)
            · exact HA.out h
            · exact h1 h.symm)
          have h1' : (y == x) = false := by rw [beq_eq_false_iff_ne]; exact h1
          go_wp2
          go_round
          case rel => exact ⟨j + 1, by omega, by go_num, HN.out⟩
          case measure => simp [intOf]; omega
      · obtain rfl : j = L.length := by omega
        have HN : Hid (decide (x ∈ L) = false) := Lib.hid (decide_eq_false (by have := HA.out; rwa [List.take_length] at this))
        go_wp2
        go_ret
        exact ⟨ret_bool HN.out.symm, rfl⟩
end Go.Proofs.Ytbocdhibimcobaa
