/- Lists of numbers in bounds: slices.Min, slices.Max, 'impl.areNumbers', 'spec.l1In', 'spec.l1All', and widths and rates. No condition but the lists' lengths. -/
import Derived.Test.YtbocdhibimcobaaDoorIn
import Derived.Lib.MinMax
import Derived.Lib.Slices
namespace Go.Proofs.YtbocdhibimcobaaDoor
open Go.RowKit

theorem getD_lt (zs : List Int) (k : Nat) (h : k < zs.length) : zs.getD k 0 = zs[k] := by
  rw [List.getD_eq_getElem?_getD, List.getElem?_eq_getElem h]; rfl

set_option maxHeartbeats 1000000 in
theorem slMax_any (A : Option Addr) (c : Nat) (L : List Int) (w : World) (h0 : 0 < L.length) (hm : L.length ≤ 1048576) (h : IntSl w A L) :
    Calls Tryd.prog 61 #[.slice A L.length c] w fun e w' => e = .returned (.int .i64 (Lib.maxOf L)) ∧ w = w' := by
  obtain ⟨g, off, rfl, -, hat⟩ := h.some h0
  have hc0 := hat 0 h0
  rw [Nat.add_zero] at hc0
  have HAT := Lib.hid hat
  have HE : Hid (L[0] = Lib.maxOf (L.take 1)) := Lib.hid (by rw [Lib.maxOf_one, getD_lt L 0 h0])
  clear hat h
  go_enter Tryd.func61, Tryd.ntmps61
  go_wp2
  go_loop [3, 4] (fun m i => ∃ k : Nat, 0 < k ∧ k ≤ L.length ∧ i = .int .i64 k ∧ m = .int .i64 (Lib.maxOf (L.take k))) (fun _ i => L.length - (intOf i).toNat)
  case atStart => exact ⟨1, Nat.one_pos, h0, rfl, by rw [← HE.out]⟩
  case round =>
    clear hc0 HE
    obtain ⟨k, hk0, hk, rfl, rfl⟩ := hrel
    by_cases hlt : k < L.length
    · have c1 := HAT.out k hlt
      have HS := Lib.hid (Lib.maxOf_step L k hk0 hlt)
      rw [getD_lt L k hlt] at HS
      go_wp2
      go_round
      case rel => exact ⟨k + 1, by omega, by omega, by go_num, by rw [HS.out]⟩
      case measure => simp [intOf]; omega
    · obtain rfl : k = L.length := by omega
      go_wp2
      go_ret
      exact ⟨rfl, rfl⟩

set_option maxHeartbeats 1000000 in
theorem slMin_any (A : Option Addr) (c : Nat) (L : List Int) (w : World) (h0 : 0 < L.length) (hm : L.length ≤ 1048576) (h : IntSl w A L) :
    Calls Tryd.prog 60 #[.slice A L.length c] w fun e w' => e = .returned (.int .i64 (Lib.minOf L)) ∧ w = w' := by
  obtain ⟨g, off, rfl, -, hat⟩ := h.some h0
  have hc0 := hat 0 h0
  rw [Nat.add_zero] at hc0
  have HAT := Lib.hid hat
  have HE : Hid (L[0] = Lib.minOf (L.take 1)) := Lib.hid (by rw [Lib.minOf_one, getD_lt L 0 h0])
  clear hat h
  go_enter Tryd.func60, Tryd.ntmps60
  go_wp2
  go_loop [3, 4] (fun m i => ∃ k : Nat, 0 < k ∧ k ≤ L.length ∧ i = .int .i64 k ∧ m = .int .i64 (Lib.minOf (L.take k))) (fun _ i => L.length - (intOf i).toNat)
  case atStart => exact ⟨1, Nat.one_pos, h0, rfl, by rw [← HE.out]⟩
  case round =>
    clear hc0 HE
    obtain ⟨k, hk0, hk, rfl, rfl⟩ := hrel
    by_cases hlt : k < L.length
    · have c1 := HAT.out k hlt
      have HS := Lib.hid (Lib.minOf_step L k hk0 hlt)
      rw [getD_lt L k hlt] at HS
      go_wp2
      go_round
      case rel => exact ⟨k + 1, by omega, by omega, by go_num, by rw [HS.out]⟩
      case measure => simp [intOf]; omega
    · obtain rfl : k = L.length := by omega
      go_wp2
      go_ret
      exact ⟨rfl, rfl⟩

/-- all numbers of a list lie in bounds -/
def allIn (lo hi : Int) (L : List Int) : Bool := L.all fun x => decide (lo ≤ x ∧ x ≤ hi)
/-- 1 to n numbers from 1 to m -/
def okNums (n : Nat) (m : Int) (L : List Int) : Bool := decide (1 ≤ L.length ∧ L.length ≤ n) && allIn 1 m L
theorem allIn_succ {lo hi : Int} {L : List Int} {k : Nat} (hk : k < L.length) (h : allIn lo hi (L.take k) = true) (h2 : lo ≤ L[k] ∧ L[k] ≤ hi) : allIn lo hi (L.take (k + 1)) = true := by
  unfold allIn at *
  rw [List.take_succ_eq_append_getElem hk, List.all_append, h]
  simp [h2]
theorem allIn_no {lo hi : Int} {L : List Int} {k : Nat} (hk : k < L.length) (h2 : ¬ (lo ≤ L[k] ∧ L[k] ≤ hi)) : allIn lo hi L = false := by
  unfold allIn
  rw [List.all_eq_false]
  exact ⟨L[k], List.getElem_mem hk, by simpa using h2⟩
theorem allIn_at {lo hi : Int} {L : List Int} (h : allIn lo hi L = true) {k : Nat} (hk : k < L.length) : lo ≤ L[k] ∧ L[k] ≤ hi := by
  unfold allIn at h
  rw [List.all_eq_true] at h
  exact of_decide_eq_true (h _ (List.getElem_mem hk))
theorem allIn_mem {lo hi : Int} {L : List Int} (h : allIn lo hi L = true) {x : Int} (hx : x ∈ L) : lo ≤ x ∧ x ≤ hi := by
  unfold allIn at h
  rw [List.all_eq_true] at h
  exact of_decide_eq_true (h _ hx)
theorem okNums_len {n : Nat} {m : Int} {L : List Int} (h : okNums n m L = true) : 1 ≤ L.length ∧ L.length ≤ n := by
  unfold okNums at h
  rw [Bool.and_eq_true, decide_eq_true_iff] at h
  exact h.1
theorem okNums_all {n : Nat} {m : Int} {L : List Int} (h : okNums n m L = true) : allIn 1 m L = true := by
  unfold okNums at h
  rw [Bool.and_eq_true] at h
  exact h.2
theorem okNums_at {n : Nat} {m : Int} {L : List Int} (h : okNums n m L = true) {k : Nat} (hk : k < L.length) : 1 ≤ L[k] ∧ L[k] ≤ m := allIn_at (okNums_all h) hk
theorem okNums_long {n : Nat} {m : Int} {L : List Int} (h : ¬ (1 ≤ L.length ∧ L.length ≤ n)) : okNums n m L = false := by
  unfold okNums; rw [decide_eq_false h]; rfl
theorem okNums_of {n : Nat} {m : Int} {L : List Int} (h : 1 ≤ L.length ∧ L.length ≤ n) : okNums n m L = allIn 1 m L := by
  unfold okNums; rw [decide_eq_true h]; rfl

theorem foldl_max_le (L : List Int) : ∀ (a m : Int), (L.foldl max a ≤ m ↔ a ≤ m ∧ ∀ x ∈ L, x ≤ m) := by
  induction L with
  | nil => intro a m; simp
  | cons z L ih =>
    intro a m
    rw [List.foldl_cons, ih]
    simp only [List.mem_cons, forall_eq_or_imp]
    constructor
    · rintro ⟨h, h2⟩; exact ⟨by omega, by omega, h2⟩
    · rintro ⟨h, h1, h2⟩; exact ⟨by omega, h2⟩
theorem foldl_min_ge (L : List Int) : ∀ (a m : Int), (m ≤ L.foldl min a ↔ m ≤ a ∧ ∀ x ∈ L, m ≤ x) := by
  induction L with
  | nil => intro a m; simp
  | cons z L ih =>
    intro a m
    rw [List.foldl_cons, ih]
    simp only [List.mem_cons, forall_eq_or_imp]
    constructor
    · rintro ⟨h, h2⟩; exact ⟨by omega, by omega, h2⟩
    · rintro ⟨h, h1, h2⟩; exact ⟨by omega, h2⟩
theorem maxOf_le {L : List Int} (h : 0 < L.length) (m : Int) : (Lib.maxOf L ≤ m ↔ ∀ x ∈ L, x ≤ m) := by
  unfold Lib.maxOf
  rw [foldl_max_le]
  match L, h with
  | z :: L, _ => simp
theorem minOf_ge {L : List Int} (h : 0 < L.length) (m : Int) : (m ≤ Lib.minOf L ↔ ∀ x ∈ L, m ≤ x) := by
  unfold Lib.minOf
  rw [foldl_min_ge]
  match L, h with
  | z :: L, _ => simp
theorem minMax_all {L : List Int} (h : 0 < L.length) (lo hi : Int) : (decide (lo ≤ Lib.minOf L) && decide (Lib.maxOf L ≤ hi)) = allIn lo hi L := by
  rw [Bool.eq_iff_iff, Bool.and_eq_true, decide_eq_true_iff, decide_eq_true_iff, minOf_ge h, maxOf_le h]
  unfold allIn
  rw [List.all_eq_true]
  constructor
  · rintro ⟨h1, h2⟩ x hx; exact decide_eq_true ⟨h1 x hx, h2 x hx⟩
  · intro h1; exact ⟨fun x hx => (of_decide_eq_true (h1 x hx)).1, fun x hx => (of_decide_eq_true (h1 x hx)).2⟩

set_option maxHeartbeats 1000000 in
theorem areNumbers_any (A : Option Addr) (c : Nat) (L : List Int) (n : Nat) (m : Int) (w : World) (hm : L.length ≤ 1048576) (h : IntSl w A L) :
    Calls Tryd.prog 59 #[.slice A L.length c, .int .i64 n, .int .i64 m] w fun e w' => e = .returned (.bool (okNums n m L)) ∧ w = w' := by
  by_cases h1 : 1 ≤ L.length
  · by_cases h2 : L.length ≤ n
    · have HO := Lib.hid (okNums_of (m := m) ⟨h1, h2⟩)
      have HA := Lib.hid (minMax_all h1 1 m)
      have HX := Lib.hid fun W hW => slMax_any A c L W h1 hm hW
      have HN := Lib.hid fun W hW => slMin_any A c L W h1 hm hW
      have HL := Lib.hid h
      clear h
      obtain ⟨x, hx⟩ : ∃ x, x = Lib.maxOf L := ⟨_, rfl⟩
      obtain ⟨y, hy⟩ : ∃ y, y = Lib.minOf L := ⟨_, rfl⟩
      rw [← hx] at HA HX
      rw [← hy] at HA HN
      rw [← HA.out] at HO
      clear hx hy HA
      by_cases hy1 : 1 ≤ y
      · have e1 : (decide (1 ≤ y) && decide (x ≤ m)) = decide (x ≤ m) := by rw [decide_eq_true hy1]; rfl
        rw [e1] at HO
        clear e1
        go_enter Tryd.func59, Tryd.ntmps59
        go_wp2_with (first
          | (go_at_call 60; refine (HN.out _ HL.out).mono ?_; rintro e w' ⟨rfl, rfl⟩)
          | (go_at_call 61; refine (HX.out _ HL.out).mono ?_; rintro e w' ⟨rfl, rfl⟩))
        go_ret
        exact ⟨ret_bool HO.out.symm, rfl⟩
      · have e1 : (decide (1 ≤ y) && decide (x ≤ m)) = false := by rw [decide_eq_false hy1]; rfl
        rw [e1] at HO
        clear e1
        go_enter Tryd.func59, Tryd.ntmps59
        go_wp2_with (go_at_call 60; refine (HN.out _ HL.out).mono ?_; rintro e w' ⟨rfl, rfl⟩)
        go_ret
        exact ⟨ret_bool HO.out.symm, rfl⟩
    · have HO := Lib.hid (okNums_long (n := n) (m := m) (L := L) (by omega))
      clear h
      go_enter Tryd.func59, Tryd.ntmps59
      go_wp2
      go_ret
      exact ⟨ret_bool HO.out.symm, rfl⟩
  · have HO := Lib.hid (okNums_long (n := n) (m := m) (L := L) (by omega))
    clear h
    go_enter Tryd.func59, Tryd.ntmps59
    go_wp2
    go_ret
    exact ⟨ret_bool HO.out.symm, rfl⟩

set_option maxHeartbeats 1000000 in
theorem l1All_any (A : Option Addr) (c : Nat) (L : List Int) (lo hi : Int) (w : World) (hm : L.length ≤ 1048576) (h : IntSl w A L) :
    Calls Tryd.prog 58 #[.slice A L.length c, .int .i64 lo, .int .i64 hi] w fun e w' => e = .returned (.bool (allIn lo hi L)) ∧ w = w' := by
  rcases Nat.eq_zero_or_pos L.length with h0 | h0
  · obtain rfl : L = [] := List.eq_nil_of_length_eq_zero h0
    clear h h0 hm
    go_enter Tryd.func58, Tryd.ntmps58
    go_wp2
    refine wp_loop_rounds 1 ?_
    rw [rounds_succ]
    go_wp2
    go_ret
    exact ⟨rfl, rfl⟩
  · obtain ⟨g, off, rfl, -, hat⟩ := h.some h0
    have HAT := Lib.hid hat
    clear hat h
    go_enter Tryd.func58, Tryd.ntmps58
    go_wp2
    go_loop [8, 11] (fun _ i => ∃ k : Nat, k ≤ L.length ∧ i = .int .i64 k ∧ allIn lo hi (L.take k) = true) (fun _ i => L.length - (intOf i).toNat)
    case atStart => exact ⟨0, Nat.zero_le _, rfl, rfl⟩
    case round =>
      obtain ⟨k, hk, rfl, hall⟩ := hrel
      have HA := Lib.hid hall
      clear hall
      by_cases hlt : k < L.length
      · have c1 := HAT.out k hlt
        by_cases hok : lo ≤ L[k] ∧ L[k] ≤ hi
        · have HN := Lib.hid (allIn_succ hlt HA.out hok)
          have HC := Lib.hid fun W => l1In_t L[k] lo hi W hok
          clear hok
          go_wp2_with (go_at_call 55; refine (HC.out _).mono ?_; rintro e w' ⟨rfl, rfl⟩)
          go_round
          case rel => exact ⟨k + 1, by omega, by go_num, HN.out⟩
          case measure => simp [intOf]; omega
        · have HN := Lib.hid (allIn_no hlt hok)
          have HC := Lib.hid fun W => l1In_f L[k] lo hi W hok
          clear hok
          go_wp2_with (go_at_call 55; refine (HC.out _).mono ?_; rintro e w' ⟨rfl, rfl⟩)
          go_ret
          exact ⟨ret_bool HN.out.symm, rfl⟩
      · obtain rfl : k = L.length := by omega
        rw [List.take_length] at HA
        go_wp2
        go_ret
        exact ⟨ret_bool HA.out.symm, rfl⟩
end Go.Proofs.YtbocdhibimcobaaDoor
