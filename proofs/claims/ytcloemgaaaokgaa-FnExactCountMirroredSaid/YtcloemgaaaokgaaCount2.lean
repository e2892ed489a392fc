/- CountProper: powers, the two functions, and the law's walk. No condition. -/
import Derived.Test.YtcloemgaaaokgaaCount
namespace Go.Proofs.Ytcloemgaaaokgaa
open Go.RowKit

def powV (b : Nat) (k : Nat) : Int := (b : Int) ^ k
theorem powV_zero (b : Nat) : powV b 0 = 1 := by simp [powV]
theorem powV_succ (b k : Nat) : powV b k * (b : Int) = powV b (k + 1) := by unfold powV; rw [Int.pow_succ]
theorem powV_bd {b k : Nat} (hb : b ≤ 4) (hk : k ≤ 20) : 0 ≤ powV b k ∧ powV b k ≤ 1099511627776 := by
  have : ∀ (i : Fin 5) (j : Fin 21), 0 ≤ powV i.val j.val ∧ powV i.val j.val ≤ 1099511627776 := by decide +kernel
  exact this ⟨b, by omega⟩ ⟨k, by omega⟩

set_option maxHeartbeats 400000 in
theorem power_any (b k : Nat) (w : World) (hb : b ≤ 4) (hk : k ≤ 19) :
    Calls Try.prog 101 #[.int .i64 b, .int .i64 k] w fun e w' => e = .returned (.int .i64 (powV b k)) ∧ w = w' := by
  have HZ := Lib.hid (powV_zero b)
  go_enter Try.func101, Try.ntmps101
  go_wp2
  go_loop [5, 7] (fun p i => ∃ j : Nat, j ≤ k ∧ i = .int .i64 j ∧ p = .int .i64 (powV b j)) (fun _ i => k - (intOf i).toNat)
  case atStart => exact ⟨0, Nat.zero_le _, rfl, by rw [HZ.out]⟩
  case round =>
    obtain ⟨j, hj, rfl, rfl⟩ := hrel
    by_cases hlt : j < k
    · have HS := Lib.hid (powV_succ b j)
      have hbd := powV_bd (k := j + 1) hb (by omega)
      have hwr : IntKind.i64.wrap (powV b j * (b : Int)) = powV b j * (b : Int) := IntWalk.i64_in _ (by have := HS.out; omega)
      clear hbd
      go_wp2
      go_round
      case rel => exact ⟨j + 1, by omega, by go_num, by rw [HS.out]⟩
      case measure => simp [intOf]; omega
    · obtain rfl : j = k := by omega
      go_wp2
      go_ret
      exact ⟨rfl, rfl⟩

theorem lineV_pow (q n : Nat) (hq : 1 ≤ q) : (q : Int) * powV (q - 1) (n - 1) = lineV q n := by
  unfold powV lineV
  rw [show ((q - 1 : Nat) : Int) = (q : Int) - 1 by omega]

set_option maxHeartbeats 400000 in
theorem properInLine_any (n q : Nat) (w : World) (hn1 : 1 ≤ n) (hn : n ≤ 20) (hq1 : 1 ≤ q) (hq : q ≤ 5) :
    Calls Try.prog 66 #[.int .i64 n, .int .i64 q] w fun e w' => e = .returned (.int .i64 (lineV q n)) ∧ w = w' := by
  have HL := Lib.hid (lineV_pow q n hq1)
  have e1 : (q : Int) - 1 = ((q - 1 : Nat) : Int) := by omega
  have e2 : (n : Int) - 1 = ((n - 1 : Nat) : Int) := by omega
  have HC : Hid (∀ W, Calls Try.prog 101 #[.int .i64 ((q : Int) - 1), .int .i64 ((n : Int) - 1)] W fun e w' => e = .returned (.int .i64 (powV (q - 1) (n - 1))) ∧ W = w') := Lib.hid fun W => by rw [e1, e2]; exact power_any (q - 1) (n - 1) W (by omega) (by omega)
  have hbd : 0 ≤ lineV q n ∧ lineV q n ≤ 476837158203125 := by
    have := lineV_bd q (n - 1) hq (by omega)
    rwa [show n - 1 + 1 = n by omega] at this
  have hwr : IntKind.i64.wrap ((q : Int) * powV (q - 1) (n - 1)) = (q : Int) * powV (q - 1) (n - 1) := IntWalk.i64_in _ (by have := HL.out; omega)
  clear e1 e2 hbd
  go_enter Try.func66, Try.ntmps66
  go_wp2_with (go_at_call 101; refine (HC.out _).mono ?_; rintro e w' ⟨rfl, rfl⟩)
  go_ret
  exact ⟨ret_int HL.out, rfl⟩

theorem ringV_one (q : Nat) : ringV q 1 = 0 := by simp [ringV, altV]
theorem ringV_bd {q n : Nat} (hq1 : 1 ≤ q) (hq : q ≤ 5) (hn : n ≤ 20) : 0 ≤ ringV q n ∧ ringV q n ≤ 2384185791015625 := by
  have h := mulV_bd (a := q) (b := altV q (n - 1)) hq
  have hb : 0 ≤ altV q (n - 1) ∧ altV q (n - 1) ≤ 476837158203125 := by
    rcases Nat.eq_zero_or_pos (n - 1) with h0 | h0
    · rw [h0]; simp [altV]
    · rcases altV_bd q (n - 2) hq (by omega) with h | h
      · rwa [show n - 2 + 1 = n - 1 by omega] at h
      · omega
  exact h hb.1 hb.2

set_option maxHeartbeats 400000 in
theorem properAround_any (n q : Nat) (w : World) (hn1 : 1 ≤ n) (hn : n ≤ 20) (hq1 : 1 ≤ q) (hq : q ≤ 5) :
    Calls Try.prog 65 #[.int .i64 n, .int .i64 q] w fun e w' => e = .returned (.int .i64 (ringV q n)) ∧ w = w' := by
  have HZ := Lib.hid (ringV_one q)
  go_enter Try.func65, Try.ntmps65
  go_wp2
  go_loop [5, 6] (fun p i => ∃ j : Nat, 1 ≤ j ∧ j ≤ n ∧ i = .int .i64 ((j : Int) + 1) ∧ p = .int .i64 (ringV q j)) (fun _ i => 30 - (intOf i).toNat)
  case atStart => exact ⟨1, Nat.le_refl _, hn1, rfl, by rw [HZ.out]⟩
  case round =>
    obtain ⟨j, hj1, hj, rfl, rfl⟩ := hrel
    by_cases hlt : j < n
    · have HS := Lib.hid (ring_step q j hj1)
      obtain ⟨b1, b2⟩ := lineV_bd q j hq (by omega)
      obtain ⟨b3, b4⟩ := ringV_bd (n := j) hq1 hq (by omega)
      have HC : Hid (∀ W, Calls Try.prog 66 #[.int .i64 ((j : Int) + 1), .int .i64 q] W fun e w' => e = .returned (.int .i64 (lineV q (j + 1))) ∧ W = w') := Lib.hid fun W => properInLine_any (j + 1) q W (by omega) (by omega) hq1 hq
      have hle : (j : Int) + 1 ≤ (n : Int) := by omega
      go_wp2_with (go_at_call 66; refine (HC.out _).mono ?_; rintro e w' ⟨rfl, rfl⟩)
      go_round
      case rel => exact ⟨j + 1, by omega, by omega, by go_num, by rw [HS.out]⟩
      case measure => simp [intOf]; omega
    · obtain rfl : j = n := by omega
      have hgt : (j : Int) < (j : Int) + 1 := by omega
      go_wp2
      go_ret
      exact ⟨rfl, rfl⟩

def countOf (n q : Int) (around : Bool) : Array Value :=
  if (okSize n around && okTints q) = true then #[.int .i64 (countV n.toNat q.toNat around), .bool true] else #[.int .i64 0, .bool false]
theorem okAsk_parts {n q : Int} {around : Bool} (h : (okSize n around && okTints q) = true) : (1 ≤ n ∧ n ≤ 20 ∧ (around = true → 3 ≤ n)) ∧ 1 ≤ q ∧ q ≤ 5 := by
  rw [Bool.and_eq_true] at h
  exact ⟨okSize_iff.1 h.1, of_decide_eq_true h.2⟩

set_option maxHeartbeats 400000 in
theorem specCount_any (n q : Int) (around : Bool) (w : World) :
    Calls Try.prog 20 #[.int .i64 n, .int .i64 q, .bool around] w fun e w' => e = .returned (.tuple (countOf n q around)) ∧ Below w.heap.size w w' := by
  unfold countOf
  cases h : okSize n around && okTints q
  · rw [if_neg (by decide)]
    have H := Lib.hid h; clear h
    go_enter Try.func20, Try.ntmps20
    go_wp2_with (go_at_call 60; refine (coAsked_any _ _ _ _).mono ?_; rintro e w' ⟨rfl, rfl⟩; rw [H.out])
    go_ret2
    exact ⟨rfl, Below.refl _ _⟩
  · rw [if_pos rfl]
    obtain ⟨⟨a1, a2, a3⟩, a4, a5⟩ := okAsk_parts h
    have H := Lib.hid h; clear h
    obtain ⟨n, rfl⟩ : ∃ k : Nat, n = k := ⟨n.toNat, by omega⟩
    obtain ⟨q, rfl⟩ : ∃ k : Nat, q = k := ⟨q.toNat, by omega⟩
    simp only [Int.toNat_natCast]
    have HC := Lib.hid fun W => coFrom_bare n q around W (by omega) (by omega) (fun e => by have := a3 e; omega) (by omega) (by omega)
    clear a3
    go_enter Try.func20, Try.ntmps20
    go_wp2_with (first
      | (go_at_call 60; refine (coAsked_any _ _ _ _).mono ?_; rintro e w' ⟨rfl, rfl⟩; rw [H.out])
      | (go_at_call 62; refine (coBare_any n _ (by omega)).mono ?_; rintro e w' ⟨rfl, rfl⟩)
      | (go_at_call 61; refine (HC.out _).mono ?_; rintro e w' ⟨rfl, hb⟩))
    go_ret2
    exact ⟨rfl, hb⟩

set_option maxHeartbeats 400000 in
theorem implCount_any (n q : Int) (around : Bool) (w : World) :
    Calls Try.prog 21 #[.int .i64 n, .int .i64 q, .bool around] w fun e w' => e = .returned (.tuple (countOf n q around)) ∧ w = w' := by
  unfold countOf
  cases h1 : okSize n around
  · rw [if_neg (by simp)]
    have H := Lib.hid h1; clear h1
    go_enter Try.func21, Try.ntmps21
    go_wp2_with (go_at_call 63; refine (areBoards_any _ _ _).mono ?_; rintro e w' ⟨rfl, rfl⟩; rw [H.out])
    go_ret2
    exact ⟨rfl, rfl⟩
  · cases h2 : okTints q
    · rw [if_neg (by simp)]
      have H := Lib.hid h1; clear h1
      have H2 := Lib.hid h2; clear h2
      go_enter Try.func21, Try.ntmps21
      go_wp2_with (first
        | (go_at_call 63; refine (areBoards_any _ _ _).mono ?_; rintro e w' ⟨rfl, rfl⟩; rw [H.out])
        | (go_at_call 64; refine (areTints_any _ _).mono ?_; rintro e w' ⟨rfl, rfl⟩; rw [H2.out]))
      go_ret2
      exact ⟨rfl, rfl⟩
    · rw [if_pos (by decide)]
      obtain ⟨⟨a1, a2, a3⟩, a4, a5⟩ := okAsk_parts (show (okSize n around && okTints q) = true by rw [h1, h2]; rfl)
      have H := Lib.hid h1; clear h1
      have H2 := Lib.hid h2; clear h2
      obtain ⟨n, rfl⟩ : ∃ k : Nat, n = k := ⟨n.toNat, by omega⟩
      obtain ⟨q, rfl⟩ : ∃ k : Nat, q = k := ⟨q.toNat, by omega⟩
      simp only [Int.toNat_natCast]
      clear a3
      cases around
      all_goals
        go_enter Try.func21, Try.ntmps21
        go_wp2_with (first
          | (go_at_call 63; refine (areBoards_any _ _ _).mono ?_; rintro e w' ⟨rfl, rfl⟩; rw [H.out])
          | (go_at_call 64; refine (areTints_any _ _).mono ?_; rintro e w' ⟨rfl, rfl⟩; rw [H2.out])
          | (go_at_call 66; refine (properInLine_any n q _ (by omega) (by omega) (by omega) (by omega)).mono ?_; rintro e w' ⟨rfl, rfl⟩)
          | (go_at_call 65; refine (properAround_any n q _ (by omega) (by omega) (by omega) (by omega)).mono ?_; rintro e w' ⟨rfl, rfl⟩))
        go_ret2
        exact ⟨rfl, rfl⟩

theorem lawCountProper_walk (n q : Int) (around : Bool) (w : World) (_ : (Lit.int .i64 n).wf = true) (_ : (Lit.int .i64 q).wf = true) :
    Calls Try.prog 3 #[.int .i64 n, .int .i64 q, .bool around] w fun e w' => e = .returned (.bool true) ∧ Below w.heap.size w w' := by
  obtain ⟨p, x, hp⟩ : ∃ (p : Int) (x : Bool), countOf n q around = #[.int .i64 p, .bool x] := by
    unfold countOf; split
    · exact ⟨_, _, rfl⟩
    · exact ⟨_, _, rfl⟩
  have S := fun W : World => specCount_any n q around W
  have I := fun W : World => implCount_any n q around W
  rw [hp] at S I
  clear hp
  have HS := Lib.hid S
  have HI := Lib.hid I
  clear S I
  go_enter Try.func3, Try.ntmps3
  go_wp2_with (first
    | (go_at_call 20; refine (HS.out _).mono ?_; rintro e w1 ⟨rfl, hb⟩)
    | (go_at_call 21; refine (HI.out _).mono ?_; rintro e w1 ⟨rfl, rfl⟩))
  go_ret
  exact ⟨rfl, hb⟩
end Go.Proofs.Ytcloemgaaaokgaa
