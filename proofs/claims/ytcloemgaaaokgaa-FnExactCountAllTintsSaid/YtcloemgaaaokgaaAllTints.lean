/- CountAllTints: the two functions, and the law's walk. No condition. -/
import Derived.Test.YtcloemgaaaokgaaMirrored
namespace Go.Proofs.Ytcloemgaaaokgaa
open Go.RowKit

theorem choose_1_0 (w : World) : Calls Try.prog 70 #[.int .i64 1, .int .i64 0] w fun e w' => e = .returned (.int .i64 1) ∧ w = w' := by
  go_enter Try.func70, Try.ntmps70
  go_wp2
  refine wp_loop_rounds 1 ?_
  rw [rounds_succ]
  go_wp2
  go_ret
  exact ⟨rfl, rfl⟩
theorem choose_2_0 (w : World) : Calls Try.prog 70 #[.int .i64 2, .int .i64 0] w fun e w' => e = .returned (.int .i64 1) ∧ w = w' := by
  go_enter Try.func70, Try.ntmps70
  go_wp2
  refine wp_loop_rounds 1 ?_
  rw [rounds_succ]
  go_wp2
  go_ret
  exact ⟨rfl, rfl⟩
theorem choose_2_1 (w : World) : Calls Try.prog 70 #[.int .i64 2, .int .i64 1] w fun e w' => e = .returned (.int .i64 2) ∧ w = w' := by
  go_enter Try.func70, Try.ntmps70
  go_wp2
  refine wp_loop_rounds 2 ?_
  rw [rounds_succ]
  go_wp2
  rw [rounds_succ]
  go_wp2
  go_ret
  exact ⟨rfl, rfl⟩
theorem choose_3_0 (w : World) : Calls Try.prog 70 #[.int .i64 3, .int .i64 0] w fun e w' => e = .returned (.int .i64 1) ∧ w = w' := by
  go_enter Try.func70, Try.ntmps70
  go_wp2
  refine wp_loop_rounds 1 ?_
  rw [rounds_succ]
  go_wp2
  go_ret
  exact ⟨rfl, rfl⟩
theorem choose_3_1 (w : World) : Calls Try.prog 70 #[.int .i64 3, .int .i64 1] w fun e w' => e = .returned (.int .i64 3) ∧ w = w' := by
  go_enter Try.func70, Try.ntmps70
  go_wp2
  refine wp_loop_rounds 2 ?_
  rw [rounds_succ]
  go_wp2
  rw [rounds_succ]
  go_wp2
  go_ret
  exact ⟨rfl, rfl⟩
theorem choose_3_2 (w : World) : Calls Try.prog 70 #[.int .i64 3, .int .i64 2] w fun e w' => e = .returned (.int .i64 3) ∧ w = w' := by
  go_enter Try.func70, Try.ntmps70
  go_wp2
  refine wp_loop_rounds 3 ?_
  rw [rounds_succ]
  go_wp2
  rw [rounds_succ]
  go_wp2
  rw [rounds_succ]
  go_wp2
  go_ret
  exact ⟨rfl, rfl⟩
theorem choose_4_0 (w : World) : Calls Try.prog 70 #[.int .i64 4, .int .i64 0] w fun e w' => e = .returned (.int .i64 1) ∧ w = w' := by
  go_enter Try.func70, Try.ntmps70
  go_wp2
  refine wp_loop_rounds 1 ?_
  rw [rounds_succ]
  go_wp2
  go_ret
  exact ⟨rfl, rfl⟩
theorem choose_4_1 (w : World) : Calls Try.prog 70 #[.int .i64 4, .int .i64 1] w fun e w' => e = .returned (.int .i64 4) ∧ w = w' := by
  go_enter Try.func70, Try.ntmps70
  go_wp2
  refine wp_loop_rounds 2 ?_
  rw [rounds_succ]
  go_wp2
  rw [rounds_succ]
  go_wp2
  go_ret
  exact ⟨rfl, rfl⟩
theorem choose_4_2 (w : World) : Calls Try.prog 70 #[.int .i64 4, .int .i64 2] w fun e w' => e = .returned (.int .i64 6) ∧ w = w' := by
  go_enter Try.func70, Try.ntmps70
  go_wp2
  refine wp_loop_rounds 3 ?_
  rw [rounds_succ]
  go_wp2
  rw [rounds_succ]
  go_wp2
  rw [rounds_succ]
  go_wp2
  go_ret
  exact ⟨rfl, rfl⟩
theorem choose_4_3 (w : World) : Calls Try.prog 70 #[.int .i64 4, .int .i64 3] w fun e w' => e = .returned (.int .i64 4) ∧ w = w' := by
  go_enter Try.func70, Try.ntmps70
  go_wp2
  refine wp_loop_rounds 4 ?_
  rw [rounds_succ]
  go_wp2
  rw [rounds_succ]
  go_wp2
  rw [rounds_succ]
  go_wp2
  rw [rounds_succ]
  go_wp2
  go_ret
  exact ⟨rfl, rfl⟩
theorem choose_5_0 (w : World) : Calls Try.prog 70 #[.int .i64 5, .int .i64 0] w fun e w' => e = .returned (.int .i64 1) ∧ w = w' := by
  go_enter Try.func70, Try.ntmps70
  go_wp2
  refine wp_loop_rounds 1 ?_
  rw [rounds_succ]
  go_wp2
  go_ret
  exact ⟨rfl, rfl⟩
theorem choose_5_1 (w : World) : Calls Try.prog 70 #[.int .i64 5, .int .i64 1] w fun e w' => e = .returned (.int .i64 5) ∧ w = w' := by
  go_enter Try.func70, Try.ntmps70
  go_wp2
  refine wp_loop_rounds 2 ?_
  rw [rounds_succ]
  go_wp2
  rw [rounds_succ]
  go_wp2
  go_ret
  exact ⟨rfl, rfl⟩
theorem choose_5_2 (w : World) : Calls Try.prog 70 #[.int .i64 5, .int .i64 2] w fun e w' => e = .returned (.int .i64 10) ∧ w = w' := by
  go_enter Try.func70, Try.ntmps70
  go_wp2
  refine wp_loop_rounds 3 ?_
  rw [rounds_succ]
  go_wp2
  rw [rounds_succ]
  go_wp2
  rw [rounds_succ]
  go_wp2
  go_ret
  exact ⟨rfl, rfl⟩
theorem choose_5_3 (w : World) : Calls Try.prog 70 #[.int .i64 5, .int .i64 3] w fun e w' => e = .returned (.int .i64 10) ∧ w = w' := by
  go_enter Try.func70, Try.ntmps70
  go_wp2
  refine wp_loop_rounds 4 ?_
  rw [rounds_succ]
  go_wp2
  rw [rounds_succ]
  go_wp2
  rw [rounds_succ]
  go_wp2
  rw [rounds_succ]
  go_wp2
  go_ret
  exact ⟨rfl, rfl⟩
theorem choose_5_4 (w : World) : Calls Try.prog 70 #[.int .i64 5, .int .i64 4] w fun e w' => e = .returned (.int .i64 5) ∧ w = w' := by
  go_enter Try.func70, Try.ntmps70
  go_wp2
  refine wp_loop_rounds 5 ?_
  rw [rounds_succ]
  go_wp2
  rw [rounds_succ]
  go_wp2
  rw [rounds_succ]
  go_wp2
  rw [rounds_succ]
  go_wp2
  rw [rounds_succ]
  go_wp2
  go_ret
  exact ⟨rfl, rfl⟩

/-- how many proper fences in a line have each tint -/
def allV (n : Nat) : Nat → Int
  | 1 => 1 * lineV 1 n
  | 2 => 1 * lineV 2 n - 2 * lineV 1 n
  | 3 => 1 * lineV 3 n - 3 * lineV 2 n + 3 * lineV 1 n
  | 4 => 1 * lineV 4 n - 4 * lineV 3 n + 6 * lineV 2 n - 4 * lineV 1 n
  | 5 => 1 * lineV 5 n - 5 * lineV 4 n + 10 * lineV 3 n - 10 * lineV 2 n + 5 * lineV 1 n
  | _ => 0
def allOf (n q : Int) : Array Value := if (okSize n false && okTints q) = true then #[.int .i64 (allV n.toNat q.toNat), .bool true] else #[.int .i64 0, .bool false]

set_option maxHeartbeats 2000000 in
theorem specAll_1 (n : Nat) (w : World) (h1 : 1 ≤ n) (h20 : n ≤ 20) (H : Hid (okSize (n : Int) false = true)) :
    Calls Try.prog 26 #[.int .i64 n, .int .i64 1] w fun e w' => e = .returned (.tuple #[.int .i64 (allV n 1), .bool true]) ∧ Below w.heap.size w w' := by
  obtain ⟨l1, u1⟩ := lineV_bd' (q := 1) (n := n) h1 h20 (by omega)
  have C1 : Hid (∀ W, Calls Try.prog 61 #[.string (bareS n), .int .i64 1, .bool false, .int .i64 0] W fun e w' => e = .returned (.int .i64 (lineV 1 n)) ∧ Below W.heap.size W w') := Lib.hid fun W => coFrom_line n 1 W h1 h20 (by omega) (by omega)
  have T : Hid (okTints 1 = true) := Lib.hid rfl
  have hb := Below.refl w.heap.size w
  go_enter Try.func26, Try.ntmps26
  go_wp2_with (first
    | (go_at_call 60; refine (coAsked_any _ _ _ _).mono ?_; rintro e w' ⟨rfl, rfl⟩; rw [H.out, T.out])
    | (go_at_call 62; refine (coBare_any n _ h20).mono ?_; rintro e w' ⟨rfl, rfl⟩)
    | (go_at_call 70; first | ((with_reducible refine (choose_1_0 _).mono ?_); rintro e w' ⟨rfl, rfl⟩))
    | (go_at_call 61; first | ((with_reducible refine (C1.out _).mono ?_); rintro e w' ⟨rfl, hb1⟩; have hb := below_next hb hb1)))
  refine wp_loop_rounds 2 ?_
  rw [rounds_succ]
  go_wp2_with (first
    | (go_at_call 62; refine (coBare_any n _ h20).mono ?_; rintro e w' ⟨rfl, rfl⟩)
    | (go_at_call 70; first | ((with_reducible refine (choose_1_0 _).mono ?_); rintro e w' ⟨rfl, rfl⟩))
    | (go_at_call 61; first | ((with_reducible refine (C1.out _).mono ?_); rintro e w' ⟨rfl, hb1⟩; have hb := below_next hb hb1)))
  rw [rounds_succ]
  go_wp2
  go_ret2
  exact ⟨ret_ib (by simp only [allV]; omega), hb⟩

set_option maxHeartbeats 2000000 in
theorem specAll_2 (n : Nat) (w : World) (h1 : 1 ≤ n) (h20 : n ≤ 20) (H : Hid (okSize (n : Int) false = true)) :
    Calls Try.prog 26 #[.int .i64 n, .int .i64 2] w fun e w' => e = .returned (.tuple #[.int .i64 (allV n 2), .bool true]) ∧ Below w.heap.size w w' := by
  obtain ⟨l1, u1⟩ := lineV_bd' (q := 1) (n := n) h1 h20 (by omega)
  obtain ⟨l2, u2⟩ := lineV_bd' (q := 2) (n := n) h1 h20 (by omega)
  have C1 : Hid (∀ W, Calls Try.prog 61 #[.string (bareS n), .int .i64 1, .bool false, .int .i64 0] W fun e w' => e = .returned (.int .i64 (lineV 1 n)) ∧ Below W.heap.size W w') := Lib.hid fun W => coFrom_line n 1 W h1 h20 (by omega) (by omega)
  have C2 : Hid (∀ W, Calls Try.prog 61 #[.string (bareS n), .int .i64 2, .bool false, .int .i64 0] W fun e w' => e = .returned (.int .i64 (lineV 2 n)) ∧ Below W.heap.size W w') := Lib.hid fun W => coFrom_line n 2 W h1 h20 (by omega) (by omega)
  have T : Hid (okTints 2 = true) := Lib.hid rfl
  have hb := Below.refl w.heap.size w
  go_enter Try.func26, Try.ntmps26
  go_wp2_with (first
    | (go_at_call 60; refine (coAsked_any _ _ _ _).mono ?_; rintro e w' ⟨rfl, rfl⟩; rw [H.out, T.out])
    | (go_at_call 62; refine (coBare_any n _ h20).mono ?_; rintro e w' ⟨rfl, rfl⟩)
    | (go_at_call 70; first | ((with_reducible refine (choose_2_0 _).mono ?_); rintro e w' ⟨rfl, rfl⟩) | ((with_reducible refine (choose_2_1 _).mono ?_); rintro e w' ⟨rfl, rfl⟩))
    | (go_at_call 61; first | ((with_reducible refine (C1.out _).mono ?_); rintro e w' ⟨rfl, hb1⟩; have hb := below_next hb hb1) | ((with_reducible refine (C2.out _).mono ?_); rintro e w' ⟨rfl, hb1⟩; have hb := below_next hb hb1)))
  refine wp_loop_rounds 3 ?_
  rw [rounds_succ]
  go_wp2_with (first
    | (go_at_call 62; refine (coBare_any n _ h20).mono ?_; rintro e w' ⟨rfl, rfl⟩)
    | (go_at_call 70; first | ((with_reducible refine (choose_2_0 _).mono ?_); rintro e w' ⟨rfl, rfl⟩) | ((with_reducible refine (choose_2_1 _).mono ?_); rintro e w' ⟨rfl, rfl⟩))
    | (go_at_call 61; first | ((with_reducible refine (C1.out _).mono ?_); rintro e w' ⟨rfl, hb1⟩; have hb := below_next hb hb1) | ((with_reducible refine (C2.out _).mono ?_); rintro e w' ⟨rfl, hb1⟩; have hb := below_next hb hb1)))
  rw [rounds_succ]
  go_wp2_with (first
    | (go_at_call 62; refine (coBare_any n _ h20).mono ?_; rintro e w' ⟨rfl, rfl⟩)
    | (go_at_call 70; first | ((with_reducible refine (choose_2_0 _).mono ?_); rintro e w' ⟨rfl, rfl⟩) | ((with_reducible refine (choose_2_1 _).mono ?_); rintro e w' ⟨rfl, rfl⟩))
    | (go_at_call 61; first | ((with_reducible refine (C1.out _).mono ?_); rintro e w' ⟨rfl, hb1⟩; have hb := below_next hb hb1) | ((with_reducible refine (C2.out _).mono ?_); rintro e w' ⟨rfl, hb1⟩; have hb := below_next hb hb1)))
  rw [rounds_succ]
  go_wp2
  go_ret2
  exact ⟨ret_ib (by simp only [allV]; omega), hb⟩

set_option maxHeartbeats 2000000 in
theorem specAll_3 (n : Nat) (w : World) (h1 : 1 ≤ n) (h20 : n ≤ 20) (H : Hid (okSize (n : Int) false = true)) :
    Calls Try.prog 26 #[.int .i64 n, .int .i64 3] w fun e w' => e = .returned (.tuple #[.int .i64 (allV n 3), .bool true]) ∧ Below w.heap.size w w' := by
  obtain ⟨l1, u1⟩ := lineV_bd' (q := 1) (n := n) h1 h20 (by omega)
  obtain ⟨l2, u2⟩ := lineV_bd' (q := 2) (n := n) h1 h20 (by omega)
  obtain ⟨l3, u3⟩ := lineV_bd' (q := 3) (n := n) h1 h20 (by omega)
  have C1 : Hid (∀ W, Calls Try.prog 61 #[.string (bareS n), .int .i64 1, .bool false, .int .i64 0] W fun e w' => e = .returned (.int .i64 (lineV 1 n)) ∧ Below W.heap.size W w') := Lib.hid fun W => coFrom_line n 1 W h1 h20 (by omega) (by omega)
  have C2 : Hid (∀ W, Calls Try.prog 61 #[.string (bareS n), .int .i64 2, .bool false, .int .i64 0] W fun e w' => e = .returned (.int .i64 (lineV 2 n)) ∧ Below W.heap.size W w') := Lib.hid fun W => coFrom_line n 2 W h1 h20 (by omega) (by omega)
  have C3 : Hid (∀ W, Calls Try.prog 61 #[.string (bareS n), .int .i64 3, .bool false, .int .i64 0] W fun e w' => e = .returned (.int .i64 (lineV 3 n)) ∧ Below W.heap.size W w') := Lib.hid fun W => coFrom_line n 3 W h1 h20 (by omega) (by omega)
  have T : Hid (okTints 3 = true) := Lib.hid rfl
  have hb := Below.refl w.heap.size w
  go_enter Try.func26, Try.ntmps26
  go_wp2_with (first
    | (go_at_call 60; refine (coAsked_any _ _ _ _).mono ?_; rintro e w' ⟨rfl, rfl⟩; rw [H.out, T.out])
    | (go_at_call 62; refine (coBare_any n _ h20).mono ?_; rintro e w' ⟨rfl, rfl⟩)
    | (go_at_call 70; first | ((with_reducible refine (choose_3_0 _).mono ?_); rintro e w' ⟨rfl, rfl⟩) | ((with_reducible refine (choose_3_1 _).mono ?_); rintro e w' ⟨rfl, rfl⟩) | ((with_reducible refine (choose_3_2 _).mono ?_); rintro e w' ⟨rfl, rfl⟩))
    | (go_at_call 61; first | ((with_reducible refine (C1.out _).mono ?_); rintro e w' ⟨rfl, hb1⟩; have hb := below_next hb hb1) | ((with_reducible refine (C2.out _).mono ?_); rintro e w' ⟨rfl, hb1⟩; have hb := below_next hb hb1) | ((with_reducible refine (C3.out _).mono ?_); rintro e w' ⟨rfl, hb1⟩; have hb := below_next hb hb1)))
  refine wp_loop_rounds 4 ?_
  rw [rounds_succ]
  go_wp2_with (first
    | (go_at_call 62; refine (coBare_any n _ h20).mono ?_; rintro e w' ⟨rfl, rfl⟩)
    | (go_at_call 70; first | ((with_reducible refine (choose_3_0 _).mono ?_); rintro e w' ⟨rfl, rfl⟩) | ((with_reducible refine (choose_3_1 _).mono ?_); rintro e w' ⟨rfl, rfl⟩) | ((with_reducible refine (choose_3_2 _).mono ?_); rintro e w' ⟨rfl, rfl⟩))
    | (go_at_call 61; first | ((with_reducible refine (C1.out _).mono ?_); rintro e w' ⟨rfl, hb1⟩; have hb := below_next hb hb1) | ((with_reducible refine (C2.out _).mono ?_); rintro e w' ⟨rfl, hb1⟩; have hb := below_next hb hb1) | ((with_reducible refine (C3.out _).mono ?_); rintro e w' ⟨rfl, hb1⟩; have hb := below_next hb hb1)))
  rw [rounds_succ]
  go_wp2_with (first
    | (go_at_call 62; refine (coBare_any n _ h20).mono ?_; rintro e w' ⟨rfl, rfl⟩)
    | (go_at_call 70; first | ((with_reducible refine (choose_3_0 _).mono ?_); rintro e w' ⟨rfl, rfl⟩) | ((with_reducible refine (choose_3_1 _).mono ?_); rintro e w' ⟨rfl, rfl⟩) | ((with_reducible refine (choose_3_2 _).mono ?_); rintro e w' ⟨rfl, rfl⟩))
    | (go_at_call 61; first | ((with_reducible refine (C1.out _).mono ?_); rintro e w' ⟨rfl, hb1⟩; have hb := below_next hb hb1) | ((with_reducible refine (C2.out _).mono ?_); rintro e w' ⟨rfl, hb1⟩; have hb := below_next hb hb1) | ((with_reducible refine (C3.out _).mono ?_); rintro e w' ⟨rfl, hb1⟩; have hb := below_next hb hb1)))
  rw [rounds_succ]
  go_wp2_with (first
    | (go_at_call 62; refine (coBare_any n _ h20).mono ?_; rintro e w' ⟨rfl, rfl⟩)
    | (go_at_call 70; first | ((with_reducible refine (choose_3_0 _).mono ?_); rintro e w' ⟨rfl, rfl⟩) | ((with_reducible refine (choose_3_1 _).mono ?_); rintro e w' ⟨rfl, rfl⟩) | ((with_reducible refine (choose_3_2 _).mono ?_); rintro e w' ⟨rfl, rfl⟩))
    | (go_at_call 61; first | ((with_reducible refine (C1.out _).mono ?_); rintro e w' ⟨rfl, hb1⟩; have hb := below_next hb hb1) | ((with_reducible refine (C2.out _).mono ?_); rintro e w' ⟨rfl, hb1⟩; have hb := below_next hb hb1) | ((with_reducible refine (C3.out _).mono ?_); rintro e w' ⟨rfl, hb1⟩; have hb := below_next hb hb1)))
  rw [rounds_succ]
  go_wp2
  go_ret2
  exact ⟨ret_ib (by simp only [allV]; omega), hb⟩

set_option maxHeartbeats 2000000 in
theorem specAll_4 (n : Nat) (w : World) (h1 : 1 ≤ n) (h20 : n ≤ 20) (H : Hid (okSize (n : Int) false = true)) :
    Calls Try.prog 26 #[.int .i64 n, .int .i64 4] w fun e w' => e = .returned (.tuple #[.int .i64 (allV n 4), .bool true]) ∧ Below w.heap.size w w' := by
  obtain ⟨l1, u1⟩ := lineV_bd' (q := 1) (n := n) h1 h20 (by omega)
  obtain ⟨l2, u2⟩ := lineV_bd' (q := 2) (n := n) h1 h20 (by omega)
  obtain ⟨l3, u3⟩ := lineV_bd' (q := 3) (n := n) h1 h20 (by omega)
  obtain ⟨l4, u4⟩ := lineV_bd' (q := 4) (n := n) h1 h20 (by omega)
  have C1 : Hid (∀ W, Calls Try.prog 61 #[.string (bareS n), .int .i64 1, .bool false, .int .i64 0] W fun e w' => e = .returned (.int .i64 (lineV 1 n)) ∧ Below W.heap.size W w') := Lib.hid fun W => coFrom_line n 1 W h1 h20 (by omega) (by omega)
  have C2 : Hid (∀ W, Calls Try.prog 61 #[.string (bareS n), .int .i64 2, .bool false, .int .i64 0] W fun e w' => e = .returned (.int .i64 (lineV 2 n)) ∧ Below W.heap.size W w') := Lib.hid fun W => coFrom_line n 2 W h1 h20 (by omega) (by omega)
  have C3 : Hid (∀ W, Calls Try.prog 61 #[.string (bareS n), .int .i64 3, .bool false, .int .i64 0] W fun e w' => e = .returned (.int .i64 (lineV 3 n)) ∧ Below W.heap.size W w') := Lib.hid fun W => coFrom_line n 3 W h1 h20 (by omega) (by omega)
  have C4 : Hid (∀ W, Calls Try.prog 61 #[.string (bareS n), .int .i64 4, .bool false, .int .i64 0] W fun e w' => e = .returned (.int .i64 (lineV 4 n)) ∧ Below W.heap.size W w') := Lib.hid fun W => coFrom_line n 4 W h1 h20 (by omega) (by omega)
  have T : Hid (okTints 4 = true) := Lib.hid rfl
  have hb := Below.refl w.heap.size w
  go_enter Try.func26, Try.ntmps26
  go_wp2_with (first
    | (go_at_call 60; refine (coAsked_any _ _ _ _).mono ?_; rintro e w' ⟨rfl, rfl⟩; rw [H.out, T.out])
    | (go_at_call 62; refine (coBare_any n _ h20).mono ?_; rintro e w' ⟨rfl, rfl⟩)
    | (go_at_call 70; first | ((with_reducible refine (choose_4_0 _).mono ?_); rintro e w' ⟨rfl, rfl⟩) | ((with_reducible refine (choose_4_1 _).mono ?_); rintro e w' ⟨rfl, rfl⟩) | ((with_reducible refine (choose_4_2 _).mono ?_); rintro e w' ⟨rfl, rfl⟩) | ((with_reducible refine (choose_4_3 _).mono ?_); rintro e w' ⟨rfl, rfl⟩))
    | (go_at_call 61; first | ((with_reducible refine (C1.out _).mono ?_); rintro e w' ⟨rfl, hb1⟩; have hb := below_next hb hb1) | ((with_reducible refine (C2.out _).mono ?_); rintro e w' ⟨rfl, hb1⟩; have hb := below_next hb hb1) | ((with_reducible refine (C3.out _).mono ?_); rintro e w' ⟨rfl, hb1⟩; have hb := below_next hb hb1) | ((with_reducible refine (C4.out _).mono ?_); rintro e w' ⟨rfl, hb1⟩; have hb := below_next hb hb1)))
  refine wp_loop_rounds 5 ?_
  rw [rounds_succ]
  go_wp2_with (first
    | (go_at_call 62; refine (coBare_any n _ h20).mono ?_; rintro e w' ⟨rfl, rfl⟩)
    | (go_at_call 70; first | ((with_reducible refine (choose_4_0 _).mono ?_); rintro e w' ⟨rfl, rfl⟩) | ((with_reducible refine (choose_4_1 _).mono ?_); rintro e w' ⟨rfl, rfl⟩) | ((with_reducible refine (choose_4_2 _).mono ?_); rintro e w' ⟨rfl, rfl⟩) | ((with_reducible refine (choose_4_3 _).mono ?_); rintro e w' ⟨rfl, rfl⟩))
    | (go_at_call 61; first | ((with_reducible refine (C1.out _).mono ?_); rintro e w' ⟨rfl, hb1⟩; have hb := below_next hb hb1) | ((with_reducible refine (C2.out _).mono ?_); rintro e w' ⟨rfl, hb1⟩; have hb := below_next hb hb1) | ((with_reducible refine (C3.out _).mono ?_); rintro e w' ⟨rfl, hb1⟩; have hb := below_next hb hb1) | ((with_reducible refine (C4.out _).mono ?_); rintro e w' ⟨rfl, hb1⟩; have hb := below_next hb hb1)))
  rw [rounds_succ]
  go_wp2_with (first
    | (go_at_call 62; refine (coBare_any n _ h20).mono ?_; rintro e w' ⟨rfl, rfl⟩)
    | (go_at_call 70; first | ((with_reducible refine (choose_4_0 _).mono ?_); rintro e w' ⟨rfl, rfl⟩) | ((with_reducible refine (choose_4_1 _).mono ?_); rintro e w' ⟨rfl, rfl⟩) | ((with_reducible refine (choose_4_2 _).mono ?_); rintro e w' ⟨rfl, rfl⟩) | ((with_reducible refine (choose_4_3 _).mono ?_); rintro e w' ⟨rfl, rfl⟩))
    | (go_at_call 61; first | ((with_reducible refine (C1.out _).mono ?_); rintro e w' ⟨rfl, hb1⟩; have hb := below_next hb hb1) | ((with_reducible refine (C2.out _).mono ?_); rintro e w' ⟨rfl, hb1⟩; have hb := below_next hb hb1) | ((with_reducible refine (C3.out _).mono ?_); rintro e w' ⟨rfl, hb1⟩; have hb := below_next hb hb1) | ((with_reducible refine (C4.out _).mono ?_); rintro e w' ⟨rfl, hb1⟩; have hb := below_next hb hb1)))
  rw [rounds_succ]
  go_wp2_with (first
    | (go_at_call 62; refine (coBare_any n _ h20).mono ?_; rintro e w' ⟨rfl, rfl⟩)
    | (go_at_call 70; first | ((with_reducible refine (choose_4_0 _).mono ?_); rintro e w' ⟨rfl, rfl⟩) | ((with_reducible refine (choose_4_1 _).mono ?_); rintro e w' ⟨rfl, rfl⟩) | ((with_reducible refine (choose_4_2 _).mono ?_); rintro e w' ⟨rfl, rfl⟩) | ((with_reducible refine (choose_4_3 _).mono ?_); rintro e w' ⟨rfl, rfl⟩))
    | (go_at_call 61; first | ((with_reducible refine (C1.out _).mono ?_); rintro e w' ⟨rfl, hb1⟩; have hb := below_next hb hb1) | ((with_reducible refine (C2.out _).mono ?_); rintro e w' ⟨rfl, hb1⟩; have hb := below_next hb hb1) | ((with_reducible refine (C3.out _).mono ?_); rintro e w' ⟨rfl, hb1⟩; have hb := below_next hb hb1) | ((with_reducible refine (C4.out _).mono ?_); rintro e w' ⟨rfl, hb1⟩; have hb := below_next hb hb1)))
  rw [rounds_succ]
  go_wp2_with (first
    | (go_at_call 62; refine (coBare_any n _ h20).mono ?_; rintro e w' ⟨rfl, rfl⟩)
    | (go_at_call 70; first | ((with_reducible refine (choose_4_0 _).mono ?_); rintro e w' ⟨rfl, rfl⟩) | ((with_reducible refine (choose_4_1 _).mono ?_); rintro e w' ⟨rfl, rfl⟩) | ((with_reducible refine (choose_4_2 _).mono ?_); rintro e w' ⟨rfl, rfl⟩) | ((with_reducible refine (choose_4_3 _).mono ?_); rintro e w' ⟨rfl, rfl⟩))
    | (go_at_call 61; first | ((with_reducible refine (C1.out _).mono ?_); rintro e w' ⟨rfl, hb1⟩; have hb := below_next hb hb1) | ((with_reducible refine (C2.out _).mono ?_); rintro e w' ⟨rfl, hb1⟩; have hb := below_next hb hb1) | ((with_reducible refine (C3.out _).mono ?_); rintro e w' ⟨rfl, hb1⟩; have hb := below_next hb hb1) | ((with_reducible refine (C4.out _).mono ?_); rintro e w' ⟨rfl, hb1⟩; have hb := below_next hb hb1)))
  rw [rounds_succ]
  go_wp2
  go_ret2
  exact ⟨ret_ib (by simp only [allV]; omega), hb⟩

set_option maxHeartbeats 2000000 in
theorem specAll_5 (n : Nat) (w : World) (h1 : 1 ≤ n) (h20 : n ≤ 20) (H : Hid (okSize (n : Int) false = true)) :
    Calls Try.prog 26 #[.int .i64 n, .int .i64 5] w fun e w' => e = .returned (.tuple #[.int .i64 (allV n 5), .bool true]) ∧ Below w.heap.size w w' := by
  obtain ⟨l1, u1⟩ := lineV_bd' (q := 1) (n := n) h1 h20 (by omega)
  obtain ⟨l2, u2⟩ := lineV_bd' (q := 2) (n := n) h1 h20 (by omega)
  obtain ⟨l3, u3⟩ := lineV_bd' (q := 3) (n := n) h1 h20 (by omega)
  obtain ⟨l4, u4⟩ := lineV_bd' (q := 4) (n := n) h1 h20 (by omega)
  obtain ⟨l5, u5⟩ := lineV_bd' (q := 5) (n := n) h1 h20 (by omega)
  have C1 : Hid (∀ W, Calls Try.prog 61 #[.string (bareS n), .int .i64 1, .bool false, .int .i64 0] W fun e w' => e = .returned (.int .i64 (lineV 1 n)) ∧ Below W.heap.size W w') := Lib.hid fun W => coFrom_line n 1 W h1 h20 (by omega) (by omega)
  have C2 : Hid (∀ W, Calls Try.prog 61 #[.string (bareS n), .int .i64 2, .bool false, .int .i64 0] W fun e w' => e = .returned (.int .i64 (lineV 2 n)) ∧ Below W.heap.size W w') := Lib.hid fun W => coFrom_line n 2 W h1 h20 (by omega) (by omega)
  have C3 : Hid (∀ W, Calls Try.prog 61 #[.string (bareS n), .int .i64 3, .bool false, .int .i64 0] W fun e w' => e = .returned (.int .i64 (lineV 3 n)) ∧ Below W.heap.size W w') := Lib.hid fun W => coFrom_line n 3 W h1 h20 (by omega) (by omega)
  have C4 : Hid (∀ W, Calls Try.prog 61 #[.string (bareS n), .int .i64 4, .bool false, .int .i64 0] W fun e w' => e = .returned (.int .i64 (lineV 4 n)) ∧ Below W.heap.size W w') := Lib.hid fun W => coFrom_line n 4 W h1 h20 (by omega) (by omega)
  have C5 : Hid (∀ W, Calls Try.prog 61 #[.string (bareS n), .int .i64 5, .bool false, .int .i64 0] W fun e w' => e = .returned (.int .i64 (lineV 5 n)) ∧ Below W.heap.size W w') := Lib.hid fun W => coFrom_line n 5 W h1 h20 (by omega) (by omega)
  have T : Hid (okTints 5 = true) := Lib.hid rfl
  have hb := Below.refl w.heap.size w
  go_enter Try.func26, Try.ntmps26
  go_wp2_with (first
    | (go_at_call 60; refine (coAsked_any _ _ _ _).mono ?_; rintro e w' ⟨rfl, rfl⟩; rw [H.out, T.out])
    | (go_at_call 62; refine (coBare_any n _ h20).mono ?_; rintro e w' ⟨rfl, rfl⟩)
    | (go_at_call 70; first | ((with_reducible refine (choose_5_0 _).mono ?_); rintro e w' ⟨rfl, rfl⟩) | ((with_reducible refine (choose_5_1 _).mono ?_); rintro e w' ⟨rfl, rfl⟩) | ((with_reducible refine (choose_5_2 _).mono ?_); rintro e w' ⟨rfl, rfl⟩) | ((with_reducible refine (choose_5_3 _).mono ?_); rintro e w' ⟨rfl, rfl⟩) | ((with_reducible refine (choose_5_4 _).mono ?_); rintro e w' ⟨rfl, rfl⟩))
    | (go_at_call 61; first | ((with_reducible refine (C1.out _).mono ?_); rintro e w' ⟨rfl, hb1⟩; have hb := below_next hb hb1) | ((with_reducible refine (C2.out _).mono ?_); rintro e w' ⟨rfl, hb1⟩; have hb := below_next hb hb1) | ((with_reducible refine (C3.out _).mono ?_); rintro e w' ⟨rfl, hb1⟩; have hb := below_next hb hb1) | ((with_reducible refine (C4.out _).mono ?_); rintro e w' ⟨rfl, hb1⟩; have hb := below_next hb hb1) | ((with_reducible refine (C5.out _).mono ?_); rintro e w' ⟨rfl, hb1⟩; have hb := below_next hb hb1)))
  refine wp_loop_rounds 6 ?_
  rw [rounds_succ]
  go_wp2_with (first
    | (go_at_call 62; refine (coBare_any n _ h20).mono ?_; rintro e w' ⟨rfl, rfl⟩)
    | (go_at_call 70; first | ((with_reducible refine (choose_5_0 _).mono ?_); rintro e w' ⟨rfl, rfl⟩) | ((with_reducible refine (choose_5_1 _).mono ?_); rintro e w' ⟨rfl, rfl⟩) | ((with_reducible refine (choose_5_2 _).mono ?_); rintro e w' ⟨rfl, rfl⟩) | ((with_reducible refine (choose_5_3 _).mono ?_); rintro e w' ⟨rfl, rfl⟩) | ((with_reducible refine (choose_5_4 _).mono ?_); rintro e w' ⟨rfl, rfl⟩))
    | (go_at_call 61; first | ((with_reducible refine (C1.out _).mono ?_); rintro e w' ⟨rfl, hb1⟩; have hb := below_next hb hb1) | ((with_reducible refine (C2.out _).mono ?_); rintro e w' ⟨rfl, hb1⟩; have hb := below_next hb hb1) | ((with_reducible refine (C3.out _).mono ?_); rintro e w' ⟨rfl, hb1⟩; have hb := below_next hb hb1) | ((with_reducible refine (C4.out _).mono ?_); rintro e w' ⟨rfl, hb1⟩; have hb := below_next hb hb1) | ((with_reducible refine (C5.out _).mono ?_); rintro e w' ⟨rfl, hb1⟩; have hb := below_next hb hb1)))
  rw [rounds_succ]
  go_wp2_with (first
    | (go_at_call 62; refine (coBare_any n _ h20).mono ?_; rintro e w' ⟨rfl, rfl⟩)
    | (go_at_call 70; first | ((with_reducible refine (choose_5_0 _).mono ?_); rintro e w' ⟨rfl, rfl⟩) | ((with_reducible refine (choose_5_1 _).mono ?_); rintro e w' ⟨rfl, rfl⟩) | ((with_reducible refine (choose_5_2 _).mono ?_); rintro e w' ⟨rfl, rfl⟩) | ((with_reducible refine (choose_5_3 _).mono ?_); rintro e w' ⟨rfl, rfl⟩) | ((with_reducible refine (choose_5_4 _).mono ?_); rintro e w' ⟨rfl, rfl⟩))
    | (go_at_call 61; first | ((with_reducible refine (C1.out _).mono ?_); rintro e w' ⟨rfl, hb1⟩; have hb := below_next hb hb1) | ((with_reducible refine (C2.out _).mono ?_); rintro e w' ⟨rfl, hb1⟩; have hb := below_next hb hb1) | ((with_reducible refine (C3.out _).mono ?_); rintro e w' ⟨rfl, hb1⟩; have hb := below_next hb hb1) | ((with_reducible refine (C4.out _).mono ?_); rintro e w' ⟨rfl, hb1⟩; have hb := below_next hb hb1) | ((with_reducible refine (C5.out _).mono ?_); rintro e w' ⟨rfl, hb1⟩; have hb := below_next hb hb1)))
  rw [rounds_succ]
  go_wp2_with (first
    | (go_at_call 62; refine (coBare_any n _ h20).mono ?_; rintro e w' ⟨rfl, rfl⟩)
    | (go_at_call 70; first | ((with_reducible refine (choose_5_0 _).mono ?_); rintro e w' ⟨rfl, rfl⟩) | ((with_reducible refine (choose_5_1 _).mono ?_); rintro e w' ⟨rfl, rfl⟩) | ((with_reducible refine (choose_5_2 _).mono ?_); rintro e w' ⟨rfl, rfl⟩) | ((with_reducible refine (choose_5_3 _).mono ?_); rintro e w' ⟨rfl, rfl⟩) | ((with_reducible refine (choose_5_4 _).mono ?_); rintro e w' ⟨rfl, rfl⟩))
    | (go_at_call 61; first | ((with_reducible refine (C1.out _).mono ?_); rintro e w' ⟨rfl, hb1⟩; have hb := below_next hb hb1) | ((with_reducible refine (C2.out _).mono ?_); rintro e w' ⟨rfl, hb1⟩; have hb := below_next hb hb1) | ((with_reducible refine (C3.out _).mono ?_); rintro e w' ⟨rfl, hb1⟩; have hb := below_next hb hb1) | ((with_reducible refine (C4.out _).mono ?_); rintro e w' ⟨rfl, hb1⟩; have hb := below_next hb hb1) | ((with_reducible refine (C5.out _).mono ?_); rintro e w' ⟨rfl, hb1⟩; have hb := below_next hb hb1)))
  rw [rounds_succ]
  go_wp2_with (first
    | (go_at_call 62; refine (coBare_any n _ h20).mono ?_; rintro e w' ⟨rfl, rfl⟩)
    | (go_at_call 70; first | ((with_reducible refine (choose_5_0 _).mono ?_); rintro e w' ⟨rfl, rfl⟩) | ((with_reducible refine (choose_5_1 _).mono ?_); rintro e w' ⟨rfl, rfl⟩) | ((with_reducible refine (choose_5_2 _).mono ?_); rintro e w' ⟨rfl, rfl⟩) | ((with_reducible refine (choose_5_3 _).mono ?_); rintro e w' ⟨rfl, rfl⟩) | ((with_reducible refine (choose_5_4 _).mono ?_); rintro e w' ⟨rfl, rfl⟩))
    | (go_at_call 61; first | ((with_reducible refine (C1.out _).mono ?_); rintro e w' ⟨rfl, hb1⟩; have hb := below_next hb hb1) | ((with_reducible refine (C2.out _).mono ?_); rintro e w' ⟨rfl, hb1⟩; have hb := below_next hb hb1) | ((with_reducible refine (C3.out _).mono ?_); rintro e w' ⟨rfl, hb1⟩; have hb := below_next hb hb1) | ((with_reducible refine (C4.out _).mono ?_); rintro e w' ⟨rfl, hb1⟩; have hb := below_next hb hb1) | ((with_reducible refine (C5.out _).mono ?_); rintro e w' ⟨rfl, hb1⟩; have hb := below_next hb hb1)))
  rw [rounds_succ]
  go_wp2_with (first
    | (go_at_call 62; refine (coBare_any n _ h20).mono ?_; rintro e w' ⟨rfl, rfl⟩)
    | (go_at_call 70; first | ((with_reducible refine (choose_5_0 _).mono ?_); rintro e w' ⟨rfl, rfl⟩) | ((with_reducible refine (choose_5_1 _).mono ?_); rintro e w' ⟨rfl, rfl⟩) | ((with_reducible refine (choose_5_2 _).mono ?_); rintro e w' ⟨rfl, rfl⟩) | ((with_reducible refine (choose_5_3 _).mono ?_); rintro e w' ⟨rfl, rfl⟩) | ((with_reducible refine (choose_5_4 _).mono ?_); rintro e w' ⟨rfl, rfl⟩))
    | (go_at_call 61; first | ((with_reducible refine (C1.out _).mono ?_); rintro e w' ⟨rfl, hb1⟩; have hb := below_next hb hb1) | ((with_reducible refine (C2.out _).mono ?_); rintro e w' ⟨rfl, hb1⟩; have hb := below_next hb hb1) | ((with_reducible refine (C3.out _).mono ?_); rintro e w' ⟨rfl, hb1⟩; have hb := below_next hb hb1) | ((with_reducible refine (C4.out _).mono ?_); rintro e w' ⟨rfl, hb1⟩; have hb := below_next hb hb1) | ((with_reducible refine (C5.out _).mono ?_); rintro e w' ⟨rfl, hb1⟩; have hb := below_next hb hb1)))
  rw [rounds_succ]
  go_wp2
  go_ret2
  exact ⟨ret_ib (by simp only [allV]; omega), hb⟩

set_option maxHeartbeats 2000000 in
theorem implAll_1 (n : Nat) (w : World) (h1 : 1 ≤ n) (h20 : n ≤ 20) (H : Hid (okSize (n : Int) false = true)) :
    Calls Try.prog 27 #[.int .i64 n, .int .i64 1] w fun e w' => e = .returned (.tuple #[.int .i64 (allV n 1), .bool true]) ∧ Below w.heap.size w w' := by
  obtain ⟨l1, u1⟩ := lineV_bd' (q := 1) (n := n) h1 h20 (by omega)
  have C1 : Hid (∀ W, Calls Try.prog 66 #[.int .i64 n, .int .i64 1] W fun e w' => e = .returned (.int .i64 (lineV 1 n)) ∧ W = w') := Lib.hid fun W => properInLine_any n 1 W h1 h20 (by omega) (by omega)
  have T : Hid (okTints 1 = true) := Lib.hid rfl
  have hb := Below.refl w.heap.size w
  go_enter Try.func27, Try.ntmps27
  go_wp2_with (first
    | (go_at_call 63; refine (areBoards_any _ _ _).mono ?_; rintro e w' ⟨rfl, rfl⟩; rw [H.out])
    | (go_at_call 64; refine (areTints_any _ _).mono ?_; rintro e w' ⟨rfl, rfl⟩; rw [T.out])
    | (go_at_call 66; first | ((with_reducible refine (C1.out _).mono ?_); rintro e w' ⟨rfl, rfl⟩)))
  refine wp_loop_rounds 2 ?_
  rw [rounds_succ]
  go_wp2_with (first
    | (go_at_call 64; refine (areTints_any _ _).mono ?_; rintro e w' ⟨rfl, rfl⟩; rw [T.out])
    | (go_at_call 66; first | ((with_reducible refine (C1.out _).mono ?_); rintro e w' ⟨rfl, rfl⟩)))
  rw [rounds_succ]
  go_wp2
  go_ret2
  exact ⟨ret_ib (by simp only [allV]; omega), hb⟩

set_option maxHeartbeats 2000000 in
theorem implAll_2 (n : Nat) (w : World) (h1 : 1 ≤ n) (h20 : n ≤ 20) (H : Hid (okSize (n : Int) false = true)) :
    Calls Try.prog 27 #[.int .i64 n, .int .i64 2] w fun e w' => e = .returned (.tuple #[.int .i64 (allV n 2), .bool true]) ∧ Below w.heap.size w w' := by
  obtain ⟨l1, u1⟩ := lineV_bd' (q := 1) (n := n) h1 h20 (by omega)
  obtain ⟨l2, u2⟩ := lineV_bd' (q := 2) (n := n) h1 h20 (by omega)
  have C1 : Hid (∀ W, Calls Try.prog 66 #[.int .i64 n, .int .i64 1] W fun e w' => e = .returned (.int .i64 (lineV 1 n)) ∧ W = w') := Lib.hid fun W => properInLine_any n 1 W h1 h20 (by omega) (by omega)
  have C2 : Hid (∀ W, Calls Try.prog 66 #[.int .i64 n, .int .i64 2] W fun e w' => e = .returned (.int .i64 (lineV 2 n)) ∧ W = w') := Lib.hid fun W => properInLine_any n 2 W h1 h20 (by omega) (by omega)
  have T : Hid (okTints 2 = true) := Lib.hid rfl
  have hb := Below.refl w.heap.size w
  go_enter Try.func27, Try.ntmps27
  go_wp2_with (first
    | (go_at_call 63; refine (areBoards_any _ _ _).mono ?_; rintro e w' ⟨rfl, rfl⟩; rw [H.out])
    | (go_at_call 64; refine (areTints_any _ _).mono ?_; rintro e w' ⟨rfl, rfl⟩; rw [T.out])
    | (go_at_call 66; first | ((with_reducible refine (C1.out _).mono ?_); rintro e w' ⟨rfl, rfl⟩) | ((with_reducible refine (C2.out _).mono ?_); rintro e w' ⟨rfl, rfl⟩)))
  refine wp_loop_rounds 3 ?_
  rw [rounds_succ]
  go_wp2_with (first
    | (go_at_call 64; refine (areTints_any _ _).mono ?_; rintro e w' ⟨rfl, rfl⟩; rw [T.out])
    | (go_at_call 66; first | ((with_reducible refine (C1.out _).mono ?_); rintro e w' ⟨rfl, rfl⟩) | ((with_reducible refine (C2.out _).mono ?_); rintro e w' ⟨rfl, rfl⟩)))
  rw [rounds_succ]
  go_wp2_with (first
    | (go_at_call 64; refine (areTints_any _ _).mono ?_; rintro e w' ⟨rfl, rfl⟩; rw [T.out])
    | (go_at_call 66; first | ((with_reducible refine (C1.out _).mono ?_); rintro e w' ⟨rfl, rfl⟩) | ((with_reducible refine (C2.out _).mono ?_); rintro e w' ⟨rfl, rfl⟩)))
  rw [rounds_succ]
  go_wp2
  go_ret2
  exact ⟨ret_ib (by simp only [allV]; omega), hb⟩

set_option maxHeartbeats 2000000 in
theorem implAll_3 (n : Nat) (w : World) (h1 : 1 ≤ n) (h20 : n ≤ 20) (H : Hid (okSize (n : Int) false = true)) :
    Calls Try.prog 27 #[.int .i64 n, .int .i64 3] w fun e w' => e = .returned (.tuple #[.int .i64 (allV n 3), .bool true]) ∧ Below w.heap.size w w' := by
  obtain ⟨l1, u1⟩ := lineV_bd' (q := 1) (n := n) h1 h20 (by omega)
  obtain ⟨l2, u2⟩ := lineV_bd' (q := 2) (n := n) h1 h20 (by omega)
  obtain ⟨l3, u3⟩ := lineV_bd' (q := 3) (n := n) h1 h20 (by omega)
  have C1 : Hid (∀ W, Calls Try.prog 66 #[.int .i64 n, .int .i64 1] W fun e w' => e = .returned (.int .i64 (lineV 1 n)) ∧ W = w') := Lib.hid fun W => properInLine_any n 1 W h1 h20 (by omega) (by omega)
  have C2 : Hid (∀ W, Calls Try.prog 66 #[.int .i64 n, .int .i64 2] W fun e w' => e = .returned (.int .i64 (lineV 2 n)) ∧ W = w') := Lib.hid fun W => properInLine_any n 2 W h1 h20 (by omega) (by omega)
  have C3 : Hid (∀ W, Calls Try.prog 66 #[.int .i64 n, .int .i64 3] W fun e w' => e = .returned (.int .i64 (lineV 3 n)) ∧ W = w') := Lib.hid fun W => properInLine_any n 3 W h1 h20 (by omega) (by omega)
  have T : Hid (okTints 3 = true) := Lib.hid rfl
  have hb := Below.refl w.heap.size w
  go_enter Try.func27, Try.ntmps27
  go_wp2_with (first
    | (go_at_call 63; refine (areBoards_any _ _ _).mono ?_; rintro e w' ⟨rfl, rfl⟩; rw [H.out])
    | (go_at_call 64; refine (areTints_any _ _).mono ?_; rintro e w' ⟨rfl, rfl⟩; rw [T.out])
    | (go_at_call 66; first | ((with_reducible refine (C1.out _).mono ?_); rintro e w' ⟨rfl, rfl⟩) | ((with_reducible refine (C2.out _).mono ?_); rintro e w' ⟨rfl, rfl⟩) | ((with_reducible refine (C3.out _).mono ?_); rintro e w' ⟨rfl, rfl⟩)))
  refine wp_loop_rounds 4 ?_
  rw [rounds_succ]
  go_wp2_with (first
    | (go_at_call 64; refine (areTints_any _ _).mono ?_; rintro e w' ⟨rfl, rfl⟩; rw [T.out])
    | (go_at_call 66; first | ((with_reducible refine (C1.out _).mono ?_); rintro e w' ⟨rfl, rfl⟩) | ((with_reducible refine (C2.out _).mono ?_); rintro e w' ⟨rfl, rfl⟩) | ((with_reducible refine (C3.out _).mono ?_); rintro e w' ⟨rfl, rfl⟩)))
  rw [rounds_succ]
  go_wp2_with (first
    | (go_at_call 64; refine (areTints_any _ _).mono ?_; rintro e w' ⟨rfl, rfl⟩; rw [T.out])
    | (go_at_call 66; first | ((with_reducible refine (C1.out _).mono ?_); rintro e w' ⟨rfl, rfl⟩) | ((with_reducible refine (C2.out _).mono ?_); rintro e w' ⟨rfl, rfl⟩) | ((with_reducible refine (C3.out _).mono ?_); rintro e w' ⟨rfl, rfl⟩)))
  rw [rounds_succ]
  go_wp2_with (first
    | (go_at_call 64; refine (areTints_any _ _).mono ?_; rintro e w' ⟨rfl, rfl⟩; rw [T.out])
    | (go_at_call 66; first | ((with_reducible refine (C1.out _).mono ?_); rintro e w' ⟨rfl, rfl⟩) | ((with_reducible refine (C2.out _).mono ?_); rintro e w' ⟨rfl, rfl⟩) | ((with_reducible refine (C3.out _).mono ?_); rintro e w' ⟨rfl, rfl⟩)))
  rw [rounds_succ]
  go_wp2
  go_ret2
  exact ⟨ret_ib (by simp only [allV]; omega), hb⟩

set_option maxHeartbeats 2000000 in
theorem implAll_4 (n : Nat) (w : World) (h1 : 1 ≤ n) (h20 : n ≤ 20) (H : Hid (okSize (n : Int) false = true)) :
    Calls Try.prog 27 #[.int .i64 n, .int .i64 4] w fun e w' => e = .returned (.tuple #[.int .i64 (allV n 4), .bool true]) ∧ Below w.heap.size w w' := by
  obtain ⟨l1, u1⟩ := lineV_bd' (q := 1) (n := n) h1 h20 (by omega)
  obtain ⟨l2, u2⟩ := lineV_bd' (q := 2) (n := n) h1 h20 (by omega)
  obtain ⟨l3, u3⟩ := lineV_bd' (q := 3) (n := n) h1 h20 (by omega)
  obtain ⟨l4, u4⟩ := lineV_bd' (q := 4) (n := n) h1 h20 (by omega)
  have C1 : Hid (∀ W, Calls Try.prog 66 #[.int .i64 n, .int .i64 1] W fun e w' => e = .returned (.int .i64 (lineV 1 n)) ∧ W = w') := Lib.hid fun W => properInLine_any n 1 W h1 h20 (by omega) (by omega)
  have C2 : Hid (∀ W, Calls Try.prog 66 #[.int .i64 n, .int .i64 2] W fun e w' => e = .returned (.int .i64 (lineV 2 n)) ∧ W = w') := Lib.hid fun W => properInLine_any n 2 W h1 h20 (by omega) (by omega)
  have C3 : Hid (∀ W, Calls Try.prog 66 #[.int .i64 n, .int .i64 3] W fun e w' => e = .returned (.int .i64 (lineV 3 n)) ∧ W = w') := Lib.hid fun W => properInLine_any n 3 W h1 h20 (by omega) (by omega)
  have C4 : Hid (∀ W, Calls Try.prog 66 #[.int .i64 n, .int .i64 4] W fun e w' => e = .returned (.int .i64 (lineV 4 n)) ∧ W = w') := Lib.hid fun W => properInLine_any n 4 W h1 h20 (by omega) (by omega)
  have T : Hid (okTints 4 = true) := Lib.hid rfl
  have hb := Below.refl w.heap.size w
  go_enter Try.func27, Try.ntmps27
  go_wp2_with (first
    | (go_at_call 63; refine (areBoards_any _ _ _).mono ?_; rintro e w' ⟨rfl, rfl⟩; rw [H.out])
    | (go_at_call 64; refine (areTints_any _ _).mono ?_; rintro e w' ⟨rfl, rfl⟩; rw [T.out])
    | (go_at_call 66; first | ((with_reducible refine (C1.out _).mono ?_); rintro e w' ⟨rfl, rfl⟩) | ((with_reducible refine (C2.out _).mono ?_); rintro e w' ⟨rfl, rfl⟩) | ((with_reducible refine (C3.out _).mono ?_); rintro e w' ⟨rfl, rfl⟩) | ((with_reducible refine (C4.out _).mono ?_); rintro e w' ⟨rfl, rfl⟩)))
  refine wp_loop_rounds 5 ?_
  rw [rounds_succ]
  go_wp2_with (first
    | (go_at_call 64; refine (areTints_any _ _).mono ?_; rintro e w' ⟨rfl, rfl⟩; rw [T.out])
    | (go_at_call 66; first | ((with_reducible refine (C1.out _).mono ?_); rintro e w' ⟨rfl, rfl⟩) | ((with_reducible refine (C2.out _).mono ?_); rintro e w' ⟨rfl, rfl⟩) | ((with_reducible refine (C3.out _).mono ?_); rintro e w' ⟨rfl, rfl⟩) | ((with_reducible refine (C4.out _).mono ?_); rintro e w' ⟨rfl, rfl⟩)))
  rw [rounds_succ]
  go_wp2_with (first
    | (go_at_call 64; refine (areTints_any _ _).mono ?_; rintro e w' ⟨rfl, rfl⟩; rw [T.out])
    | (go_at_call 66; first | ((with_reducible refine (C1.out _).mono ?_); rintro e w' ⟨rfl, rfl⟩) | ((with_reducible refine (C2.out _).mono ?_); rintro e w' ⟨rfl, rfl⟩) | ((with_reducible refine (C3.out _).mono ?_); rintro e w' ⟨rfl, rfl⟩) | ((with_reducible refine (C4.out _).mono ?_); rintro e w' ⟨rfl, rfl⟩)))
  rw [rounds_succ]
  go_wp2_with (first
    | (go_at_call 64; refine (areTints_any _ _).mono ?_; rintro e w' ⟨rfl, rfl⟩; rw [T.out])
    | (go_at_call 66; first | ((with_reducible refine (C1.out _).mono ?_); rintro e w' ⟨rfl, rfl⟩) | ((with_reducible refine (C2.out _).mono ?_); rintro e w' ⟨rfl, rfl⟩) | ((with_reducible refine (C3.out _).mono ?_); rintro e w' ⟨rfl, rfl⟩) | ((with_reducible refine (C4.out _).mono ?_); rintro e w' ⟨rfl, rfl⟩)))
  rw [rounds_succ]
  go_wp2_with (first
    | (go_at_call 64; refine (areTints_any _ _).mono ?_; rintro e w' ⟨rfl, rfl⟩; rw [T.out])
    | (go_at_call 66; first | ((with_reducible refine (C1.out _).mono ?_); rintro e w' ⟨rfl, rfl⟩) | ((with_reducible refine (C2.out _).mono ?_); rintro e w' ⟨rfl, rfl⟩) | ((with_reducible refine (C3.out _).mono ?_); rintro e w' ⟨rfl, rfl⟩) | ((with_reducible refine (C4.out _).mono ?_); rintro e w' ⟨rfl, rfl⟩)))
  rw [rounds_succ]
  go_wp2
  go_ret2
  exact ⟨ret_ib (by simp only [allV]; omega), hb⟩

set_option maxHeartbeats 2000000 in
theorem implAll_5 (n : Nat) (w : World) (h1 : 1 ≤ n) (h20 : n ≤ 20) (H : Hid (okSize (n : Int) false = true)) :
    Calls Try.prog 27 #[.int .i64 n, .int .i64 5] w fun e w' => e = .returned (.tuple #[.int .i64 (allV n 5), .bool true]) ∧ Below w.heap.size w w' := by
  obtain ⟨l1, u1⟩ := lineV_bd' (q := 1) (n := n) h1 h20 (by omega)
  obtain ⟨l2, u2⟩ := lineV_bd' (q := 2) (n := n) h1 h20 (by omega)
  obtain ⟨l3, u3⟩ := lineV_bd' (q := 3) (n := n) h1 h20 (by omega)
  obtain ⟨l4, u4⟩ := lineV_bd' (q := 4) (n := n) h1 h20 (by omega)
  obtain ⟨l5, u5⟩ := lineV_bd' (q := 5) (n := n) h1 h20 (by omega)
  have C1 : Hid (∀ W, Calls Try.prog 66 #[.int .i64 n, .int .i64 1] W fun e w' => e = .returned (.int .i64 (lineV 1 n)) ∧ W = w') := Lib.hid fun W => properInLine_any n 1 W h1 h20 (by omega) (by omega)
  have C2 : Hid (∀ W, Calls Try.prog 66 #[.int .i64 n, .int .i64 2] W fun e w' => e = .returned (.int .i64 (lineV 2 n)) ∧ W = w') := Lib.hid fun W => properInLine_any n 2 W h1 h20 (by omega) (by omega)
  have C3 : Hid (∀ W, Calls Try.prog 66 #[.int .i64 n, .int .i64 3] W fun e w' => e = .returned (.int .i64 (lineV 3 n)) ∧ W = w') := Lib.hid fun W => properInLine_any n 3 W h1 h20 (by omega) (by omega)
  have C4 : Hid (∀ W, Calls Try.prog 66 #[.int .i64 n, .int .i64 4] W fun e w' => e = .returned (.int .i64 (lineV 4 n)) ∧ W = w') := Lib.hid fun W => properInLine_any n 4 W h1 h20 (by omega) (by omega)
  have C5 : Hid (∀ W, Calls Try.prog 66 #[.int .i64 n, .int .i64 5] W fun e w' => e = .returned (.int .i64 (lineV 5 n)) ∧ W = w') := Lib.hid fun W => properInLine_any n 5 W h1 h20 (by omega) (by omega)
  have T : Hid (okTints 5 = true) := Lib.hid rfl
  have hb := Below.refl w.heap.size w
  go_enter Try.func27, Try.ntmps27
  go_wp2_with (first
    | (go_at_call 63; refine (areBoards_any _ _ _).mono ?_; rintro e w' ⟨rfl, rfl⟩; rw [H.out])
    | (go_at_call 64; refine (areTints_any _ _).mono ?_; rintro e w' ⟨rfl, rfl⟩; rw [T.out])
    | (go_at_call 66; first | ((with_reducible refine (C1.out _).mono ?_); rintro e w' ⟨rfl, rfl⟩) | ((with_reducible refine (C2.out _).mono ?_); rintro e w' ⟨rfl, rfl⟩) | ((with_reducible refine (C3.out _).mono ?_); rintro e w' ⟨rfl, rfl⟩) | ((with_reducible refine (C4.out _).mono ?_); rintro e w' ⟨rfl, rfl⟩) | ((with_reducible refine (C5.out _).mono ?_); rintro e w' ⟨rfl, rfl⟩)))
  refine wp_loop_rounds 6 ?_
  rw [rounds_succ]
  go_wp2_with (first
    | (go_at_call 64; refine (areTints_any _ _).mono ?_; rintro e w' ⟨rfl, rfl⟩; rw [T.out])
    | (go_at_call 66; first | ((with_reducible refine (C1.out _).mono ?_); rintro e w' ⟨rfl, rfl⟩) | ((with_reducible refine (C2.out _).mono ?_); rintro e w' ⟨rfl, rfl⟩) | ((with_reducible refine (C3.out _).mono ?_); rintro e w' ⟨rfl, rfl⟩) | ((with_reducible refine (C4.out _).mono ?_); rintro e w' ⟨rfl, rfl⟩) | ((with_reducible refine (C5.out _).mono ?_); rintro e w' ⟨rfl, rfl⟩)))
  rw [rounds_succ]
  go_wp2_with (first
    | (go_at_call 64; refine (areTints_any _ _).mono ?_; rintro e w' ⟨rfl, rfl⟩; rw [T.out])
    | (go_at_call 66; first | ((with_reducible refine (C1.out _).mono ?_); rintro e w' ⟨rfl, rfl⟩) | ((with_reducible refine (C2.out _).mono ?_); rintro e w' ⟨rfl, rfl⟩) | ((with_reducible refine (C3.out _).mono ?_); rintro e w' ⟨rfl, rfl⟩) | ((with_reducible refine (C4.out _).mono ?_); rintro e w' ⟨rfl, rfl⟩) | ((with_reducible refine (C5.out _).mono ?_); rintro e w' ⟨rfl, rfl⟩)))
  rw [rounds_succ]
  go_wp2_with (first
    | (go_at_call 64; refine (areTints_any _ _).mono ?_; rintro e w' ⟨rfl, rfl⟩; rw [T.out])
    | (go_at_call 66; first | ((with_reducible refine (C1.out _).mono ?_); rintro e w' ⟨rfl, rfl⟩) | ((with_reducible refine (C2.out _).mono ?_); rintro e w' ⟨rfl, rfl⟩) | ((with_reducible refine (C3.out _).mono ?_); rintro e w' ⟨rfl, rfl⟩) | ((with_reducible refine (C4.out _).mono ?_); rintro e w' ⟨rfl, rfl⟩) | ((with_reducible refine (C5.out _).mono ?_); rintro e w' ⟨rfl, rfl⟩)))
  rw [rounds_succ]
  go_wp2_with (first
    | (go_at_call 64; refine (areTints_any _ _).mono ?_; rintro e w' ⟨rfl, rfl⟩; rw [T.out])
    | (go_at_call 66; first | ((with_reducible refine (C1.out _).mono ?_); rintro e w' ⟨rfl, rfl⟩) | ((with_reducible refine (C2.out _).mono ?_); rintro e w' ⟨rfl, rfl⟩) | ((with_reducible refine (C3.out _).mono ?_); rintro e w' ⟨rfl, rfl⟩) | ((with_reducible refine (C4.out _).mono ?_); rintro e w' ⟨rfl, rfl⟩) | ((with_reducible refine (C5.out _).mono ?_); rintro e w' ⟨rfl, rfl⟩)))
  rw [rounds_succ]
  go_wp2_with (first
    | (go_at_call 64; refine (areTints_any _ _).mono ?_; rintro e w' ⟨rfl, rfl⟩; rw [T.out])
    | (go_at_call 66; first | ((with_reducible refine (C1.out _).mono ?_); rintro e w' ⟨rfl, rfl⟩) | ((with_reducible refine (C2.out _).mono ?_); rintro e w' ⟨rfl, rfl⟩) | ((with_reducible refine (C3.out _).mono ?_); rintro e w' ⟨rfl, rfl⟩) | ((with_reducible refine (C4.out _).mono ?_); rintro e w' ⟨rfl, rfl⟩) | ((with_reducible refine (C5.out _).mono ?_); rintro e w' ⟨rfl, rfl⟩)))
  rw [rounds_succ]
  go_wp2
  go_ret2
  exact ⟨ret_ib (by simp only [allV]; omega), hb⟩

theorem specAll_any (n q : Int) (w : World) :
    Calls Try.prog 26 #[.int .i64 n, .int .i64 q] w fun e w' => e = .returned (.tuple (allOf n q)) ∧ Below w.heap.size w w' := by
  unfold allOf
  cases h : okSize n false && okTints q
  · rw [if_neg (by decide)]
    have H := Lib.hid h; clear h
    go_enter Try.func26, Try.ntmps26
    go_wp2_with (go_at_call 60; refine (coAsked_any _ _ _ _).mono ?_; rintro e w' ⟨rfl, rfl⟩; rw [H.out])
    go_ret2
    exact ⟨rfl, Below.refl _ _⟩
  · rw [if_pos rfl]
    obtain ⟨⟨a1, a2, -⟩, a4, a5⟩ := okAsk_parts h
    rw [Bool.and_eq_true] at h
    have H := Lib.hid h.1
    clear h
    obtain ⟨n, rfl⟩ : ∃ k : Nat, n = k := ⟨n.toNat, by omega⟩
    rcases (by omega : q = 1 ∨ q = 2 ∨ q = 3 ∨ q = 4 ∨ q = 5) with rfl | rfl | rfl | rfl | rfl
    · exact specAll_1 n w (by omega) (by omega) H
    · exact specAll_2 n w (by omega) (by omega) H
    · exact specAll_3 n w (by omega) (by omega) H
    · exact specAll_4 n w (by omega) (by omega) H
    · exact specAll_5 n w (by omega) (by omega) H

theorem implAll_any (n q : Int) (w : World) :
    Calls Try.prog 27 #[.int .i64 n, .int .i64 q] w fun e w' => e = .returned (.tuple (allOf n q)) ∧ Below w.heap.size w w' := by
  unfold allOf
  cases h1 : okSize n false
  · rw [if_neg (by simp)]
    have H := Lib.hid h1; clear h1
    go_enter Try.func27, Try.ntmps27
    go_wp2_with (go_at_call 63; refine (areBoards_any _ _ _).mono ?_; rintro e w' ⟨rfl, rfl⟩; rw [H.out])
    go_ret2
    exact ⟨rfl, Below.refl _ _⟩
  · cases h2 : okTints q
    · rw [if_neg (by simp)]
      have H := Lib.hid h1; clear h1
      have H2 := Lib.hid h2; clear h2
      go_enter Try.func27, Try.ntmps27
      go_wp2_with (first
        | (go_at_call 63; refine (areBoards_any _ _ _).mono ?_; rintro e w' ⟨rfl, rfl⟩; rw [H.out])
        | (go_at_call 64; refine (areTints_any _ _).mono ?_; rintro e w' ⟨rfl, rfl⟩; rw [H2.out]))
      go_ret2
      exact ⟨rfl, Below.refl _ _⟩
    · rw [if_pos (by decide)]
      obtain ⟨⟨a1, a2, -⟩, a4, a5⟩ := okAsk_parts (show (okSize n false && okTints q) = true by rw [h1, h2]; rfl)
      have H := Lib.hid h1; clear h1 h2
      obtain ⟨n, rfl⟩ : ∃ k : Nat, n = k := ⟨n.toNat, by omega⟩
      rcases (by omega : q = 1 ∨ q = 2 ∨ q = 3 ∨ q = 4 ∨ q = 5) with rfl | rfl | rfl | rfl | rfl
      · exact implAll_1 n w (by omega) (by omega) H
      · exact implAll_2 n w (by omega) (by omega) H
      · exact implAll_3 n w (by omega) (by omega) H
      · exact implAll_4 n w (by omega) (by omega) H
      · exact implAll_5 n w (by omega) (by omega) H

theorem lawCountAllTints_walk (n q : Int) (w : World) (_ : (Lit.int .i64 n).wf = true) (_ : (Lit.int .i64 q).wf = true) :
    Calls Try.prog 6 #[.int .i64 n, .int .i64 q] w fun e w' => e = .returned (.bool true) ∧ Below w.heap.size w w' := by
  obtain ⟨p, x, hp⟩ : ∃ (p : Int) (x : Bool), allOf n q = #[.int .i64 p, .bool x] := by
    unfold allOf; split
    · exact ⟨_, _, rfl⟩
    · exact ⟨_, _, rfl⟩
  have S := fun W : World => specAll_any n q W
  have I := fun W : World => implAll_any n q W
  rw [hp] at S I
  clear hp
  have HS := Lib.hid S
  have HI := Lib.hid I
  clear S I
  go_enter Try.func6, Try.ntmps6
  go_wp2_with (first
    | (go_at_call 26; refine (HS.out _).mono ?_; rintro e w1 ⟨rfl, hb⟩)
    | (go_at_call 27; refine (HI.out _).mono ?_; rintro e w1 ⟨rfl, hb1⟩))
  go_ret
  exact ⟨rfl, below_next hb hb1⟩
end Go.Proofs.Ytcloemgaaaokgaa
