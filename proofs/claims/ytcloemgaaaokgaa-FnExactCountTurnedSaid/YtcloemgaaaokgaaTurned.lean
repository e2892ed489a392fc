/- CountTurned: common divisors, the two functions, and the law's walk. No condition. -/
import Derived.Test.YtcloemgaaaokgaaMirrored
namespace Go.Proofs.Ytcloemgaaaokgaa
open Go.RowKit

set_option maxHeartbeats 400000 in
theorem commonDivisor_any (a b : Nat) (w : World) (ha : a ≤ 20) (hb : b ≤ 20) :
    Calls Try.prog 72 #[.int .i64 a, .int .i64 b] w fun e w' => e = .returned (.int .i64 (Nat.gcd a b : Nat)) ∧ Below w.heap.size w w' := by
  go_enter Try.func72, Try.ntmps72
  go_wp2
  go_loopw [0, 1] (fun u v wr => ∃ x y d : Nat, u = .int .i64 x ∧ v = .int .i64 y ∧ x ≤ 20 ∧ y ≤ 20 ∧ Nat.gcd x y = Nat.gcd a b ∧ wr = w.drewN d) (fun _ v _ => (intOf v).toNat)
  case atStart => exact ⟨a, b, 0, rfl, rfl, ha, hb, rfl, rfl⟩
  case round =>
    obtain ⟨x, y, d, rfl, rfl, hx, hy, hg, rfl⟩ := hrel
    have HG := Lib.hid hg
    clear hg
    rcases Nat.eq_zero_or_pos y with h0 | h0
    · subst h0
      have HZ := Lib.hid (Nat.gcd_zero_right x)
      go_wp2
      go_ret
      exact ⟨ret_int (by rw [← HG.out, HZ.out]), below_drewN (Below.refl _ _) _⟩
    · have HS : Hid (Nat.gcd y (x % y) = Nat.gcd a b) := Lib.hid (by rw [← HG.out, Nat.gcd_comm x y, Nat.gcd_rec y x, Nat.gcd_comm])
      have hm : x % y < y := Nat.mod_lt x h0
      have y0 : (0 : Int) < (y : Int) := by omega
      have y1 : (1 : Int) ≤ (y : Int) := by omega
      have x0 : (0 : Int) ≤ (x : Int) := by omega
      have yz : ((y : Int) == 0) = false := by rw [beq_eq_false_iff_ne]; omega
      go_wp2
      go_quiet (fail)
      go_wp2
      go_roundw
      case rel => exact ⟨y, x % y, _, rfl, rfl, hy, by omega, HS.out, World.drewN_drewN _ _ _⟩
      case measure => simp [intOf]; omega

set_option maxHeartbeats 400000 in
theorem coDivides_any (a b : Nat) (w : World) (ha : a ≤ 20) (hb : b ≤ 20) :
    Calls Try.prog 71 #[.int .i64 a, .int .i64 b] w fun e w' => e = .returned (.int .i64 (Nat.gcd a b : Nat)) ∧ Below w.heap.size w w' := by
  go_enter Try.func71, Try.ntmps71
  go_wp2
  go_loopw [0, 1] (fun u v wr => ∃ x y d : Nat, u = .int .i64 x ∧ v = .int .i64 y ∧ x ≤ 20 ∧ y ≤ 20 ∧ Nat.gcd x y = Nat.gcd a b ∧ wr = w.drewN d) (fun _ v _ => (intOf v).toNat)
  case atStart => exact ⟨a, b, 0, rfl, rfl, ha, hb, rfl, rfl⟩
  case round =>
    obtain ⟨x, y, d, rfl, rfl, hx, hy, hg, rfl⟩ := hrel
    have HG := Lib.hid hg
    clear hg
    rcases Nat.eq_zero_or_pos y with h0 | h0
    · subst h0
      have HZ := Lib.hid (Nat.gcd_zero_right x)
      go_wp2
      go_ret
      exact ⟨ret_int (by rw [← HG.out, HZ.out]), below_drewN (Below.refl _ _) _⟩
    · have HS : Hid (Nat.gcd y (x % y) = Nat.gcd a b) := Lib.hid (by rw [← HG.out, Nat.gcd_comm x y, Nat.gcd_rec y x, Nat.gcd_comm])
      have hm : x % y < y := Nat.mod_lt x h0
      have y0 : (0 : Int) < (y : Int) := by omega
      have y1 : (1 : Int) ≤ (y : Int) := by omega
      have x0 : (0 : Int) ≤ (x : Int) := by omega
      have yz : ((y : Int) == 0) = false := by rw [beq_eq_false_iff_ne]; omega
      go_wp2
      go_quiet (fail)
      go_wp2
      go_roundw
      case rel => exact ⟨y, x % y, _, rfl, rfl, hy, by omega, HS.out, World.drewN_drewN _ _ _⟩
      case measure => simp [intOf]; omega

/-- of how many fences the turns by less than j lead to themselves -/
def turnSum (q n : Nat) : Nat → Int
  | 0 => 0
  | j + 1 => turnSum q n j + ringV q (Nat.gcd n j)
theorem gcd_bd {n j : Nat} (h1 : 1 ≤ n) : 1 ≤ Nat.gcd n j ∧ Nat.gcd n j ≤ n := ⟨Nat.gcd_pos_of_pos_left _ h1, Nat.gcd_le_left _ h1⟩
theorem turnSum_bd {q n : Nat} (h1 : 1 ≤ n) (hn : n ≤ 20) (hq1 : 1 ≤ q) (hq : q ≤ 5) : ∀ j, j ≤ 20 → 0 ≤ turnSum q n j ∧ turnSum q n j ≤ j * 2384185791015625
  | 0, _ => by simp [turnSum]
  | j + 1, hj => by
    have ih := turnSum_bd h1 hn hq1 hq j (by omega)
    obtain ⟨g1, g2⟩ := gcd_bd (j := j) h1
    have := ringV_bd (n := Nat.gcd n j) hq1 hq (by omega)
    rw [turnSum]
    omega
theorem ringV_two (q : Nat) : ringV q 2 = (q : Int) * ((q : Int) - 1) := by simp [ringV, altV, Int.pow_succ]
def turnedOf (n q : Int) : Array Value := if (okSize n true && okTints q) = true then #[.int .i64 (turnSum q.toNat n.toNat n.toNat / n), .bool true] else #[.int .i64 0, .bool false]

set_option maxHeartbeats 1000000 in
theorem implTurned_any (n q : Int) (w : World) :
    Calls Try.prog 31 #[.int .i64 n, .int .i64 q] w fun e w' => e = .returned (.tuple (turnedOf n q)) ∧ Below w.heap.size w w' := by
  unfold turnedOf
  cases h1 : okSize n true
  · rw [if_neg (by simp)]
    have H := Lib.hid h1; clear h1
    go_enter Try.func31, Try.ntmps31
    go_wp2_with (go_at_call 63; refine (areBoards_any _ _ _).mono ?_; rintro e w' ⟨rfl, rfl⟩; rw [H.out])
    go_ret2
    exact ⟨rfl, Below.refl _ _⟩
  · cases h2 : okTints q
    · rw [if_neg (by simp)]
      have H := Lib.hid h1; clear h1
      have H2 := Lib.hid h2; clear h2
      go_enter Try.func31, Try.ntmps31
      go_wp2_with (first
        | (go_at_call 63; refine (areBoards_any _ _ _).mono ?_; rintro e w' ⟨rfl, rfl⟩; rw [H.out])
        | (go_at_call 64; refine (areTints_any _ _).mono ?_; rintro e w' ⟨rfl, rfl⟩; rw [H2.out]))
      go_ret2
      exact ⟨rfl, Below.refl _ _⟩
    · rw [if_pos (by decide)]
      obtain ⟨⟨a1, a2, a3⟩, a4, a5⟩ := okAsk_parts (show (okSize n true && okTints q) = true by rw [h1, h2]; rfl)
      have a3' := a3 rfl
      have H := Lib.hid h1; clear h1 a3
      have H2 := Lib.hid h2; clear h2
      obtain ⟨n, rfl⟩ : ∃ k : Nat, n = k := ⟨n.toNat, by omega⟩
      obtain ⟨q, rfl⟩ : ∃ k : Nat, q = k := ⟨q.toNat, by omega⟩
      simp only [Int.toNat_natCast]
      go_enter Try.func31, Try.ntmps31
      go_wp2_with (first
        | (go_at_call 63; refine (areBoards_any _ _ _).mono ?_; rintro e w' ⟨rfl, rfl⟩; rw [H.out])
        | (go_at_call 64; refine (areTints_any _ _).mono ?_; rintro e w' ⟨rfl, rfl⟩; rw [H2.out]))
      go_loopw [6, 17] (fun u i wr => ∃ j : Nat, j ≤ n ∧ i = .int .i64 j ∧ u = .int .i64 (turnSum q n j) ∧ Below w.heap.size w wr) (fun _ i _ => n - (intOf i).toNat)
      case atStart => exact ⟨0, Nat.zero_le _, rfl, rfl, Below.refl _ _⟩
      case round =>
        obtain ⟨j, hj, rfl, rfl, hb⟩ := hrel
        obtain ⟨t1, t2⟩ := turnSum_bd (q := q) (n := n) (by omega) (by omega) (by omega) (by omega) j (by omega)
        by_cases hlt : j < n
        · obtain ⟨g1, g2⟩ := gcd_bd (n := n) (j := j) (by omega)
          obtain ⟨r1, r2⟩ := ringV_bd (q := q) (n := Nat.gcd n j) (by omega) (by omega) (by omega)
          go_wp2_with (first
            | (go_at_call 72; refine (commonDivisor_any n j _ (by omega) (by omega)).mono ?_; rintro e w1 ⟨rfl, hb1⟩)
            | (go_at_call 65; refine (properAround_any (Nat.gcd n j) q _ g1 (by omega) (by omega) (by omega)).mono ?_; rintro e w2 ⟨rfl, rfl⟩))
          go_roundw
          case rel => exact ⟨j + 1, by omega, by go_num, rfl, below_next hb hb1⟩
          case measure => simp [intOf]; omega
        · obtain rfl : j = n := by omega
          have n1 : (1 : Int) ≤ (j : Int) := by omega
          have nz : ((j : Int) == 0) = false := by rw [beq_eq_false_iff_ne]; omega
          go_wp2
          go_ret2
          exact ⟨rfl, hb⟩

theorem turn_three {q n j : Nat} (_ : 3 ≤ Nat.gcd n j) : turnSum q n (j + 1) = turnSum q n j + ringV q (Nat.gcd n j) := rfl
theorem turn_two {q n j : Nat} (h : Nat.gcd n j = 2) : turnSum q n (j + 1) = turnSum q n j + (q : Int) * ((q : Int) - 1) := by rw [turnSum, h, ringV_two]
theorem turn_one {q n j : Nat} (h : Nat.gcd n j = 1) : turnSum q n (j + 1) = turnSum q n j := by rw [turnSum, h, ringV_one, Int.add_zero]
theorem pair_bd {q : Nat} (h1 : 1 ≤ q) (h : q ≤ 5) : 0 ≤ (q : Int) * ((q : Int) - 1) ∧ (q : Int) * ((q : Int) - 1) ≤ 20 := by
  have : ∀ k : Fin 6, 1 ≤ k.val → 0 ≤ (k.val : Int) * ((k.val : Int) - 1) ∧ (k.val : Int) * ((k.val : Int) - 1) ≤ 20 := by decide +kernel
  exact this ⟨q, by omega⟩ h1

set_option maxHeartbeats 1000000 in
theorem specTurned_any (n q : Int) (w : World) :
    Calls Try.prog 30 #[.int .i64 n, .int .i64 q] w fun e w' => e = .returned (.tuple (turnedOf n q)) ∧ Below w.heap.size w w' := by
  unfold turnedOf
  cases h : okSize n true && okTints q
  · rw [if_neg (by decide)]
    have H := Lib.hid h; clear h
    go_enter Try.func30, Try.ntmps30
    go_wp2_with (go_at_call 60; refine (coAsked_any _ _ _ _).mono ?_; rintro e w' ⟨rfl, rfl⟩; rw [H.out])
    go_ret2
    exact ⟨rfl, Below.refl _ _⟩
  · rw [if_pos rfl]
    obtain ⟨⟨a1, a2, a3⟩, a4, a5⟩ := okAsk_parts h
    have a3' := a3 rfl
    have H := Lib.hid h; clear h a3
    obtain ⟨n, rfl⟩ : ∃ k : Nat, n = k := ⟨n.toNat, by omega⟩
    obtain ⟨q, rfl⟩ : ∃ k : Nat, q = k := ⟨q.toNat, by omega⟩
    simp only [Int.toNat_natCast]
    obtain ⟨p1, p2⟩ := pair_bd (q := q) (by omega) (by omega)
    have hwr : IntKind.i64.wrap ((q : Int) * ((q : Int) - 1)) = (q : Int) * ((q : Int) - 1) := IntWalk.i64_in _ (by omega)
    go_enter Try.func30, Try.ntmps30
    go_wp2_with (go_at_call 60; refine (coAsked_any _ _ _ _).mono ?_; rintro e w' ⟨rfl, rfl⟩; rw [H.out])
    go_loopw [6, 7] (fun u i wr => ∃ j : Nat, j ≤ n ∧ i = .int .i64 j ∧ u = .int .i64 (turnSum q n j) ∧ Below w.heap.size w wr) (fun _ i _ => n - (intOf i).toNat)
    case atStart => exact ⟨0, Nat.zero_le _, rfl, rfl, Below.refl _ _⟩
    case round =>
      obtain ⟨j, hj, rfl, rfl, hb⟩ := hrel
      obtain ⟨t1, t2⟩ := turnSum_bd (q := q) (n := n) (by omega) (by omega) (by omega) (by omega) j (by omega)
      by_cases hlt : j < n
      · obtain ⟨g1, g2⟩ := gcd_bd (n := n) (j := j) (by omega)
        by_cases h3 : 3 ≤ Nat.gcd n j
        · obtain ⟨r1, r2⟩ := ringV_bd (q := q) (n := Nat.gcd n j) (by omega) (by omega) (by omega)
          have HT := Lib.hid (turn_three (q := q) h3)
          have h3i : (3 : Int) ≤ ((Nat.gcd n j : Nat) : Int) := by omega
          go_wp2_with (first
            | (go_at_call 71; refine (coDivides_any n j _ (by omega) (by omega)).mono ?_; rintro e w1 ⟨rfl, hb1⟩; have hb := below_next hb hb1)
            | (go_at_call 62; refine (coBare_any (Nat.gcd n j) _ (by omega)).mono ?_; rintro e w2 ⟨rfl, rfl⟩)
            | (go_at_call 61; refine (coFrom_ring (Nat.gcd n j) q _ h3 (by omega) (by omega) (by omega)).mono ?_; rintro e w2 ⟨rfl, hb2⟩; have hb := below_next hb hb2))
          go_roundw
          case rel => exact ⟨j + 1, by omega, by go_num, by rw [HT.out], hb⟩
          case measure => simp [intOf]; omega
        · have h3d : decide ((3 : Int) ≤ ((Nat.gcd n j : Nat) : Int)) = false := decide_eq_false (by omega)
          have h3e : decide (3 ≤ Nat.gcd n j) = false := decide_eq_false h3
          have h3i : ((Nat.gcd n j : Nat) : Int) < 3 := by omega
          by_cases h2 : Nat.gcd n j = 2
          · have HT := Lib.hid (turn_two (q := q) h2)
            have h2i : (((Nat.gcd n j : Nat) : Int) == 2) = true := by rw [h2]; rfl
            have HC : Hid (∀ W, Calls Try.prog 71 #[.int .i64 n, .int .i64 j] W fun e w' => e = .returned (.int .i64 2) ∧ Below W.heap.size W w') := Lib.hid fun W => by
              have := coDivides_any n j W (by omega) (by omega)
              rw [h2] at this; exact this
            clear h2 h2i h3 h3d h3e h3i g1 g2
            go_wp2_with (go_at_call 71; refine (HC.out _).mono ?_; rintro e w1 ⟨rfl, hb1⟩; have hb := below_next hb hb1)
            go_roundw
            case rel => exact ⟨j + 1, by omega, by go_num, by rw [HT.out], hb⟩
            case measure => simp [intOf]; omega
          · have h1 : Nat.gcd n j = 1 := by omega
            have HT := Lib.hid (turn_one (q := q) h1)
            have HC : Hid (∀ W, Calls Try.prog 71 #[.int .i64 n, .int .i64 j] W fun e w' => e = .returned (.int .i64 1) ∧ Below W.heap.size W w') := Lib.hid fun W => by
              have := coDivides_any n j W (by omega) (by omega)
              rw [h1] at this; exact this
            clear h1 h2 h3 h3d h3e h3i g1 g2
            go_wp2_with (go_at_call 71; refine (HC.out _).mono ?_; rintro e w1 ⟨rfl, hb1⟩; have hb := below_next hb hb1)
            go_roundw
            case rel => exact ⟨j + 1, by omega, by go_num, by rw [HT.out], hb⟩
            case measure => simp [intOf]; omega
      · obtain rfl : j = n := by omega
        have n1 : (1 : Int) ≤ (j : Int) := by omega
        have nz : ((j : Int) == 0) = false := by rw [beq_eq_false_iff_ne]; omega
        go_wp2
        go_ret2
        exact ⟨rfl, hb⟩

theorem lawCountTurned_walk (n q : Int) (w : World) (_ : (Lit.int .i64 n).wf = true) (_ : (Lit.int .i64 q).wf = true) :
    Calls Try.prog 8 #[.int .i64 n, .int .i64 q] w fun e w' => e = .returned (.bool true) ∧ Below w.heap.size w w' := by
  obtain ⟨p, x, hp⟩ : ∃ (p : Int) (x : Bool), turnedOf n q = #[.int .i64 p, .bool x] := by
    unfold turnedOf; split
    · exact ⟨_, _, rfl⟩
    · exact ⟨_, _, rfl⟩
  have S := fun W : World => specTurned_any n q W
  have I := fun W : World => implTurned_any n q W
  rw [hp] at S I
  clear hp
  have HS := Lib.hid S
  have HI := Lib.hid I
  clear S I
  go_enter Try.func8, Try.ntmps8
  go_wp2_with (first
    | (go_at_call 30; refine (HS.out _).mono ?_; rintro e w1 ⟨rfl, hb⟩)
    | (go_at_call 31; refine (HI.out _).mono ?_; rintro e w1 ⟨rfl, hb1⟩))
  go_ret
  exact ⟨rfl, below_next hb hb1⟩
end Go.Proofs.Ytcloemgaaaokgaa
