/- GapAround and EvenGap of both sides. No condition. -/
import Derived.Test.YtacncacpcllgcaaPost
import Derived.Test.YtacncacpcllgcaaLow
namespace Go.Proofs.Ytacncacpcllgcaa
open Go.RowKit

set_option maxHeartbeats 400000 in
theorem poDivides_any (a b : Nat) (w : World) (ha : a ≤ 4611686018427387904) (hb : b ≤ 4611686018427387904) :
    Calls Try.prog 82 #[.int .i64 a, .int .i64 b] w fun e w' => e = .returned (.int .i64 (Nat.gcd a b : Nat)) ∧ ∃ d, w' = w.drewN d := by
  go_enter Try.func82, Try.ntmps82
  go_wp2
  go_loopw [0, 1] (fun u v wr => ∃ x y d : Nat, u = .int .i64 x ∧ v = .int .i64 y ∧ x ≤ 4611686018427387904 ∧ y ≤ 4611686018427387904 ∧ Nat.gcd x y = Nat.gcd a b ∧ wr = w.drewN d) (fun _ v _ => (intOf v).toNat)
  case atStart => exact ⟨a, b, 0, rfl, rfl, ha, hb, rfl, rfl⟩
  case round =>
    obtain ⟨x, y, d, rfl, rfl, hx, hy, hg, rfl⟩ := hrel
    have HG := Lib.hid hg
    clear hg
    rcases Nat.eq_zero_or_pos y with h0 | h0
    · subst h0
      have HZ := Lib.hid (Nat.gcd_zero_right x)
      go_wp2
      go_ret
      exact ⟨ret_int (by rw [← HG.out, HZ.out]), _, rfl⟩
    · have HS : Hid (Nat.gcd y (x % y) = Nat.gcd a b) := Lib.hid (by rw [← HG.out, Nat.gcd_comm x y, Nat.gcd_rec y x, Nat.gcd_comm])
      have hm : x % y < y := Nat.mod_lt x h0
      have y0 : (0 : Int) < (y : Int) := by omega
      have y1 : (1 : Int) ≤ (y : Int) := by omega
      have x0 : (0 : Int) ≤ (x : Int) := by omega
      have yz : ((y : Int) == 0) = false := by rw [beq_eq_false_iff_ne]; omega
      go_wp2
      go_quiet (fail)
      go_wp2
      go_roundw
      case rel => exact ⟨y, x % y, _, rfl, rfl, hy, by omega, HS.out, World.drewN_drewN _ _ _⟩
      case measure => simp [intOf]; omega

def aroundGapI (a b : Int) : Int := if2 a b fun x y => ((Nat.gcd x y : Nat) : Int)
def evenA (a b : Int) : Int := if2 a b fun x y => ((lowA x (partsN x y) : Nat) : Int)
def evenB (a b : Int) : Int := if2 a b fun x y => ((lowB x (partsN x y) : Nat) : Int)

set_option maxHeartbeats 1000000 in
theorem implGapAround_any (a0 a1 : Int) (w : World) (_ : (Lit.int .i64 a0).wf = true) (_ : (Lit.int .i64 a1).wf = true) :
    Calls Try.prog 33 #[.int .i64 a0, .int .i64 a1] w fun e w' => e = .returned (.tuple #[.int .i64 (aroundGapI a0 a1), .bool (okL2 a0 a1)]) ∧ Below w.heap.size w w' := by
  have HA := Lib.hid fun W A h => areL2_any a0 a1 W A h
  have H2 := Lib.hid (twoL_sl w a0 a1 3)
  have HB := Lib.hid (below_new w (.cells #[.int .i64 a0, .int .i64 a1] 3))
  cases hok : okL2 a0 a1
  · rw [show aroundGapI a0 a1 = 0 from if2_no hok _]
    rw [hok] at HA
    clear hok
    go_enter Try.func33, Try.ntmps33
    go_wp2_with (go_at_call 74; refine (HA.out _ _ H2.out).mono ?_; rintro e w1 ⟨rfl, rfl⟩)
    go_ret2
    exact ⟨rfl, HB.out⟩
  · rw [hok] at HA
    obtain ⟨h0, h1⟩ := okL2_at hok
    obtain ⟨x, rfl, x1, x2⟩ := okL_nat h0
    obtain ⟨y, rfl, y1, y2⟩ := okL_nat h1
    rw [show aroundGapI x y = ((Nat.gcd x y : Nat) : Int) from if2_yes hok _]
    have HF := Lib.hid fun W => commonDivisor_any x y W (by omega) (by omega)
    obtain ⟨p, hpp⟩ : ∃ p, p = Nat.gcd x y := ⟨_, rfl⟩
    rw [← hpp] at HF ⊢
    clear hpp hok h0 h1
    go_enter Try.func33, Try.ntmps33
    go_wp2_with fail
    refine (HA.out _ _ H2.out).mono ?_
    rintro e w1 ⟨rfl, rfl⟩
    go_wp2_with fail
    refine (HF.out _).mono ?_
    rintro e w1 ⟨rfl, d, rfl⟩
    go_wp2
    go_ret2
    exact ⟨rfl, below_drewN HB.out _⟩

set_option maxHeartbeats 1000000 in
theorem specGapAround_no (a0 a1 : Int) (w : World)  (hok : (okL a0 && okL a1) = false) :
    Calls Try.prog 34 #[.int .i64 a0, .int .i64 a1] w fun e w' => e = .returned (.tuple #[.int .i64 0, .bool false]) ∧ Below w.heap.size w w' := by
  have H0 := Lib.hid (poLong_any a0 w)
  have H1 := Lib.hid (poLong_any a1 w)
  cases h0 : okL a0
  · clear hok
    rw [h0] at H0
    clear h0 H1
    go_enter Try.func34, Try.ntmps34
    go_wp2_with fail
    refine H0.out.mono ?_
    rintro e w1 ⟨rfl, rfl⟩
    go_wp2
    go_ret2
    exact ⟨rfl, Below.refl _ _⟩
  · skip
    cases h1 : okL a1
    · clear hok
      rw [h0] at H0
      rw [h1] at H1
      clear h0 h1
      go_enter Try.func34, Try.ntmps34
      go_wp2_with fail
      refine H0.out.mono ?_
      rintro e w1 ⟨rfl, rfl⟩
      go_wp2_with fail
      refine H1.out.mono ?_
      rintro e w1 ⟨rfl, rfl⟩
      go_wp2
      go_ret2
      exact ⟨rfl, Below.refl _ _⟩
    · rw [h0, h1] at hok; simp at hok
set_option maxHeartbeats 1000000 in
theorem specEvenGap_no (a0 a1 : Int) (w : World)  (hok : (okL a0 && okL a1) = false) :
    Calls Try.prog 30 #[.int .i64 a0, .int .i64 a1] w fun e w' => e = .returned (.tuple #[.int .i64 0, .int .i64 0, .bool false]) ∧ Below w.heap.size w w' := by
  have H0 := Lib.hid (poLong_any a0 w)
  have H1 := Lib.hid (poLong_any a1 w)
  cases h0 : okL a0
  · clear hok
    rw [h0] at H0
    clear h0 H1
    go_enter Try.func30, Try.ntmps30
    go_wp2_with fail
    refine H0.out.mono ?_
    rintro e w1 ⟨rfl, rfl⟩
    go_wp2
    go_ret3
    exact ⟨rfl, Below.refl _ _⟩
  · skip
    cases h1 : okL a1
    · clear hok
      rw [h0] at H0
      rw [h1] at H1
      clear h0 h1
      go_enter Try.func30, Try.ntmps30
      go_wp2_with fail
      refine H0.out.mono ?_
      rintro e w1 ⟨rfl, rfl⟩
      go_wp2_with fail
      refine H1.out.mono ?_
      rintro e w1 ⟨rfl, rfl⟩
      go_wp2
      go_ret3
      exact ⟨rfl, Below.refl _ _⟩
    · rw [h0, h1] at hok; simp at hok
set_option maxHeartbeats 1000000 in
theorem specGapAround_any (a0 a1 : Int) (w : World) (_ : (Lit.int .i64 a0).wf = true) (_ : (Lit.int .i64 a1).wf = true) :
    Calls Try.prog 34 #[.int .i64 a0, .int .i64 a1] w fun e w' => e = .returned (.tuple #[.int .i64 (aroundGapI a0 a1), .bool (okL2 a0 a1)]) ∧ Below w.heap.size w w' := by
  cases hok : okL2 a0 a1
  · rw [show aroundGapI a0 a1 = 0 from if2_no hok _]
    exact specGapAround_no a0 a1 w hok
  · obtain ⟨h0, h1⟩ := okL2_at hok
    have HA := Lib.hid fun W => poLong_any a0 W
    have HB := Lib.hid fun W => poLong_any a1 W
    rw [h0] at HA
    rw [h1] at HB
    obtain ⟨x, rfl, x1, x2⟩ := okL_nat h0
    obtain ⟨y, rfl, y1, y2⟩ := okL_nat h1
    rw [show aroundGapI x y = ((Nat.gcd x y : Nat) : Int) from if2_yes hok _]
    have HF := Lib.hid fun W => poDivides_any x y W (by omega) (by omega)
    obtain ⟨p, hpp⟩ : ∃ p, p = Nat.gcd x y := ⟨_, rfl⟩
    rw [← hpp] at HF ⊢
    clear hpp hok h0 h1
    go_enter Try.func34, Try.ntmps34
    go_wp2_with fail
    refine (HA.out _).mono ?_
    rintro e w1 ⟨rfl, rfl⟩
    go_wp2_with fail
    refine (HB.out _).mono ?_
    rintro e w1 ⟨rfl, rfl⟩
    go_wp2_with fail
    refine (HF.out _).mono ?_
    rintro e w1 ⟨rfl, d, rfl⟩
    go_wp2
    go_ret2
    exact ⟨rfl, below_drewN (Below.refl _ _) _⟩

set_option maxHeartbeats 1000000 in
theorem implEvenGap_any (a0 a1 : Int) (w : World) (_ : (Lit.int .i64 a0).wf = true) (_ : (Lit.int .i64 a1).wf = true) :
    Calls Try.prog 29 #[.int .i64 a0, .int .i64 a1] w fun e w' => e = .returned (.tuple #[.int .i64 (evenA a0 a1), .int .i64 (evenB a0 a1), .bool (okL2 a0 a1)]) ∧ Below w.heap.size w w' := by
  have HA := Lib.hid fun W A h => areL2_any a0 a1 W A h
  have H2 := Lib.hid (twoL_sl w a0 a1 3)
  have HB := Lib.hid (below_new w (.cells #[.int .i64 a0, .int .i64 a1] 3))
  cases hok : okL2 a0 a1
  · rw [show evenA a0 a1 = 0 from if2_no hok _, show evenB a0 a1 = 0 from if2_no hok _]
    rw [hok] at HA
    clear hok
    go_enter Try.func29, Try.ntmps29
    go_wp2_with (go_at_call 74; refine (HA.out _ _ H2.out).mono ?_; rintro e w1 ⟨rfl, rfl⟩)
    go_ret3
    exact ⟨rfl, HB.out⟩
  · rw [hok] at HA
    obtain ⟨h0, h1⟩ := okL2_at hok
    obtain ⟨x, rfl, x1, x2⟩ := okL_nat h0
    obtain ⟨y, rfl, y1, y2⟩ := okL_nat h1
    rw [show evenA x y = ((lowA x (partsN x y) : Nat) : Int) from if2_yes hok _, show evenB x y = ((lowB x (partsN x y) : Nat) : Int) from if2_yes hok _]
    have HF := Lib.hid fun W => fewestGaps_any x y W x1 x2 y1 y2
    have hp := partsN_bd x1 x2 y1
    obtain ⟨p, hpp⟩ : ∃ p, p = partsN x y := ⟨_, rfl⟩
    rw [← hpp] at HF hp ⊢
    have HL := Lib.hid fun W => lowestTerms_any x p W (by omega) (by omega) hp.1
    obtain ⟨ra, hra⟩ : ∃ a, a = lowA x p := ⟨_, rfl⟩
    obtain ⟨rb, hrb⟩ : ∃ a, a = lowB x p := ⟨_, rfl⟩
    rw [← hra, ← hrb] at HL ⊢
    clear hpp hok h0 h1 hra hrb
    go_enter Try.func29, Try.ntmps29
    go_wp2_with fail
    refine (HA.out _ _ H2.out).mono ?_
    rintro e w1 ⟨rfl, rfl⟩
    go_wp2_with fail
    refine (HF.out _).mono ?_
    rintro e w1 ⟨rfl, rfl⟩
    go_wp2_with fail
    refine (HL.out _).mono ?_
    rintro e w1 ⟨rfl, d, rfl⟩
    go_wp2
    go_ret3
    exact ⟨rfl, below_drewN HB.out _⟩
set_option maxHeartbeats 1000000 in
theorem specEvenGap_any (a0 a1 : Int) (w : World) (_ : (Lit.int .i64 a0).wf = true) (_ : (Lit.int .i64 a1).wf = true) :
    Calls Try.prog 30 #[.int .i64 a0, .int .i64 a1] w fun e w' => e = .returned (.tuple #[.int .i64 (evenA a0 a1), .int .i64 (evenB a0 a1), .bool (okL2 a0 a1)]) ∧ Below w.heap.size w w' := by
  cases hok : okL2 a0 a1
  · rw [show evenA a0 a1 = 0 from if2_no hok _, show evenB a0 a1 = 0 from if2_no hok _]
    exact specEvenGap_no a0 a1 w hok
  · obtain ⟨h0, h1⟩ := okL2_at hok
    have HA := Lib.hid fun W => poLong_any a0 W
    have HB := Lib.hid fun W => poLong_any a1 W
    rw [h0] at HA
    rw [h1] at HB
    obtain ⟨x, rfl, x1, x2⟩ := okL_nat h0
    obtain ⟨y, rfl, y1, y2⟩ := okL_nat h1
    rw [show evenA x y = ((lowA x (partsN x y) : Nat) : Int) from if2_yes hok _, show evenB x y = ((lowB x (partsN x y) : Nat) : Int) from if2_yes hok _]
    have HF := Lib.hid fun W => poParts_any x y W x1 x2 y1 y2
    have hp := partsN_bd x1 x2 y1
    obtain ⟨p, hpp⟩ : ∃ p, p = partsN x y := ⟨_, rfl⟩
    rw [← hpp] at HF hp ⊢
    have HL := Lib.hid fun W => shLow_any x p W (by omega) (by omega) hp.1
    obtain ⟨ra, hra⟩ : ∃ a, a = lowA x p := ⟨_, rfl⟩
    obtain ⟨rb, hrb⟩ : ∃ a, a = lowB x p := ⟨_, rfl⟩
    rw [← hra, ← hrb] at HL ⊢
    clear hpp hok h0 h1 hra hrb
    go_enter Try.func30, Try.ntmps30
    go_wp2_with fail
    refine (HA.out _).mono ?_
    rintro e w1 ⟨rfl, rfl⟩
    go_wp2_with fail
    refine (HB.out _).mono ?_
    rintro e w1 ⟨rfl, rfl⟩
    go_wp2_with fail
    refine (HF.out _).mono ?_
    rintro e w1 ⟨rfl, rfl⟩
    go_wp2_with fail
    refine (HL.out _).mono ?_
    rintro e w1 ⟨rfl, d, rfl⟩
    go_wp2
    go_ret3
    exact ⟨rfl, below_drewN (Below.refl _ _) _⟩
end Go.Proofs.Ytacncacpcllgcaa
