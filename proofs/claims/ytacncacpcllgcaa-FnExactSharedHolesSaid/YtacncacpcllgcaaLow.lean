/- Fractions in lowest terms: 'impl.commonDivisor', 'impl.lowestTerms', 'spec.shLow', and the sums of fractions. No condition but the numbers' sizes. -/
import Derived.Test.YtacncacpcllgcaaOpenI
namespace Go.Proofs.Ytacncacpcllgcaa
open Go.RowKit

/-- numerator and denominator in lowest terms -/
def lowA (a b : Nat) : Nat := a / Nat.gcd a b
def lowB (a b : Nat) : Nat := b / Nat.gcd a b
theorem low_parts {a b : Nat} (hb : 0 < b) : 0 < Nat.gcd a b ∧ a = lowA a b * Nat.gcd a b ∧ b = lowB a b * Nat.gcd a b ∧ Nat.Coprime (lowA a b) (lowB a b) := by
  have hg : 0 < Nat.gcd a b := Nat.gcd_pos_of_pos_right a hb
  exact ⟨hg, (Nat.div_mul_cancel (Nat.gcd_dvd_left a b)).symm, (Nat.div_mul_cancel (Nat.gcd_dvd_right a b)).symm, Nat.coprime_div_gcd_div_gcd hg⟩
theorem low_pos {a b : Nat} (hb : 0 < b) : 0 < lowB a b := by
  obtain ⟨h1, _, h3, _⟩ := low_parts (a := a) hb
  rcases Nat.eq_zero_or_pos (lowB a b) with h | h
  · rw [h, Nat.zero_mul] at h3; omega
  · exact h
theorem low_le {a b : Nat} : lowA a b ≤ a ∧ lowB a b ≤ b := ⟨Nat.div_le_self _ _, Nat.div_le_self _ _⟩
theorem low_cross {a b : Nat} : lowA a b * b = a * lowB a b := by
  unfold lowA lowB
  have h1 := Nat.gcd_dvd_left a b
  have h2 := Nat.gcd_dvd_right a b
  rw [Nat.div_mul_right_comm h1, ← Nat.mul_div_assoc a h2]
/-- fractions that are equal have the same lowest terms -/
theorem low_same {a b c d : Nat} (hb : 0 < b) (hd : 0 < d) (h : a * d = c * b) : lowA a b = lowA c d ∧ lowB a b = lowB c d := by
  obtain ⟨g1, ea, eb, co1⟩ := low_parts (a := a) hb
  obtain ⟨g2, ec, ed, co2⟩ := low_parts (a := c) hd
  have key : lowA a b * lowB c d = lowA c d * lowB a b := by
    have h2 : (lowA a b * lowB c d) * (Nat.gcd a b * Nat.gcd c d) = (lowA c d * lowB a b) * (Nat.gcd a b * Nat.gcd c d) := by
      have e1 : a * d = (lowA a b * lowB c d) * (Nat.gcd a b * Nat.gcd c d) := by
        have : a * d = (lowA a b * Nat.gcd a b) * (lowB c d * Nat.gcd c d) := by rw [← ea, ← ed]
        rw [this]; simp only [Nat.mul_assoc, Nat.mul_left_comm, Nat.mul_comm]
      have e2 : c * b = (lowA c d * lowB a b) * (Nat.gcd a b * Nat.gcd c d) := by
        have : c * b = (lowA c d * Nat.gcd c d) * (lowB a b * Nat.gcd a b) := by rw [← ec, ← eb]
        rw [this]; simp only [Nat.mul_assoc, Nat.mul_left_comm, Nat.mul_comm]
      rw [← e1, ← e2, h]
    exact Nat.eq_of_mul_eq_mul_right (Nat.mul_pos g1 g2) h2
  have d1 : lowA a b ∣ lowA c d := by
    have : lowA a b ∣ lowA c d * lowB a b := ⟨lowB c d, key.symm⟩
    exact co1.dvd_of_dvd_mul_right this
  have d2 : lowA c d ∣ lowA a b := by
    have : lowA c d ∣ lowA a b * lowB c d := ⟨lowB a b, key⟩
    exact co2.dvd_of_dvd_mul_right this
  have d3 : lowB a b ∣ lowB c d := by
    have : lowB a b ∣ lowA a b * lowB c d := ⟨lowA c d, by rw [key, Nat.mul_comm]⟩
    exact co1.symm.dvd_of_dvd_mul_left this
  have d4 : lowB c d ∣ lowB a b := by
    have : lowB c d ∣ lowA c d * lowB a b := ⟨lowA a b, by rw [← key, Nat.mul_comm]⟩
    exact co2.symm.dvd_of_dvd_mul_left this
  exact ⟨Nat.dvd_antisymm d1 d2, Nat.dvd_antisymm d3 d4⟩

set_option maxHeartbeats 400000 in
theorem commonDivisor_any (a b : Nat) (w : World) (ha : a ≤ 4611686018427387904) (hb : b ≤ 4611686018427387904) :
    Calls Try.prog 81 #[.int .i64 a, .int .i64 b] w fun e w' => e = .returned (.int .i64 (Nat.gcd a b : Nat)) ∧ ∃ d, w' = w.drewN d := by
  go_enter Try.func81, Try.ntmps81
  go_wp2
  go_loopw [0, 1] (fun u v wr => ∃ x y d : Nat, u = .int .i64 x ∧ v = .int .i64 y ∧ x ≤ 4611686018427387904 ∧ y ≤ 4611686018427387904 ∧ Nat.gcd x y = Nat.gcd a b ∧ wr = w.drewN d) (fun _ v _ => (intOf v).toNat)
  case atStart => exact ⟨a, b, 0, rfl, rfl, ha, hb, rfl, rfl⟩
  case round =>
    obtain ⟨x, y, d, rfl, rfl, hx, hy, hg, rfl⟩ := hrel
    have HG := Lib.hid hg
    clear hg
    rcases Nat.eq_zero_or_pos y with h0 | h0
    · subst h0
      have HZ := Lib.hid (Nat.gcd_zero_right x)
      go_wp2
      go_ret
      exact ⟨ret_int (by rw [← HG.out, HZ.out]), _, rfl⟩
    · have HS : Hid (Nat.gcd y (x % y) = Nat.gcd a b) := Lib.hid (by rw [← HG.out, Nat.gcd_comm x y, Nat.gcd_rec y x, Nat.gcd_comm])
      have hm : x % y < y := Nat.mod_lt x h0
      have y0 : (0 : Int) < (y : Int) := by omega
      have y1 : (1 : Int) ≤ (y : Int) := by omega
      have x0 : (0 : Int) ≤ (x : Int) := by omega
      have yz : ((y : Int) == 0) = false := by rw [beq_eq_false_iff_ne]; omega
      go_wp2
      go_quiet (fail)
      go_wp2
      go_roundw
      case rel => exact ⟨y, x % y, _, rfl, rfl, hy, by omega, HS.out, World.drewN_drewN _ _ _⟩
      case measure => simp [intOf]; omega

set_option maxHeartbeats 400000 in
theorem lowestTerms_any (a b : Nat) (w : World) (ha : a ≤ 4611686018427387904) (hb : b ≤ 4611686018427387904) (h0 : 0 < b) :
    Calls Try.prog 79 #[.int .i64 a, .int .i64 b] w fun e w' => e = .returned (.tuple #[.int .i64 (lowA a b : Nat), .int .i64 (lowB a b : Nat)]) ∧ ∃ d, w' = w.drewN d := by
  have HC := Lib.hid fun W => commonDivisor_any a b W ha hb
  have hg := (low_parts (a := a) h0).1
  have HA : Hid ((lowA a b : Int) = (a : Int) / (Nat.gcd a b : Int)) := Lib.hid (by unfold lowA; rw [Int.natCast_ediv])
  have HB : Hid ((lowB a b : Int) = (b : Int) / (Nat.gcd a b : Int)) := Lib.hid (by unfold lowB; rw [Int.natCast_ediv])
  have hla := (low_le (a := a) (b := b)).1
  have hlb := (low_le (a := a) (b := b)).2
  have hgb : Nat.gcd a b ≤ b := Nat.le_of_dvd h0 (Nat.gcd_dvd_right a b)
  obtain ⟨g, hgg⟩ : ∃ g, g = Nat.gcd a b := ⟨_, rfl⟩
  rw [← hgg] at HC hg HA HB hgb
  obtain ⟨p, hp⟩ : ∃ p, p = lowA a b := ⟨_, rfl⟩
  obtain ⟨q, hq⟩ : ∃ q, q = lowB a b := ⟨_, rfl⟩
  rw [← hp] at HA hla
  rw [← hq] at HB hlb
  rw [← hp, ← hq]
  clear hgg hp hq h0
  have y0 : (0 : Int) < (g : Int) := by omega
  have y1 : (1 : Int) ≤ (g : Int) := by omega
  have x0 : (0 : Int) ≤ (a : Int) := by omega
  have x1 : (0 : Int) ≤ (b : Int) := by omega
  have yz : ((g : Int) == 0) = false := by rw [beq_eq_false_iff_ne]; omega
  have ta : (a : Int).tdiv (g : Int) = (p : Int) := by rw [HA.out, Int.tdiv_eq_ediv_of_nonneg x0]
  have tb : (b : Int).tdiv (g : Int) = (q : Int) := by rw [HB.out, Int.tdiv_eq_ediv_of_nonneg x1]
  have da : (a : Int) / (g : Int) = (p : Int) := HA.out.symm
  have db : (b : Int) / (g : Int) = (q : Int) := HB.out.symm
  clear HA HB
  go_enter Try.func79, Try.ntmps79
  go_wp2_with (go_at_call 81; refine (HC.out _).mono ?_; rintro e w1 ⟨rfl, d, rfl⟩)
  go_quiet (fail)
  go_wp2
  go_ret2
  exact ⟨rfl, _, World.drewN_drewN _ _ _⟩

set_option maxHeartbeats 400000 in
theorem shLow_any (a b : Nat) (w : World) (ha : a ≤ 4611686018427387904) (hb : b ≤ 4611686018427387904) (h0 : 0 < b) :
    Calls Try.prog 80 #[.int .i64 a, .int .i64 b] w fun e w' => e = .returned (.tuple #[.int .i64 (lowA a b : Nat), .int .i64 (lowB a b : Nat)]) ∧ ∃ d, w' = w.drewN d := by
  have hg0 := (low_parts (a := a) h0).1
  have HA : Hid ((lowA a b : Int) = (a : Int) / (Nat.gcd a b : Int)) := Lib.hid (by unfold lowA; rw [Int.natCast_ediv])
  have HB : Hid ((lowB a b : Int) = (b : Int) / (Nat.gcd a b : Int)) := Lib.hid (by unfold lowB; rw [Int.natCast_ediv])
  have hla := (low_le (a := a) (b := b)).1
  have hlb := (low_le (a := a) (b := b)).2
  obtain ⟨p, hp⟩ : ∃ p, p = lowA a b := ⟨_, rfl⟩
  obtain ⟨q, hq⟩ : ∃ q, q = lowB a b := ⟨_, rfl⟩
  rw [← hp] at HA hla
  rw [← hq] at HB hlb
  rw [← hp, ← hq]
  clear hp hq h0
  go_enter Try.func80, Try.ntmps80
  go_wp2
  go_loopw [6, 7] (fun u v wr => ∃ x y d : Nat, u = .int .i64 x ∧ v = .int .i64 y ∧ x ≤ 4611686018427387904 ∧ y ≤ 4611686018427387904 ∧ Nat.gcd x y = Nat.gcd a b ∧ wr = w.drewN d) (fun _ v _ => (intOf v).toNat)
  case atStart => exact ⟨a, b, 0, rfl, rfl, ha, hb, rfl, rfl⟩
  case round =>
    obtain ⟨x, y, d, rfl, rfl, hx, hy, hg, rfl⟩ := hrel
    have HG := Lib.hid hg
    clear hg
    rcases Nat.eq_zero_or_pos y with h0 | h0
    · subst h0
      have hxg : x = Nat.gcd a b := by rw [← HG.out, Nat.gcd_zero_right x]
      rw [← hxg] at HA HB hg0
      have y0 : (0 : Int) < (x : Int) := by omega
      have y1 : (1 : Int) ≤ (x : Int) := by omega
      have x0 : (0 : Int) ≤ (a : Int) := by omega
      have x1 : (0 : Int) ≤ (b : Int) := by omega
      have yz : ((x : Int) == 0) = false := by rw [beq_eq_false_iff_ne]; omega
      have ta : (a : Int).tdiv (x : Int) = (p : Int) := by rw [HA.out, Int.tdiv_eq_ediv_of_nonneg x0]
      have tb : (b : Int).tdiv (x : Int) = (q : Int) := by rw [HB.out, Int.tdiv_eq_ediv_of_nonneg x1]
      have da : (a : Int) / (x : Int) = (p : Int) := HA.out.symm
      have db : (b : Int) / (x : Int) = (q : Int) := HB.out.symm
      clear HA HB hxg HG
      go_wp2
      go_quiet (fail)
      go_wp2
      go_ret2
      exact ⟨rfl, _, World.drewN_drewN _ _ _⟩
    · have HS : Hid (Nat.gcd y (x % y) = Nat.gcd a b) := Lib.hid (by rw [← HG.out, Nat.gcd_comm x y, Nat.gcd_rec y x, Nat.gcd_comm])
      have hm : x % y < y := Nat.mod_lt x h0
      have y0 : (0 : Int) < (y : Int) := by omega
      have y1 : (1 : Int) ≤ (y : Int) := by omega
      have x0 : (0 : Int) ≤ (x : Int) := by omega
      have yz : ((y : Int) == 0) = false := by rw [beq_eq_false_iff_ne]; omega
      go_wp2
      go_quiet (fail)
      go_wp2
      go_roundw
      case rel => exact ⟨y, x % y, _, rfl, rfl, hy, by omega, HS.out, World.drewN_drewN _ _ _⟩
      case measure => simp [intOf]; omega
end Go.Proofs.Ytacncacpcllgcaa
