/- 'impl.waysBehind' and CountGateWays, CountWithLongest, FewestGates of both sides. No condition. -/
import Derived.Test.YtbocdhibimcobaaWays
import Derived.Test.YtbocdhibimcobaaSum0
namespace Go.Proofs.Ytbocdhibimcobaa
open Go.RowKit

/-- the program's count behind k steps: C(p, k), or 0 from the first step on that has no place -/
theorem bin_int {p k : Nat} : ((bin p k : Nat) : Int) * ((p : Int) - (k : Int)) = (((k + 1) * bin p (k + 1) : Nat) : Int) := by
  rcases Nat.lt_or_ge p k with h | h
  · rw [bin_gt p k h, bin_gt p (k + 1) (by omega)]; simp
  · rw [bin_step]
    rw [Int.natCast_mul, show ((p - k : Nat) : Int) = (p : Int) - (k : Int) by omega, Int.mul_comm]
theorem bin_bd {p k : Nat} (hp : p ≤ 40) (hk : k ≤ 11) : bin p k ≤ 419430400000000000 :=
  Nat.le_trans (bin_le_pow k p hp) (Nat.le_trans (Nat.pow_le_pow_right (by decide) hk) (by decide))
theorem bin_bd10 {p k : Nat} (hp : p ≤ 40) (hk : k ≤ 10) : bin p k ≤ 10485760000000000 :=
  Nat.le_trans (bin_le_pow k p hp) (Nat.le_trans (Nat.pow_le_pow_right (by decide) hk) (by decide))

set_option maxRecDepth 20000 in
set_option maxHeartbeats 2000000 in
theorem waysBehind_any (n g m : Nat) (w : World) (hn1 : 1 ≤ n) (hg : g + 1 ≤ n) (hn : n ≤ 40) (hm : m ≤ 10) :
    Calls Try.prog 74 #[.int .i64 n, .int .i64 g, .int .i64 m] w fun e w' => e = .returned (.int .i64 ((bin (n - 1 - g) m : Nat) : Int)) ∧ w = w' := by
  obtain ⟨p, hp⟩ : ∃ p, p = n - 1 - g := ⟨_, rfl⟩
  have ep : (n : Int) - 1 - (g : Int) = (p : Int) := by omega
  have hp40 : p ≤ 40 := by omega
  rw [← hp]
  have HB := Lib.hid fun k (hk : k ≤ 10) => bin_bd10 hp40 hk
  have HI := Lib.hid fun k => bin_int (p := p) (k := k)
  have HZ := Lib.hid (bin_zero p)
  clear hp
  go_enter Try.func74, Try.ntmps74
  go_wp2
  clear ep
  go_loop [8, 15] (fun v i => ∃ k : Nat, k ≤ m ∧ i = .int .i64 (k : Int) ∧ v = .int .i64 ((bin p k : Nat) : Int)) (fun _ i => m - (intOf i).toNat)
  case atStart => exact ⟨0, Nat.zero_le _, rfl, by rw [HZ.out]; rfl⟩
  case round =>
    obtain ⟨k, hk, rfl, rfl⟩ := hrel
    by_cases hlt : k < m
    · have h1 := HB.out k (by omega)
      have h2 := HB.out (k + 1) (by omega)
      have h3 := HI.out k
      have h4 : (k + 1) * bin p (k + 1) ≤ 10 * 10485760000000000 := Nat.mul_le_mul (by omega) h2
      have h5 : ((((k + 1) * bin p (k + 1) : Nat) : Int)) / ((k : Int) + 1) = ((bin p (k + 1) : Nat) : Int) := by
        rw [show (k : Int) + 1 = ((k + 1 : Nat) : Int) by omega, ← Int.natCast_ediv, Nat.mul_div_cancel_left _ (by omega)]
      obtain ⟨b, hb⟩ : ∃ b, b = bin p k := ⟨_, rfl⟩
      obtain ⟨c, hc⟩ : ∃ c, c = (k + 1) * bin p (k + 1) := ⟨_, rfl⟩
      have HN : Hid (((bin p (k + 1) : Nat) : Int) = (c : Int) / ((k : Int) + 1)) := Lib.hid (by rw [hc]; exact h5.symm)
      obtain ⟨d, hd⟩ : ∃ d, d = bin p (k + 1) := ⟨_, rfl⟩
      rw [← hb] at h1 h3 ⊢
      rw [← hc] at h3 h4 h5
      rw [← hd] at h2 h5 HN
      have HD := Lib.hid hd
      have t5 : ((c : Int)).tdiv ((k : Int) + 1) = (d : Int) := by rw [Int.tdiv_eq_ediv_of_nonneg (by omega), h5]
      have yz : ((k : Int) + 1 == 0) = false := by rw [beq_eq_false_iff_ne]; omega
      have y0' : (0 : Int) < (k : Int) + 1 := by omega
      have y1' : (1 : Int) ≤ (k : Int) + 1 := by omega
      have wmul : IntKind.i64.wrap ((b : Int) * ((p : Int) - (k : Int))) = (c : Int) := by rw [h3, IntKind.wrap_i64]; omega
      have l1 : -9223372036854775808 ≤ (b : Int) * ((p : Int) - (k : Int)) := by omega
      have l2 : (b : Int) * ((p : Int) - (k : Int)) ≤ 9223372036854775807 := by omega
      clear hb hc hd
      go_wp2
      rw [HD.out]
      go_round
      case rel => exact ⟨k + 1, by omega, by go_num, rfl⟩
      case measure => simp [intOf]; omega
    · obtain rfl : k = m := by omega
      go_wp2
      go_ret
      exact ⟨rfl, rfl⟩
end Go.Proofs.Ytbocdhibimcobaa
