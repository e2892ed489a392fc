/- In how many ways parts make so many boards: 'spec.gaWays'. No condition but the numbers' sizes. -/
import Derived.Test.YtbocdhibimcobaaGates
import Derived.Test.YtbocdhibimcobaaRowArr
import Derived.Test.YtbocdhibimcobaaWaysMath
import Derived.RegionTactic
namespace Go.Proofs.Ytbocdhibimcobaa
open Go.RowKit

theorem sumR_bd {most k a d : Nat} (ha : a ≤ 40) (hk : k ≤ 10) (_ : d ≤ a) : sumR (waysF most k) (a - d) a ≤ 419430400000000000 := by
  have h1 := sumR_le (F := waysF most k) (lo := a - d) (hi := a) (M := 40 ^ k) fun i _ h2 => waysF_le most k i (by omega)
  have h2 : (a - (a - d)) * 40 ^ k ≤ 40 * 40 ^ 10 := Nat.mul_le_mul (by omega) (Nat.pow_le_pow_right (by decide) hk)
  have h3 : 40 * 40 ^ 10 = 419430400000000000 := by decide
  omega
def wayI (most k i : Nat) : Int := (waysF most k i : Int)
/-- the row of the next count, up to a -/
def wayJ (most k a i : Nat) : Int := if i < a then wayI most (k + 1) i else 0
/-- .. and within the place a, the last d numbers summed -/
def wayX (most k a d i : Nat) : Int := if i < a then wayI most (k + 1) i else if i = a then ((sumR (waysF most k) (a - d) a : Nat) : Int) else 0
theorem wayX_start (most k a i : Nat) : wayJ most k a i = wayX most k a 0 i := by
  unfold wayJ wayX
  split
  · rfl
  · split
    · rw [sumR_none _ (by omega)]; rfl
    · rfl
theorem wayX_at (most k a d : Nat) : wayX most k a d a = ((sumR (waysF most k) (a - d) a : Nat) : Int) := by
  unfold wayX; rw [if_neg (by omega), if_pos rfl]
theorem wayX_set {most k a d : Nat} (h : d + 1 ≤ a) (i : Nat) : (if i = a then ((sumR (waysF most k) (a - d) a : Nat) : Int) + wayI most k (a - (d + 1)) else wayX most k a d i) = wayX most k a (d + 1) i := by
  unfold wayX
  by_cases e : i = a
  · subst e
    rw [if_pos rfl, if_neg (by omega), if_pos rfl, sumR_cons _ (show i - (d + 1) < i by omega), show i - (d + 1) + 1 = i - d by omega]
    unfold wayI
    omega
  · rw [if_neg e]
    by_cases h2 : i < a
    · rw [if_pos h2, if_pos h2]
    · rw [if_neg h2, if_neg h2, if_neg e, if_neg e]
theorem wayX_end {most k a d : Nat} (h : d ≤ most ∧ d ≤ a) (h2 : ¬ (d + 1 ≤ most ∧ d + 1 ≤ a)) (i : Nat) : wayX most k a d i = wayJ most k (a + 1) i := by
  unfold wayX wayJ
  by_cases e : i = a
  · subst e
    rw [if_neg (by omega), if_pos rfl, if_pos (by omega)]
    unfold wayI
    rw [waysF_succ, show i - d = i - most by omega]
  · by_cases h3 : i < a
    · rw [if_pos h3, if_pos (by omega)]
    · rw [if_neg h3, if_neg e, if_neg (by omega)]
theorem wayJ_end (most k n i : Nat) (h : i ≤ n) : wayJ most k (n + 1) i = wayI most (k + 1) i := by unfold wayJ; rw [if_pos (by omega)]
theorem wayJ_one (most k i : Nat) : (0 : Int) = wayJ most k 1 i := by
  unfold wayJ
  split
  · next h =>
    obtain rfl : i = 0 := by omega
    unfold wayI
    rw [waysF_none]; rfl
  · rfl
theorem wayI_zero (most i : Nat) : (if i = 0 then (1 : Int) else 0) = wayI most 0 i := by
  unfold wayI
  rw [waysF_zero]
  split <;> rfl
theorem grown_none {w w' : World} (h : w.grownBy w' none) : Below w.heap.size w w' := (Below.refl _ _).grown h (Nat.le_refl _) (fun k hk => by cases hk)

set_option maxRecDepth 100000 in
set_option maxHeartbeats 8000000 in
theorem gaWays_any (n m most : Nat) (w : World) (hn : n ≤ 40) (hm : m ≤ 10) (hmo : most ≤ 40) :
    Calls Try.prog 73 #[.int .i64 n, .int .i64 m, .int .i64 most] w fun e w' => e = .returned (.int .i64 ((waysF most (m + 1) n : Nat) : Int)) ∧ Below w.heap.size w w' := by
  obtain ⟨i0, hi, hz0, hz1, hz2⟩ := info_parts info_int
  have n0 : (0 : Int) ≤ (n : Int) := by omega
  go_enter Try.func73, Try.ntmps73
  go_wp2_with (at_make; refine wpList_make_full _ rfl (.tmp 13) (.tmp 13) _ rfl w.heap.size 3 i0 _ 1 Try.underlying22 hi hz0 hz1 .i64 .i64 _ _ (n + 1) rfl rfl rfl rfl (by rw [hz2]; omega) (by unfold maxLen; omega) (Nat.le_refl _) ?_; intro w1 hown hgrow; have HW1 := Lib.hid (RowIs.made hown); have c0 := HW1.out.cell 0 (Nat.succ_pos n); have f0 := HW1.out.frozen 0)
  have HB1 : Hid (Below w.heap.size w w1) := Lib.hid (grown_none hgrow)
  clear hown hgrow
  have HW0 : Hid (RowIs (w1.setCell ⟨w.heap.size, 0, none⟩ (.int .i64 1)) 3 w.heap.size w.heap.size (n + 1) (wayI most 0)) := Lib.hid ((HW1.out.store 0 1).congr fun i _ => wayI_zero most i)
  have HB0 := Lib.hid (below_store HB1.out (Nat.le_refl _) 0 (.int .i64 1))
  go_wp2
  go_loopw [7, 8] (fun u v wr => ∃ k g : Nat, k ≤ m + 1 ∧ v = .int .i64 (k : Int) ∧ u = .slice (some ⟨g, 0, none⟩) (n + 1) (n + 1) ∧ RowIs wr 3 w.heap.size g (n + 1) (wayI most k) ∧ Below w.heap.size w wr) (fun _ v _ => m + 1 - (intOf v).toNat)
  case atStart => exact ⟨0, w.heap.size, Nat.zero_le _, rfl, rfl, HW0.out, HB0.out⟩
  case round =>
    clear HW0 HB0 HW1 HB1 c0 f0
    obtain ⟨k, g, hk, rfl, rfl, hrow, hb⟩ := hrel
    have HRO := Lib.hid hrow
    have HBL := Lib.hid hb
    clear hrow hb
    by_cases hkm : k ≤ m
    · have HGL := Lib.hid HRO.out.lt
      go_wp2_with (at_make; refine wpList_make_full _ rfl (.tmp 23) (.tmp 23) _ rfl w.heap.size 3 i0 _ 1 Try.underlying22 hi hz0 hz1 .i64 .i64 _ _ (n + 1) rfl rfl rfl rfl (by rw [hz2]; omega) (by unfold maxLen; omega) HBL.out.size ?_; intro w1 hown hgrow)
      have hgw := HGL.out
      obtain ⟨gn, hgn⟩ : ∃ gn, gn = wr.heap.size := ⟨_, rfl⟩
      rw [← hgn] at hown hgw ⊢
      have hgg : g ≠ gn := by omega
      have hgb : w.heap.size ≤ gn := by have := HBL.out.size; omega
      have HN0 : Hid (RowIs w1 3 w.heap.size gn (n + 1) (wayJ most k 1)) := Lib.hid ((RowIs.made hown).congr fun i _ => wayJ_one most k i)
      have hb1 := grown_none hgrow
      have HG0 := Lib.hid (HRO.out.below hb1)
      have HB1 := Lib.hid (below_next HBL.out hb1)
      clear hown hgrow hb1 hgn HRO HBL hgw HGL
      go_wp2
      go_loopw [10] (fun v wr => ∃ a : Nat, 1 ≤ a ∧ a ≤ n + 1 ∧ v = .int .i64 (a : Int) ∧ RowIs wr 3 w.heap.size gn (n + 1) (wayJ most k a) ∧ RowIs wr 3 w.heap.size g (n + 1) (wayI most k) ∧ Below w.heap.size w wr) (fun v _ => n + 1 - (intOf v).toNat)
      case atStart => exact ⟨1, Nat.le_refl _, by omega, rfl, HN0.out, HG0.out, HB1.out⟩
      case round =>
        clear HN0 HG0 HB1
        obtain ⟨a, ha1, ha, rfl, hrn, hrx, hbx⟩ := hrel
        have HRN := Lib.hid hrn
        have HRX := Lib.hid hrx
        have HBX := Lib.hid hbx
        clear hrn hrx hbx
        by_cases han : a ≤ n
        · have HRN0 := Lib.hid (HRN.out.congr fun i _ => wayX_start most k a i)
          clear HRN
          go_wp2
          go_loopw [11] (fun v wr => ∃ d : Nat, d ≤ most ∧ d ≤ a ∧ v = .int .i64 ((d : Int) + 1) ∧ RowIs wr 3 w.heap.size gn (n + 1) (wayX most k a d) ∧ RowIs wr 3 w.heap.size g (n + 1) (wayI most k) ∧ Below w.heap.size w wr) (fun v _ => n + 2 - (intOf v).toNat)
          case atStart => exact ⟨0, Nat.zero_le _, Nat.zero_le _, rfl, HRN0.out, HRX.out, HBX.out⟩
          case round =>
            clear HRN0 HRX HBX
            obtain ⟨d, hd1, hd2, rfl, hrn, hrx, hbx⟩ := hrel
            have HRN := Lib.hid hrn
            have HRX := Lib.hid hrx
            have HBX := Lib.hid hbx
            clear hrn hrx hbx
            by_cases hc1 : (d : Int) + 1 ≤ (most : Int)
            · by_cases hc2 : (d : Int) + 1 ≤ (a : Int)
              · have x1 := HRN.out.cell a (by omega)
                have y1 := HRX.out.cell (a - (d + 1)) (by omega)
                have fz := HRN.out.frozen a
                rw [wayX_at] at x1
                have bx := sumR_bd (most := most) (k := k) (a := a) (d := d) (by omega) (by omega) (by omega)
                have by_ := waysF_bd most k (a - (d + 1)) (by omega) (by omega)
                have HST : Hid (∀ q, RowIs ((wr.drewN q).setCell ⟨gn, a, none⟩ (.int .i64 (((sumR (waysF most k) (a - d) a : Nat) : Int) + wayI most k (a - (d + 1))))) 3 w.heap.size gn (n + 1) (wayX most k a (d + 1)) ∧ RowIs ((wr.drewN q).setCell ⟨gn, a, none⟩ (.int .i64 (((sumR (waysF most k) (a - d) a : Nat) : Int) + wayI most k (a - (d + 1))))) 3 w.heap.size g (n + 1) (wayI most k) ∧ Below w.heap.size w ((wr.drewN q).setCell ⟨gn, a, none⟩ (.int .i64 (((sumR (waysF most k) (a - d) a : Nat) : Int) + wayI most k (a - (d + 1)))))) := Lib.hid fun q => ⟨((HRN.out.drewN q).store a _).congr fun i _ => wayX_set (by omega) i, (HRX.out.drewN q).far hgg a _, below_store (below_drewN HBX.out q) hgb a _⟩
                unfold wayI at y1 HST
                obtain ⟨x, hx⟩ : ∃ x, x = sumR (waysF most k) (a - d) a := ⟨_, rfl⟩
                obtain ⟨y, hy⟩ : ∃ y, y = waysF most k (a - (d + 1)) := ⟨_, rfl⟩
                rw [← hx] at x1 bx HST
                rw [← hy] at y1 by_ HST
                obtain ⟨p, hp⟩ : ∃ p : Nat, a - (d + 1) = p := ⟨_, rfl⟩
                rw [hp] at y1
                have ep : (a : Int) - ((d : Int) + 1) = (p : Int) := by omega
                have wep : IntKind.i64.wrap ((a : Int) - ((d : Int) + 1)) = (p : Int) := by rw [IntKind.wrap_i64]; omega
                have wxy : IntKind.i64.wrap ((x : Int) + (y : Int)) = (x : Int) + (y : Int) := by rw [IntKind.wrap_i64]; omega
                have ia0 : (0 : Int) ≤ (a : Int) := by omega
                have ia1 : (a : Int) < (n : Int) + 1 := by omega
                have ip0 : (0 : Int) ≤ (p : Int) := by omega
                have ip1 : (p : Int) < (n : Int) + 1 := by omega
                clear hx hy hp HRN HRX HBX ep
                go_wp2
                go_region
                all_goals
                  go_wp2
                  go_roundw
                  case rel => exact ⟨d + 1, by omega, by omega, by go_num, (HST.out 1).1, (HST.out 1).2.1, (HST.out 1).2.2⟩
                  case measure => simp [intOf]; omega
              · have HNX := Lib.hid (HRN.out.congr fun i _ => wayX_end (most := most) (k := k) (a := a) (d := d) ⟨hd1, hd2⟩ (by omega) i)
                go_wp2
                go_roundw
                case rel => exact ⟨a + 1, by omega, by omega, by go_num, HNX.out, HRX.out, HBX.out⟩
                case measure => simp [intOf]; omega
            · have HNX := Lib.hid (HRN.out.congr fun i _ => wayX_end (most := most) (k := k) (a := a) (d := d) ⟨hd1, hd2⟩ (by omega) i)
              go_wp2
              go_roundw
              case rel => exact ⟨a + 1, by omega, by omega, by go_num, HNX.out, HRX.out, HBX.out⟩
              case measure => simp [intOf]; omega
        · obtain rfl : a = n + 1 := by omega
          have HNX := Lib.hid (HRN.out.congr fun i hi => wayJ_end most k n i (by omega))
          go_wp2
          go_roundw
          case rel => exact ⟨k + 1, gn, by omega, by go_num, rfl, HNX.out, HBX.out⟩
          case measure => simp [intOf]; omega
    · obtain rfl : k = m + 1 := by omega
      have x1 := HRO.out.cell n (by omega)
      have in1 : (n : Int) < (n : Int) + 1 := by omega
      go_wp2
      go_ret
      exact ⟨rfl, HBL.out⟩
end Go.Proofs.Ytbocdhibimcobaa
