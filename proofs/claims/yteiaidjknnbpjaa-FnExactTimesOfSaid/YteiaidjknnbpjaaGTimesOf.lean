/- FnExactTimesOf: the law's walk. No condition but the arguments' lengths. -/
import Derived.Test.YteiaidjknnbpjaaOpenI
import Derived.Test.YteiaidjknnbpjaaTimes
namespace Go.Proofs.Yteiaidjknnbpjaa
open Go.RowKit

set_option maxRecDepth 100000 in
set_option maxHeartbeats 8000000 in
theorem lawTimesOf_walk (A0 : Option Addr) (c0 : Nat) (L0 : List Int) (A1 : Option Addr) (c1 : Nat) (L1 : List Int) (A2 : Option Addr) (c2 : Nat) (L2 : List Int) (w : World) (l0 : L0.length ≤ maxLen) (f0 : WfL L0) (q0 : L0.length ≤ c0) (h0 : IntSl w A0 L0) (l1 : L1.length ≤ maxLen) (f1 : WfL L1) (q1 : L1.length ≤ c1) (h1 : IntSl w A1 L1) (l2 : L2.length ≤ maxLen) (f2 : WfL L2) (q2 : L2.length ≤ c2) (h2 : IntSl w A2 L2) :
    Calls Try.prog 13 #[.slice A0 L0.length c0, .slice A1 L1.length c1, .slice A2 L2.length c2] w fun e w' => e = .returned (.bool true) ∧ Below w.heap.size w w' := by
  have _ := l0
  have _ := f0
  have _ := q0
  have _ := h0
  have _ := l1
  have _ := f1
  have _ := q1
  have _ := h1
  have _ := l2
  have _ := f2
  have _ := q2
  have _ := h2
  unfold maxLen at l0 l1 l2
  by_cases g0 : ¬ L0.length ≤ 1048576
  · go_enter Try.func13, Try.ntmps13
    go_wp2
    go_ret
    exact ⟨rfl, Below.refl _ _⟩
  rw [Decidable.not_not] at g0
  by_cases g1 : ¬ L1.length ≤ 1048576
  · go_enter Try.func13, Try.ntmps13
    go_wp2
    go_ret
    exact ⟨rfl, Below.refl _ _⟩
  rw [Decidable.not_not] at g1
  by_cases g2 : ¬ L2.length ≤ 1048576
  · go_enter Try.func13, Try.ntmps13
    go_wp2
    go_ret
    exact ⟨rfl, Below.refl _ _⟩
  rw [Decidable.not_not] at g2
  obtain ⟨R0, hR0⟩ : ∃ R, R = (resT L0 L1 L2) := ⟨_, rfl⟩
  obtain ⟨R1, hR1⟩ : ∃ R, R = (okT L0 L1 L2) := ⟨_, rfl⟩
  have HTO0 := Lib.hid fun W (hW : Below w.heap.size w W) => toIntS_any A0 c0 L0 W g0 (h0.below hW)
  have HTO1 := Lib.hid fun W (hW : Below w.heap.size w W) => toIntS_any A1 c1 L1 W g1 (h1.below hW)
  have HTO2 := Lib.hid fun W (hW : Below w.heap.size w W) => toIntS_any A2 c2 L2 W g2 (h2.below hW)
  have HS := Lib.hid fun (A0 : Option Addr) (A1 : Option Addr) (A2 : Option Addr) (W : World) (h0 : IntSl W A0 L0) (h1 : IntSl W A1 L1) (h2 : IntSl W A2 L2) => specTimesOf_any A0 L0.length L0 A1 L1.length L1 A2 L2.length L2 W g0 f0 (Nat.le_refl _) h0 g1 f1 (Nat.le_refl _) h1 g2 f2 (Nat.le_refl _) h2
  have HI := Lib.hid fun (A0 : Option Addr) (A1 : Option Addr) (A2 : Option Addr) (W : World) (h0 : IntSl W A0 L0) (h1 : IntSl W A1 L1) (h2 : IntSl W A2 L2) => implTimesOf_any A0 L0.length L0 A1 L1.length L1 A2 L2.length L2 W g0 f0 (Nat.le_refl _) h0 g1 f1 (Nat.le_refl _) h1 g2 f2 (Nat.le_refl _) h2
  have hZ0 : (resT L0 L1 L2).length ≤ 1048576 := resT_len L0 L1 L2
  rw [← hR0, ← hR1] at HS HI
  rw [← hR0] at hZ0
  clear hR0 hR1
  obtain ⟨Q0, hQ0⟩ : ∃ Q : Int, Q = ((1 + L0.length : Nat) : Int) := ⟨_, rfl⟩
  have nQ0 : ¬ Q0 < 0 := by omega
  obtain ⟨Q1, hQ1⟩ : ∃ Q : Int, Q = ((1 + L0.length + L1.length : Nat) : Int) := ⟨_, rfl⟩
  have nQ1 : ¬ Q1 < 0 := by omega
  obtain ⟨Q2, hQ2⟩ : ∃ Q : Int, Q = ((1 + L0.length + L1.length + L2.length : Nat) : Int) := ⟨_, rfl⟩
  have nQ2 : ¬ Q2 < 0 := by omega
  obtain ⟨Q3, hQ3⟩ : ∃ Q : Int, Q = ((1 + R0.length : Nat) : Int) := ⟨_, rfl⟩
  have nQ3 : ¬ Q3 < 0 := by omega
  have HMK0 : Hid (∀ (e0 : TypeId) (b : Nat) (v : Value) (W : World), OwnInts W b e0 v L0 → Calls Try.prog 58 #[v, .int .i64 1] W fun e w' => e = .returned (.int .i64 Q0) ∧ w'.ownsRow b e0 1 v L0.length (marksI (1) L0.length) ∧ W.grownBy w' v.ownBlock) := Lib.hid fun e0 b v W h => by
    rw [hQ0]; exact markInts_any e0 b L0.length v L0 W (1) (by have := g0; have := g1; have := g2; have := hZ0; omega) (by have := g0; have := g1; have := g2; have := hZ0; omega) rfl h
  have HMK1 : Hid (∀ (e0 : TypeId) (b : Nat) (v : Value) (W : World), OwnInts W b e0 v L1 → Calls Try.prog 58 #[v, .int .i64 Q0] W fun e w' => e = .returned (.int .i64 Q1) ∧ w'.ownsRow b e0 1 v L1.length (marksI (1 + L0.length) L1.length) ∧ W.grownBy w' v.ownBlock) := Lib.hid fun e0 b v W h => by
    rw [hQ0, hQ1]; exact markInts_any e0 b L1.length v L1 W (1 + L0.length) (by have := g0; have := g1; have := g2; have := hZ0; omega) (by have := g0; have := g1; have := g2; have := hZ0; omega) rfl h
  have HMK2 : Hid (∀ (e0 : TypeId) (b : Nat) (v : Value) (W : World), OwnInts W b e0 v L2 → Calls Try.prog 58 #[v, .int .i64 Q1] W fun e w' => e = .returned (.int .i64 Q2) ∧ w'.ownsRow b e0 1 v L2.length (marksI (1 + L0.length + L1.length) L2.length) ∧ W.grownBy w' v.ownBlock) := Lib.hid fun e0 b v W h => by
    rw [hQ1, hQ2]; exact markInts_any e0 b L2.length v L2 W (1 + L0.length + L1.length) (by have := g0; have := g1; have := g2; have := hZ0; omega) (by have := g0; have := g1; have := g2; have := hZ0; omega) rfl h
  have HMK3 : Hid (∀ (e0 : TypeId) (b : Nat) (v : Value) (W : World), OwnInts W b e0 v R0 → Calls Try.prog 58 #[v, .int .i64 1] W fun e w' => e = .returned (.int .i64 Q3) ∧ w'.ownsRow b e0 1 v R0.length (marksI (1) R0.length) ∧ W.grownBy w' v.ownBlock) := Lib.hid fun e0 b v W h => by
    rw [hQ3]; exact markInts_any e0 b R0.length v R0 W (1) (by have := g0; have := g1; have := g2; have := hZ0; omega) (by have := g0; have := g1; have := g2; have := hZ0; omega) rfl h
  have HHK4 : Hid (∀ (e0 : TypeId) (b : Nat) (v : Value) (W : World), W.ownsRow b e0 1 v R0.length (marksI (1) R0.length) → Calls Try.prog 59 #[v, .int .i64 1] W fun e w' => e = .returned (.int .i64 Q3) ∧ W = w') := Lib.hid fun e0 b v W h => by
    rw [hQ3]; exact heldInts_any e0 b R0.length v W (1) (by have := g0; have := g1; have := g2; have := hZ0; omega) (by have := g0; have := g1; have := g2; have := hZ0; omega) h
  have GL0 := Lib.hid g0
  have GL1 := Lib.hid g1
  have GL2 := Lib.hid g2
  have GR0 := Lib.hid hZ0
  clear f0 q0 h0 f1 q1 h1 f2 q2 h2 hQ0 hQ1 hQ2 hQ3
  have B0 := Lib.hid (Below.refl w.heap.size w)
  go_enter Try.func13, Try.ntmps13
  go_wp2_with fail
  refine (HTO0.out w B0.out).mono ?_
  rintro e w_1 ⟨rfl, hown, hb⟩
  have Z1 : Hid (w.heap.size ≤ w_1.heap.size) := Lib.hid hb.size
  have D_r0 := Lib.hid (OwnInts.lt hown)
  have O_r0_1 := Lib.hid hown
  have B1 := Lib.hid (below_next B0.out hb)
  clear hown hb 
  go_wp2_with fail
  refine (HTO1.out w_1 B1.out).mono ?_
  rintro e w_2 ⟨rfl, hown, hb⟩
  have Z2 : Hid (w_1.heap.size ≤ w_2.heap.size) := Lib.hid hb.size
  have D_r1 := Lib.hid (OwnInts.lt hown)
  have O_r0_2 := Lib.hid (own_below O_r0_1.out hb)
  have O_r1_2 := Lib.hid hown
  have B2 := Lib.hid (below_next B1.out hb)
  clear hown hb O_r0_1
  go_wp2_with fail
  refine (HTO2.out w_2 B2.out).mono ?_
  rintro e w_3 ⟨rfl, hown, hb⟩
  have Z3 : Hid (w_2.heap.size ≤ w_3.heap.size) := Lib.hid hb.size
  have D_r2 := Lib.hid (OwnInts.lt hown)
  have O_r0_3 := Lib.hid (own_below O_r0_2.out hb)
  have O_r1_3 := Lib.hid (own_below O_r1_2.out hb)
  have O_r2_3 := Lib.hid hown
  have B3 := Lib.hid (below_next B2.out hb)
  clear hown hb O_r0_2 O_r1_2
  go_wp2_with fail
  refine (HS.out _ _ _ w_3 (IntSl.of_own O_r0_3.out) (IntSl.of_own O_r1_3.out) (IntSl.of_own O_r2_3.out)).mono ?_
  rintro e w_4 ⟨v_r3_0, rfl, hown0, hb⟩
  have Z4 : Hid (w_3.heap.size ≤ w_4.heap.size) := Lib.hid hb.size
  have O_r0_4 := Lib.hid (own_below O_r0_3.out hb)
  have O_r1_4 := Lib.hid (own_below O_r1_3.out hb)
  have O_r2_4 := Lib.hid (own_below O_r2_3.out hb)
  have D_r3_0 := Lib.hid (OwnInts.lt hown0)
  have O_r3_0_4 := Lib.hid hown0
  have B4 := Lib.hid (below_next B3.out hb)
  clear hb hown0 O_r0_3 O_r1_3 O_r2_3
  clear O_r0_4 O_r1_4 O_r2_4
  go_wp2_with fail
  refine (HTO0.out w_4 B4.out).mono ?_
  rintro e w_5 ⟨rfl, hown, hb⟩
  have Z5 : Hid (w_4.heap.size ≤ w_5.heap.size) := Lib.hid hb.size
  have D_r4 := Lib.hid (OwnInts.lt hown)
  have O_r3_0_5 := Lib.hid (own_below O_r3_0_4.out hb)
  have O_r4_5 := Lib.hid hown
  have B5 := Lib.hid (below_next B4.out hb)
  clear hown hb O_r3_0_4
  go_wp2_with fail
  refine (HTO1.out w_5 B5.out).mono ?_
  rintro e w_6 ⟨rfl, hown, hb⟩
  have Z6 : Hid (w_5.heap.size ≤ w_6.heap.size) := Lib.hid hb.size
  have D_r5 := Lib.hid (OwnInts.lt hown)
  have O_r3_0_6 := Lib.hid (own_below O_r3_0_5.out hb)
  have O_r4_6 := Lib.hid (own_below O_r4_5.out hb)
  have O_r5_6 := Lib.hid hown
  have B6 := Lib.hid (below_next B5.out hb)
  clear hown hb O_r3_0_5 O_r4_5
  go_wp2_with fail
  refine (HTO2.out w_6 B6.out).mono ?_
  rintro e w_7 ⟨rfl, hown, hb⟩
  have Z7 : Hid (w_6.heap.size ≤ w_7.heap.size) := Lib.hid hb.size
  have D_r6 := Lib.hid (OwnInts.lt hown)
  have O_r3_0_7 := Lib.hid (own_below O_r3_0_6.out hb)
  have O_r4_7 := Lib.hid (own_below O_r4_6.out hb)
  have O_r5_7 := Lib.hid (own_below O_r5_6.out hb)
  have O_r6_7 := Lib.hid hown
  have B7 := Lib.hid (below_next B6.out hb)
  clear hown hb O_r3_0_6 O_r4_6 O_r5_6
  go_wp2_with fail
  refine (HI.out _ _ _ w_7 (IntSl.of_own O_r4_7.out) (IntSl.of_own O_r5_7.out) (IntSl.of_own O_r6_7.out)).mono ?_
  rintro e w_8 ⟨v_r7_0, rfl, hown0, hb⟩
  have Z8 : Hid (w_7.heap.size ≤ w_8.heap.size) := Lib.hid hb.size
  have O_r3_0_8 := Lib.hid (own_below O_r3_0_7.out hb)
  have O_r4_8 := Lib.hid (own_below O_r4_7.out hb)
  have O_r5_8 := Lib.hid (own_below O_r5_7.out hb)
  have O_r6_8 := Lib.hid (own_below O_r6_7.out hb)
  have D_r7_0 := Lib.hid (OwnInts.lt hown0)
  have O_r7_0_8 := Lib.hid hown0
  have B8 := Lib.hid (below_next B7.out hb)
  clear hb hown0 O_r3_0_7 O_r4_7 O_r5_7 O_r6_7
  go_wp2_with fail
  refine (eqInts_own GR0.out O_r7_0_8.out O_r3_0_8.out).mono ?_
  rintro e w_9 ⟨rfl, hb⟩
  have Z9 : Hid (w_8.heap.size ≤ w_9.heap.size) := Lib.hid hb.size
  have O_r3_0_9 := Lib.hid (own_below O_r3_0_8.out hb)
  have O_r4_9 := Lib.hid (own_below O_r4_8.out hb)
  have O_r5_9 := Lib.hid (own_below O_r5_8.out hb)
  have O_r6_9 := Lib.hid (own_below O_r6_8.out hb)
  have O_r7_0_9 := Lib.hid (own_below O_r7_0_8.out hb)
  have B9 := Lib.hid (below_next B8.out hb)
  clear hb O_r3_0_8 O_r4_8 O_r5_8 O_r6_8 O_r7_0_8
  go_wp2_with fail
  refine (HTO0.out w_9 B9.out).mono ?_
  rintro e w_10 ⟨rfl, hown, hb⟩
  have Z10 : Hid (w_9.heap.size ≤ w_10.heap.size) := Lib.hid hb.size
  have D_r9 := Lib.hid (OwnInts.lt hown)
  have O_r3_0_10 := Lib.hid (own_below O_r3_0_9.out hb)
  have O_r4_10 := Lib.hid (own_below O_r4_9.out hb)
  have O_r5_10 := Lib.hid (own_below O_r5_9.out hb)
  have O_r6_10 := Lib.hid (own_below O_r6_9.out hb)
  have O_r7_0_10 := Lib.hid (own_below O_r7_0_9.out hb)
  have O_r9_10 := Lib.hid hown
  have B10 := Lib.hid (below_next B9.out hb)
  clear hown hb O_r3_0_9 O_r4_9 O_r5_9 O_r6_9 O_r7_0_9
  go_wp2_with fail
  refine (eqInts_own GL0.out O_r4_10.out O_r9_10.out).mono ?_
  rintro e w_11 ⟨rfl, hb⟩
  have Z11 : Hid (w_10.heap.size ≤ w_11.heap.size) := Lib.hid hb.size
  have O_r3_0_11 := Lib.hid (own_below O_r3_0_10.out hb)
  have O_r4_11 := Lib.hid (own_below O_r4_10.out hb)
  have O_r5_11 := Lib.hid (own_below O_r5_10.out hb)
  have O_r6_11 := Lib.hid (own_below O_r6_10.out hb)
  have O_r7_0_11 := Lib.hid (own_below O_r7_0_10.out hb)
  have O_r9_11 := Lib.hid (own_below O_r9_10.out hb)
  have B11 := Lib.hid (below_next B10.out hb)
  clear hb O_r3_0_10 O_r4_10 O_r5_10 O_r6_10 O_r7_0_10 O_r9_10
  clear O_r9_11
  go_wp2_with fail
  refine (HTO1.out w_11 B11.out).mono ?_
  rintro e w_12 ⟨rfl, hown, hb⟩
  have Z12 : Hid (w_11.heap.size ≤ w_12.heap.size) := Lib.hid hb.size
  have D_r11 := Lib.hid (OwnInts.lt hown)
  have O_r3_0_12 := Lib.hid (own_below O_r3_0_11.out hb)
  have O_r4_12 := Lib.hid (own_below O_r4_11.out hb)
  have O_r5_12 := Lib.hid (own_below O_r5_11.out hb)
  have O_r6_12 := Lib.hid (own_below O_r6_11.out hb)
  have O_r7_0_12 := Lib.hid (own_below O_r7_0_11.out hb)
  have O_r11_12 := Lib.hid hown
  have B12 := Lib.hid (below_next B11.out hb)
  clear hown hb O_r3_0_11 O_r4_11 O_r5_11 O_r6_11 O_r7_0_11
  go_wp2_with fail
  refine (eqInts_own GL1.out O_r5_12.out O_r11_12.out).mono ?_
  rintro e w_13 ⟨rfl, hb⟩
  have Z13 : Hid (w_12.heap.size ≤ w_13.heap.size) := Lib.hid hb.size
  have O_r3_0_13 := Lib.hid (own_below O_r3_0_12.out hb)
  have O_r4_13 := Lib.hid (own_below O_r4_12.out hb)
  have O_r5_13 := Lib.hid (own_below O_r5_12.out hb)
  have O_r6_13 := Lib.hid (own_below O_r6_12.out hb)
  have O_r7_0_13 := Lib.hid (own_below O_r7_0_12.out hb)
  have O_r11_13 := Lib.hid (own_below O_r11_12.out hb)
  have B13 := Lib.hid (below_next B12.out hb)
  clear hb O_r3_0_12 O_r4_12 O_r5_12 O_r6_12 O_r7_0_12 O_r11_12
  clear O_r11_13
  go_wp2_with fail
  refine (HTO2.out w_13 B13.out).mono ?_
  rintro e w_14 ⟨rfl, hown, hb⟩
  have Z14 : Hid (w_13.heap.size ≤ w_14.heap.size) := Lib.hid hb.size
  have D_r13 := Lib.hid (OwnInts.lt hown)
  have O_r3_0_14 := Lib.hid (own_below O_r3_0_13.out hb)
  have O_r4_14 := Lib.hid (own_below O_r4_13.out hb)
  have O_r5_14 := Lib.hid (own_below O_r5_13.out hb)
  have O_r6_14 := Lib.hid (own_below O_r6_13.out hb)
  have O_r7_0_14 := Lib.hid (own_below O_r7_0_13.out hb)
  have O_r13_14 := Lib.hid hown
  have B14 := Lib.hid (below_next B13.out hb)
  clear hown hb O_r3_0_13 O_r4_13 O_r5_13 O_r6_13 O_r7_0_13
  go_wp2_with fail
  refine (eqInts_own GL2.out O_r6_14.out O_r13_14.out).mono ?_
  rintro e w_15 ⟨rfl, hb⟩
  have Z15 : Hid (w_14.heap.size ≤ w_15.heap.size) := Lib.hid hb.size
  have O_r3_0_15 := Lib.hid (own_below O_r3_0_14.out hb)
  have O_r4_15 := Lib.hid (own_below O_r4_14.out hb)
  have O_r5_15 := Lib.hid (own_below O_r5_14.out hb)
  have O_r6_15 := Lib.hid (own_below O_r6_14.out hb)
  have O_r7_0_15 := Lib.hid (own_below O_r7_0_14.out hb)
  have O_r13_15 := Lib.hid (own_below O_r13_14.out hb)
  have B15 := Lib.hid (below_next B14.out hb)
  clear hb O_r3_0_14 O_r4_14 O_r5_14 O_r6_14 O_r7_0_14 O_r13_14
  clear O_r13_15
  go_wp2_with fail
  refine (HMK0.out _ _ _ _ O_r4_15.out).mono ?_
  rintro e w_16 ⟨rfl, hown, hg⟩
  have Z16 : Hid (w_15.heap.size ≤ w_16.heap.size) := Lib.hid hg.size
  have O_r3_0_16 := Lib.hid (own_apart O_r3_0_15.out hg fun k hk e => by have h1 := D_r3_0.out k hk; have h2 := D_r4.out k e; have := Z1.out; have := Z2.out; have := Z3.out; have := Z4.out; have := Z5.out; have := Z6.out; have := Z7.out; have := Z8.out; have := Z9.out; have := Z10.out; have := Z11.out; have := Z12.out; have := Z13.out; have := Z14.out; have := Z15.out; omega)
  have O_r5_16 := Lib.hid (own_apart O_r5_15.out hg fun k hk e => by have h1 := D_r5.out k hk; have h2 := D_r4.out k e; have := Z1.out; have := Z2.out; have := Z3.out; have := Z4.out; have := Z5.out; have := Z6.out; have := Z7.out; have := Z8.out; have := Z9.out; have := Z10.out; have := Z11.out; have := Z12.out; have := Z13.out; have := Z14.out; have := Z15.out; omega)
  have O_r6_16 := Lib.hid (own_apart O_r6_15.out hg fun k hk e => by have h1 := D_r6.out k hk; have h2 := D_r4.out k e; have := Z1.out; have := Z2.out; have := Z3.out; have := Z4.out; have := Z5.out; have := Z6.out; have := Z7.out; have := Z8.out; have := Z9.out; have := Z10.out; have := Z11.out; have := Z12.out; have := Z13.out; have := Z14.out; have := Z15.out; omega)
  have O_r7_0_16 := Lib.hid (own_apart O_r7_0_15.out hg fun k hk e => by have h1 := D_r7_0.out k hk; have h2 := D_r4.out k e; have := Z1.out; have := Z2.out; have := Z3.out; have := Z4.out; have := Z5.out; have := Z6.out; have := Z7.out; have := Z8.out; have := Z9.out; have := Z10.out; have := Z11.out; have := Z12.out; have := Z13.out; have := Z14.out; have := Z15.out; omega)
  have B16 := Lib.hid (B15.out.grown hg B15.out.size fun k hk => by have h2 := D_r4.out k hk; have := Z1.out; have := Z2.out; have := Z3.out; have := Z4.out; have := Z5.out; have := Z6.out; have := Z7.out; have := Z8.out; have := Z9.out; have := Z10.out; have := Z11.out; have := Z12.out; have := Z13.out; have := Z14.out; have := Z15.out; omega)
  have O_r4_16 := Lib.hid hown
  clear hown hg O_r3_0_15 O_r4_15 O_r5_15 O_r6_15 O_r7_0_15
  clear O_r4_16
  go_wp2_with fail
  refine (HMK1.out _ _ _ _ O_r5_16.out).mono ?_
  rintro e w_17 ⟨rfl, hown, hg⟩
  have Z17 : Hid (w_16.heap.size ≤ w_17.heap.size) := Lib.hid hg.size
  have O_r3_0_17 := Lib.hid (own_apart O_r3_0_16.out hg fun k hk e => by have h1 := D_r3_0.out k hk; have h2 := D_r5.out k e; have := Z1.out; have := Z2.out; have := Z3.out; have := Z4.out; have := Z5.out; have := Z6.out; have := Z7.out; have := Z8.out; have := Z9.out; have := Z10.out; have := Z11.out; have := Z12.out; have := Z13.out; have := Z14.out; have := Z15.out; have := Z16.out; omega)
  have O_r6_17 := Lib.hid (own_apart O_r6_16.out hg fun k hk e => by have h1 := D_r6.out k hk; have h2 := D_r5.out k e; have := Z1.out; have := Z2.out; have := Z3.out; have := Z4.out; have := Z5.out; have := Z6.out; have := Z7.out; have := Z8.out; have := Z9.out; have := Z10.out; have := Z11.out; have := Z12.out; have := Z13.out; have := Z14.out; have := Z15.out; have := Z16.out; omega)
  have O_r7_0_17 := Lib.hid (own_apart O_r7_0_16.out hg fun k hk e => by have h1 := D_r7_0.out k hk; have h2 := D_r5.out k e; have := Z1.out; have := Z2.out; have := Z3.out; have := Z4.out; have := Z5.out; have := Z6.out; have := Z7.out; have := Z8.out; have := Z9.out; have := Z10.out; have := Z11.out; have := Z12.out; have := Z13.out; have := Z14.out; have := Z15.out; have := Z16.out; omega)
  have B17 := Lib.hid (B16.out.grown hg B16.out.size fun k hk => by have h2 := D_r5.out k hk; have := Z1.out; have := Z2.out; have := Z3.out; have := Z4.out; have := Z5.out; have := Z6.out; have := Z7.out; have := Z8.out; have := Z9.out; have := Z10.out; have := Z11.out; have := Z12.out; have := Z13.out; have := Z14.out; have := Z15.out; have := Z16.out; omega)
  have O_r5_17 := Lib.hid hown
  clear hown hg O_r3_0_16 O_r5_16 O_r6_16 O_r7_0_16
  clear O_r5_17
  go_wp2_with fail
  refine (HMK2.out _ _ _ _ O_r6_17.out).mono ?_
  rintro e w_18 ⟨rfl, hown, hg⟩
  have Z18 : Hid (w_17.heap.size ≤ w_18.heap.size) := Lib.hid hg.size
  have O_r3_0_18 := Lib.hid (own_apart O_r3_0_17.out hg fun k hk e => by have h1 := D_r3_0.out k hk; have h2 := D_r6.out k e; have := Z1.out; have := Z2.out; have := Z3.out; have := Z4.out; have := Z5.out; have := Z6.out; have := Z7.out; have := Z8.out; have := Z9.out; have := Z10.out; have := Z11.out; have := Z12.out; have := Z13.out; have := Z14.out; have := Z15.out; have := Z16.out; have := Z17.out; omega)
  have O_r7_0_18 := Lib.hid (own_apart O_r7_0_17.out hg fun k hk e => by have h1 := D_r7_0.out k hk; have h2 := D_r6.out k e; have := Z1.out; have := Z2.out; have := Z3.out; have := Z4.out; have := Z5.out; have := Z6.out; have := Z7.out; have := Z8.out; have := Z9.out; have := Z10.out; have := Z11.out; have := Z12.out; have := Z13.out; have := Z14.out; have := Z15.out; have := Z16.out; have := Z17.out; omega)
  have B18 := Lib.hid (B17.out.grown hg B17.out.size fun k hk => by have h2 := D_r6.out k hk; have := Z1.out; have := Z2.out; have := Z3.out; have := Z4.out; have := Z5.out; have := Z6.out; have := Z7.out; have := Z8.out; have := Z9.out; have := Z10.out; have := Z11.out; have := Z12.out; have := Z13.out; have := Z14.out; have := Z15.out; have := Z16.out; have := Z17.out; omega)
  have O_r6_18 := Lib.hid hown
  clear hown hg O_r3_0_17 O_r6_17 O_r7_0_17
  clear O_r6_18
  go_wp2_with fail
  refine (eqInts_own GR0.out O_r7_0_18.out O_r3_0_18.out).mono ?_
  rintro e w_19 ⟨rfl, hb⟩
  have Z19 : Hid (w_18.heap.size ≤ w_19.heap.size) := Lib.hid hb.size
  have O_r3_0_19 := Lib.hid (own_below O_r3_0_18.out hb)
  have O_r7_0_19 := Lib.hid (own_below O_r7_0_18.out hb)
  have B19 := Lib.hid (below_next B18.out hb)
  clear hb O_r3_0_18 O_r7_0_18
  go_wp2_with fail
  refine (HMK3.out _ _ _ _ O_r7_0_19.out).mono ?_
  rintro e w_20 ⟨rfl, hown, hg⟩
  have Z20 : Hid (w_19.heap.size ≤ w_20.heap.size) := Lib.hid hg.size
  have O_r3_0_20 := Lib.hid (own_apart O_r3_0_19.out hg fun k hk e => by have h1 := D_r3_0.out k hk; have h2 := D_r7_0.out k e; have := Z1.out; have := Z2.out; have := Z3.out; have := Z4.out; have := Z5.out; have := Z6.out; have := Z7.out; have := Z8.out; have := Z9.out; have := Z10.out; have := Z11.out; have := Z12.out; have := Z13.out; have := Z14.out; have := Z15.out; have := Z16.out; have := Z17.out; have := Z18.out; have := Z19.out; omega)
  have B20 := Lib.hid (B19.out.grown hg B19.out.size fun k hk => by have h2 := D_r7_0.out k hk; have := Z1.out; have := Z2.out; have := Z3.out; have := Z4.out; have := Z5.out; have := Z6.out; have := Z7.out; have := Z8.out; have := Z9.out; have := Z10.out; have := Z11.out; have := Z12.out; have := Z13.out; have := Z14.out; have := Z15.out; have := Z16.out; have := Z17.out; have := Z18.out; have := Z19.out; omega)
  have O_r7_0_20 := Lib.hid hown
  clear hown hg O_r3_0_19 O_r7_0_19
  go_wp2_with fail
  refine (HHK4.out _ _ _ _ O_r7_0_20.out).mono ?_
  rintro e w_21 ⟨rfl, rfl⟩
  go_wp2_with fail
  refine (HTO0.out w_20 B20.out).mono ?_
  rintro e w_21 ⟨rfl, hown, hb⟩
  have Z21 : Hid (w_20.heap.size ≤ w_21.heap.size) := Lib.hid hb.size
  have D_r21 := Lib.hid (OwnInts.lt hown)
  have O_r3_0_21 := Lib.hid (own_below O_r3_0_20.out hb)
  have O_r7_0_21 := Lib.hid (own_below O_r7_0_20.out hb)
  have O_r21_21 := Lib.hid hown
  have B21 := Lib.hid (below_next B20.out hb)
  clear hown hb O_r3_0_20 O_r7_0_20
  go_wp2_with fail
  refine (HTO1.out w_21 B21.out).mono ?_
  rintro e w_22 ⟨rfl, hown, hb⟩
  have Z22 : Hid (w_21.heap.size ≤ w_22.heap.size) := Lib.hid hb.size
  have D_r22 := Lib.hid (OwnInts.lt hown)
  have O_r3_0_22 := Lib.hid (own_below O_r3_0_21.out hb)
  have O_r7_0_22 := Lib.hid (own_below O_r7_0_21.out hb)
  have O_r21_22 := Lib.hid (own_below O_r21_21.out hb)
  have O_r22_22 := Lib.hid hown
  have B22 := Lib.hid (below_next B21.out hb)
  clear hown hb O_r3_0_21 O_r7_0_21 O_r21_21
  go_wp2_with fail
  refine (HTO2.out w_22 B22.out).mono ?_
  rintro e w_23 ⟨rfl, hown, hb⟩
  have Z23 : Hid (w_22.heap.size ≤ w_23.heap.size) := Lib.hid hb.size
  have D_r23 := Lib.hid (OwnInts.lt hown)
  have O_r3_0_23 := Lib.hid (own_below O_r3_0_22.out hb)
  have O_r7_0_23 := Lib.hid (own_below O_r7_0_22.out hb)
  have O_r21_23 := Lib.hid (own_below O_r21_22.out hb)
  have O_r22_23 := Lib.hid (own_below O_r22_22.out hb)
  have O_r23_23 := Lib.hid hown
  have B23 := Lib.hid (below_next B22.out hb)
  clear hown hb O_r3_0_22 O_r7_0_22 O_r21_22 O_r22_22
  go_wp2_with fail
  refine (HI.out _ _ _ w_23 (IntSl.of_own O_r21_23.out) (IntSl.of_own O_r22_23.out) (IntSl.of_own O_r23_23.out)).mono ?_
  rintro e w_24 ⟨v_r24_0, rfl, hown0, hb⟩
  have Z24 : Hid (w_23.heap.size ≤ w_24.heap.size) := Lib.hid hb.size
  have O_r3_0_24 := Lib.hid (own_below O_r3_0_23.out hb)
  have O_r7_0_24 := Lib.hid (own_below O_r7_0_23.out hb)
  have O_r21_24 := Lib.hid (own_below O_r21_23.out hb)
  have O_r22_24 := Lib.hid (own_below O_r22_23.out hb)
  have O_r23_24 := Lib.hid (own_below O_r23_23.out hb)
  have D_r24_0 := Lib.hid (OwnInts.lt hown0)
  have O_r24_0_24 := Lib.hid hown0
  have B24 := Lib.hid (below_next B23.out hb)
  clear hb hown0 O_r3_0_23 O_r7_0_23 O_r21_23 O_r22_23 O_r23_23
  clear O_r21_24 O_r22_24 O_r23_24
  go_wp2_with fail
  refine (eqInts_own GR0.out O_r24_0_24.out O_r3_0_24.out).mono ?_
  rintro e w_25 ⟨rfl, hb⟩
  have Z25 : Hid (w_24.heap.size ≤ w_25.heap.size) := Lib.hid hb.size
  have O_r3_0_25 := Lib.hid (own_below O_r3_0_24.out hb)
  have O_r7_0_25 := Lib.hid (own_below O_r7_0_24.out hb)
  have O_r24_0_25 := Lib.hid (own_below O_r24_0_24.out hb)
  have B25 := Lib.hid (below_next B24.out hb)
  clear hb O_r3_0_24 O_r7_0_24 O_r24_0_24
  clear O_r3_0_25 O_r24_0_25
  go_wp2_with fail
  refine (HHK4.out _ _ _ _ O_r7_0_25.out).mono ?_
  rintro e w_26 ⟨rfl, rfl⟩
  clear O_r7_0_25
  go_wp2
  go_ret
  exact ⟨rfl, B25.out⟩
end Go.Proofs.Yteiaidjknnbpjaa
