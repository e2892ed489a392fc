/- FnExactRestsOfCut: the law's walk. No condition but the arguments' lengths. -/
import Derived.Test.YtacncacpcllgcaaOpenI
import Derived.Test.YtacncacpcllgcaaMemCap
import Derived.Test.YtacncacpcllgcaaCuts2
import Derived.Test.YtacncacpcllgcaaCuts3
namespace Go.Proofs.Ytacncacpcllgcaa
open Go.RowKit

set_option maxRecDepth 100000 in
set_option maxHeartbeats 8000000 in
theorem lawRestsOfCut_walk (A0 : Option Addr) (c0 : Nat) (L0 : List Int) (a1 : Int) (A2 : Option Addr) (c2 : Nat) (L2 : List Int) (w : World) (l0 : L0.length ≤ maxLen) (f0 : WfL L0) (q0 : L0.length ≤ c0) (h0 : IntSl w A0 L0) (w1 : (Lit.int .i64 a1).wf = true) (l2 : L2.length ≤ maxLen) (f2 : WfL L2) (q2 : L2.length ≤ c2) (h2 : IntSl w A2 L2) :
    Calls Try.prog 14 #[.slice A0 L0.length c0, .int .i64 a1, .slice A2 L2.length c2] w fun e w' => e = .returned (.bool true) ∧ Below w.heap.size w w' := by
  have _ := l0
  have _ := f0
  have _ := q0
  have _ := h0
  have _ := w1
  have _ := l2
  have _ := f2
  have _ := q2
  have _ := h2
  unfold maxLen at l0 l2
  by_cases g0 : ¬ L0.length ≤ 1048576
  · go_enter Try.func14, Try.ntmps14
    go_wp2
    go_ret
    exact ⟨rfl, Below.refl _ _⟩
  rw [Decidable.not_not] at g0
  by_cases g2 : ¬ L2.length ≤ 1048576
  · go_enter Try.func14, Try.ntmps14
    go_wp2
    go_ret
    exact ⟨rfl, Below.refl _ _⟩
  rw [Decidable.not_not] at g2
  obtain ⟨R0, hR0⟩ : ∃ R, R = (ctL L0 a1 L2) := ⟨_, rfl⟩
  obtain ⟨R1, hR1⟩ : ∃ R, R = (okCt L0 a1 L2) := ⟨_, rfl⟩
  have HTO0 := Lib.hid fun W (hW : Below w.heap.size w W) => toIntS_any A0 c0 L0 W g0 (h0.below hW)
  have HTO2 := Lib.hid fun W (hW : Below w.heap.size w W) => toIntS_any A2 c2 L2 W g2 (h2.below hW)
  have HS := Lib.hid fun (A0 : Option Addr) (A2 : Option Addr) (W : World) (h0 : IntSl W A0 L0) (h2 : IntSl W A2 L2) => specRestsOfCut_any A0 L0.length L0 a1 A2 L2.length L2 W g0 f0 (Nat.le_refl _) h0 w1 g2 f2 (Nat.le_refl _) h2
  have HI := Lib.hid fun (A0 : Option Addr) (A2 : Option Addr) (W : World) (h0 : IntSl W A0 L0) (h2 : IntSl W A2 L2) => implRestsOfCut_cap A0 L0.length L0 a1 A2 L2.length L2 W g0 f0 (Nat.le_refl _) h0 w1 g2 f2 (Nat.le_refl _) h2
  have hZ0 : (ctL L0 a1 L2).length ≤ 1048576 := ctL_len L0 a1 L2
  rw [← hR0, ← hR1] at HS HI
  rw [← hR0] at hZ0
  clear hR0 hR1
  obtain ⟨Q0, hQ0⟩ : ∃ Q : Int, Q = ((1 + L0.length : Nat) : Int) := ⟨_, rfl⟩
  have nQ0 : ¬ Q0 < 0 := by omega
  obtain ⟨Q1, hQ1⟩ : ∃ Q : Int, Q = ((1 + L0.length + L2.length : Nat) : Int) := ⟨_, rfl⟩
  have nQ1 : ¬ Q1 < 0 := by omega
  obtain ⟨Q2, hQ2⟩ : ∃ Q : Int, Q = ((1 + R0.length : Nat) : Int) := ⟨_, rfl⟩
  have nQ2 : ¬ Q2 < 0 := by omega
  have HMK0 : Hid (∀ (e0 : TypeId) (b : Nat) (v : Value) (W : World), OwnInts W b e0 v L0 → Calls Try.prog 45 #[v, .int .i64 1] W fun e w' => e = .returned (.int .i64 Q0) ∧ w'.ownsRow b e0 1 v L0.length (marksI (1) L0.length) ∧ W.grownBy w' v.ownBlock) := Lib.hid fun e0 b v W h => by
    rw [hQ0]; exact markInts_any e0 b L0.length v L0 W (1) (by have := g0; have := g2; have := hZ0; omega) (by have := g0; have := g2; have := hZ0; omega) rfl h
  have HMK1 : Hid (∀ (e0 : TypeId) (b : Nat) (v : Value) (W : World), OwnInts W b e0 v L2 → Calls Try.prog 45 #[v, .int .i64 Q0] W fun e w' => e = .returned (.int .i64 Q1) ∧ w'.ownsRow b e0 1 v L2.length (marksI (1 + L0.length) L2.length) ∧ W.grownBy w' v.ownBlock) := Lib.hid fun e0 b v W h => by
    rw [hQ0, hQ1]; exact markInts_any e0 b L2.length v L2 W (1 + L0.length) (by have := g0; have := g2; have := hZ0; omega) (by have := g0; have := g2; have := hZ0; omega) rfl h
  have HMK2 : Hid (∀ (e0 : TypeId) (b : Nat) (A : Option Addr) (c c1 : Nat) (W : World), OwnInts W b e0 (.slice A R0.length c1) R0 → Calls Try.prog 45 #[.slice A R0.length c, .int .i64 1] W fun e w' => e = .returned (.int .i64 Q2) ∧ w'.ownsRow b e0 1 (.slice A R0.length c1) R0.length (marksI (1) R0.length) ∧ W.grownBy w' (Value.slice A R0.length c1).ownBlock) := Lib.hid fun e0 b A c c1 W h => by
    rw [hQ2]; exact markInts_cap e0 b R0.length c c1 A R0 W (1) (by have := g0; have := g2; have := hZ0; omega) (by have := g0; have := g2; have := hZ0; omega) rfl h
  have HHK3 : Hid (∀ (e0 : TypeId) (b : Nat) (A : Option Addr) (c c1 : Nat) (W : World), W.ownsRow b e0 1 (.slice A R0.length c1) R0.length (marksI (1) R0.length) → Calls Try.prog 46 #[.slice A R0.length c, .int .i64 1] W fun e w' => e = .returned (.int .i64 Q2) ∧ W = w') := Lib.hid fun e0 b A c c1 W h => by
    rw [hQ2]; exact heldInts_cap e0 b R0.length c c1 A W (1) (by have := g0; have := g2; have := hZ0; omega) (by have := g0; have := g2; have := hZ0; omega) h
  have GL0 := Lib.hid g0
  have GL2 := Lib.hid g2
  have GR0 := Lib.hid hZ0
  clear f0 q0 h0 f2 q2 h2 hQ0 hQ1 hQ2 w1
  have B0 := Lib.hid (Below.refl w.heap.size w)
  go_enter Try.func14, Try.ntmps14
  go_wp2_with fail
  refine (HTO0.out w B0.out).mono ?_
  rintro e w_1 ⟨rfl, hown, hb⟩
  have Z1 : Hid (w.heap.size ≤ w_1.heap.size) := Lib.hid hb.size
  have D_r0 := Lib.hid (OwnInts.lt hown)
  have O_r0_1 := Lib.hid hown
  have B1 := Lib.hid (below_next B0.out hb)
  clear hown hb 
  go_wp2_with fail
  refine (HTO2.out w_1 B1.out).mono ?_
  rintro e w_2 ⟨rfl, hown, hb⟩
  have Z2 : Hid (w_1.heap.size ≤ w_2.heap.size) := Lib.hid hb.size
  have D_r1 := Lib.hid (OwnInts.lt hown)
  have O_r0_2 := Lib.hid (own_below O_r0_1.out hb)
  have O_r1_2 := Lib.hid hown
  have B2 := Lib.hid (below_next B1.out hb)
  clear hown hb O_r0_1
  go_wp2_with fail
  refine (HS.out _ _ w_2 (IntSl.of_own O_r0_2.out) (IntSl.of_own O_r1_2.out)).mono ?_
  rintro e w_3 ⟨v_r2_0, rfl, hown0, hb⟩
  have Z3 : Hid (w_2.heap.size ≤ w_3.heap.size) := Lib.hid hb.size
  have O_r0_3 := Lib.hid (own_below O_r0_2.out hb)
  have O_r1_3 := Lib.hid (own_below O_r1_2.out hb)
  have D_r2_0 := Lib.hid (OwnInts.lt hown0)
  have O_r2_0_3 := Lib.hid hown0
  have B3 := Lib.hid (below_next B2.out hb)
  clear hb hown0 O_r0_2 O_r1_2
  clear O_r0_3 O_r1_3
  go_wp2_with fail
  refine (HTO0.out w_3 B3.out).mono ?_
  rintro e w_4 ⟨rfl, hown, hb⟩
  have Z4 : Hid (w_3.heap.size ≤ w_4.heap.size) := Lib.hid hb.size
  have D_r3 := Lib.hid (OwnInts.lt hown)
  have O_r2_0_4 := Lib.hid (own_below O_r2_0_3.out hb)
  have O_r3_4 := Lib.hid hown
  have B4 := Lib.hid (below_next B3.out hb)
  clear hown hb O_r2_0_3
  go_wp2_with fail
  refine (HTO2.out w_4 B4.out).mono ?_
  rintro e w_5 ⟨rfl, hown, hb⟩
  have Z5 : Hid (w_4.heap.size ≤ w_5.heap.size) := Lib.hid hb.size
  have D_r4 := Lib.hid (OwnInts.lt hown)
  have O_r2_0_5 := Lib.hid (own_below O_r2_0_4.out hb)
  have O_r3_5 := Lib.hid (own_below O_r3_4.out hb)
  have O_r4_5 := Lib.hid hown
  have B5 := Lib.hid (below_next B4.out hb)
  clear hown hb O_r2_0_4 O_r3_4
  go_wp2_with fail
  refine (HI.out _ _ w_5 (IntSl.of_own O_r3_5.out) (IntSl.of_own O_r4_5.out)).mono ?_
  rintro e w_6 ⟨A_r5_0, c_r5_0, d_r5_0, rfl, hown0, hb⟩
  have Z6 : Hid (w_5.heap.size ≤ w_6.heap.size) := Lib.hid hb.size
  have O_r2_0_6 := Lib.hid (own_below O_r2_0_5.out hb)
  have O_r3_6 := Lib.hid (own_below O_r3_5.out hb)
  have O_r4_6 := Lib.hid (own_below O_r4_5.out hb)
  have D_r5_0 := Lib.hid (OwnInts.lt hown0)
  have O_r5_0_6 := Lib.hid hown0
  have B6 := Lib.hid (below_next B5.out hb)
  clear hb hown0 O_r2_0_5 O_r3_5 O_r4_5
  go_wp2_with fail
  refine (eqInts_cap GR0.out O_r5_0_6.out O_r2_0_6.out).mono ?_
  rintro e w_7 ⟨rfl, hb⟩
  have Z7 : Hid (w_6.heap.size ≤ w_7.heap.size) := Lib.hid hb.size
  have O_r2_0_7 := Lib.hid (own_below O_r2_0_6.out hb)
  have O_r3_7 := Lib.hid (own_below O_r3_6.out hb)
  have O_r4_7 := Lib.hid (own_below O_r4_6.out hb)
  have O_r5_0_7 := Lib.hid (own_below O_r5_0_6.out hb)
  have B7 := Lib.hid (below_next B6.out hb)
  clear hb O_r2_0_6 O_r3_6 O_r4_6 O_r5_0_6
  go_wp2_with fail
  refine (HTO0.out w_7 B7.out).mono ?_
  rintro e w_8 ⟨rfl, hown, hb⟩
  have Z8 : Hid (w_7.heap.size ≤ w_8.heap.size) := Lib.hid hb.size
  have D_r7 := Lib.hid (OwnInts.lt hown)
  have O_r2_0_8 := Lib.hid (own_below O_r2_0_7.out hb)
  have O_r3_8 := Lib.hid (own_below O_r3_7.out hb)
  have O_r4_8 := Lib.hid (own_below O_r4_7.out hb)
  have O_r5_0_8 := Lib.hid (own_below O_r5_0_7.out hb)
  have O_r7_8 := Lib.hid hown
  have B8 := Lib.hid (below_next B7.out hb)
  clear hown hb O_r2_0_7 O_r3_7 O_r4_7 O_r5_0_7
  go_wp2_with fail
  refine (eqInts_own GL0.out O_r3_8.out O_r7_8.out).mono ?_
  rintro e w_9 ⟨rfl, hb⟩
  have Z9 : Hid (w_8.heap.size ≤ w_9.heap.size) := Lib.hid hb.size
  have O_r2_0_9 := Lib.hid (own_below O_r2_0_8.out hb)
  have O_r3_9 := Lib.hid (own_below O_r3_8.out hb)
  have O_r4_9 := Lib.hid (own_below O_r4_8.out hb)
  have O_r5_0_9 := Lib.hid (own_below O_r5_0_8.out hb)
  have O_r7_9 := Lib.hid (own_below O_r7_8.out hb)
  have B9 := Lib.hid (below_next B8.out hb)
  clear hb O_r2_0_8 O_r3_8 O_r4_8 O_r5_0_8 O_r7_8
  clear O_r7_9
  go_wp2_with fail
  refine (HTO2.out w_9 B9.out).mono ?_
  rintro e w_10 ⟨rfl, hown, hb⟩
  have Z10 : Hid (w_9.heap.size ≤ w_10.heap.size) := Lib.hid hb.size
  have D_r9 := Lib.hid (OwnInts.lt hown)
  have O_r2_0_10 := Lib.hid (own_below O_r2_0_9.out hb)
  have O_r3_10 := Lib.hid (own_below O_r3_9.out hb)
  have O_r4_10 := Lib.hid (own_below O_r4_9.out hb)
  have O_r5_0_10 := Lib.hid (own_below O_r5_0_9.out hb)
  have O_r9_10 := Lib.hid hown
  have B10 := Lib.hid (below_next B9.out hb)
  clear hown hb O_r2_0_9 O_r3_9 O_r4_9 O_r5_0_9
  go_wp2_with fail
  refine (eqInts_own GL2.out O_r4_10.out O_r9_10.out).mono ?_
  rintro e w_11 ⟨rfl, hb⟩
  have Z11 : Hid (w_10.heap.size ≤ w_11.heap.size) := Lib.hid hb.size
  have O_r2_0_11 := Lib.hid (own_below O_r2_0_10.out hb)
  have O_r3_11 := Lib.hid (own_below O_r3_10.out hb)
  have O_r4_11 := Lib.hid (own_below O_r4_10.out hb)
  have O_r5_0_11 := Lib.hid (own_below O_r5_0_10.out hb)
  have O_r9_11 := Lib.hid (own_below O_r9_10.out hb)
  have B11 := Lib.hid (below_next B10.out hb)
  clear hb O_r2_0_10 O_r3_10 O_r4_10 O_r5_0_10 O_r9_10
  clear O_r9_11
  go_wp2_with fail
  refine (HMK0.out _ _ _ _ O_r3_11.out).mono ?_
  rintro e w_12 ⟨rfl, hown, hg⟩
  have Z12 : Hid (w_11.heap.size ≤ w_12.heap.size) := Lib.hid hg.size
  have O_r2_0_12 := Lib.hid (own_apart O_r2_0_11.out hg fun k hk e => by have h1 := D_r2_0.out k hk; have h2 := D_r3.out k e; have := Z1.out; have := Z2.out; have := Z3.out; have := Z4.out; have := Z5.out; have := Z6.out; have := Z7.out; have := Z8.out; have := Z9.out; have := Z10.out; have := Z11.out; omega)
  have O_r4_12 := Lib.hid (own_apart O_r4_11.out hg fun k hk e => by have h1 := D_r4.out k hk; have h2 := D_r3.out k e; have := Z1.out; have := Z2.out; have := Z3.out; have := Z4.out; have := Z5.out; have := Z6.out; have := Z7.out; have := Z8.out; have := Z9.out; have := Z10.out; have := Z11.out; omega)
  have O_r5_0_12 := Lib.hid (own_apart O_r5_0_11.out hg fun k hk e => by have h1 := D_r5_0.out k hk; have h2 := D_r3.out k e; have := Z1.out; have := Z2.out; have := Z3.out; have := Z4.out; have := Z5.out; have := Z6.out; have := Z7.out; have := Z8.out; have := Z9.out; have := Z10.out; have := Z11.out; omega)
  have B12 := Lib.hid (B11.out.grown hg B11.out.size fun k hk => by have h2 := D_r3.out k hk; have := Z1.out; have := Z2.out; have := Z3.out; have := Z4.out; have := Z5.out; have := Z6.out; have := Z7.out; have := Z8.out; have := Z9.out; have := Z10.out; have := Z11.out; omega)
  have O_r3_12 := Lib.hid hown
  clear hown hg O_r2_0_11 O_r3_11 O_r4_11 O_r5_0_11
  clear O_r3_12
  go_wp2_with fail
  refine (HMK1.out _ _ _ _ O_r4_12.out).mono ?_
  rintro e w_13 ⟨rfl, hown, hg⟩
  have Z13 : Hid (w_12.heap.size ≤ w_13.heap.size) := Lib.hid hg.size
  have O_r2_0_13 := Lib.hid (own_apart O_r2_0_12.out hg fun k hk e => by have h1 := D_r2_0.out k hk; have h2 := D_r4.out k e; have := Z1.out; have := Z2.out; have := Z3.out; have := Z4.out; have := Z5.out; have := Z6.out; have := Z7.out; have := Z8.out; have := Z9.out; have := Z10.out; have := Z11.out; have := Z12.out; omega)
  have O_r5_0_13 := Lib.hid (own_apart O_r5_0_12.out hg fun k hk e => by have h1 := D_r5_0.out k hk; have h2 := D_r4.out k e; have := Z1.out; have := Z2.out; have := Z3.out; have := Z4.out; have := Z5.out; have := Z6.out; have := Z7.out; have := Z8.out; have := Z9.out; have := Z10.out; have := Z11.out; have := Z12.out; omega)
  have B13 := Lib.hid (B12.out.grown hg B12.out.size fun k hk => by have h2 := D_r4.out k hk; have := Z1.out; have := Z2.out; have := Z3.out; have := Z4.out; have := Z5.out; have := Z6.out; have := Z7.out; have := Z8.out; have := Z9.out; have := Z10.out; have := Z11.out; have := Z12.out; omega)
  have O_r4_13 := Lib.hid hown
  clear hown hg O_r2_0_12 O_r4_12 O_r5_0_12
  clear O_r4_13
  go_wp2_with fail
  refine (eqInts_cap GR0.out O_r5_0_13.out O_r2_0_13.out).mono ?_
  rintro e w_14 ⟨rfl, hb⟩
  have Z14 : Hid (w_13.heap.size ≤ w_14.heap.size) := Lib.hid hb.size
  have O_r2_0_14 := Lib.hid (own_below O_r2_0_13.out hb)
  have O_r5_0_14 := Lib.hid (own_below O_r5_0_13.out hb)
  have B14 := Lib.hid (below_next B13.out hb)
  clear hb O_r2_0_13 O_r5_0_13
  go_wp2_with fail
  refine (HMK2.out _ _ _ _ _ _ O_r5_0_14.out).mono ?_
  rintro e w_15 ⟨rfl, hown, hg⟩
  have Z15 : Hid (w_14.heap.size ≤ w_15.heap.size) := Lib.hid hg.size
  have O_r2_0_15 := Lib.hid (own_apart O_r2_0_14.out hg fun k hk e => by have h1 := D_r2_0.out k hk; have h2 := D_r5_0.out k e; have := Z1.out; have := Z2.out; have := Z3.out; have := Z4.out; have := Z5.out; have := Z6.out; have := Z7.out; have := Z8.out; have := Z9.out; have := Z10.out; have := Z11.out; have := Z12.out; have := Z13.out; have := Z14.out; omega)
  have B15 := Lib.hid (B14.out.grown hg B14.out.size fun k hk => by have h2 := D_r5_0.out k hk; have := Z1.out; have := Z2.out; have := Z3.out; have := Z4.out; have := Z5.out; have := Z6.out; have := Z7.out; have := Z8.out; have := Z9.out; have := Z10.out; have := Z11.out; have := Z12.out; have := Z13.out; have := Z14.out; omega)
  have O_r5_0_15 := Lib.hid hown
  clear hown hg O_r2_0_14 O_r5_0_14
  go_wp2_with fail
  refine (HHK3.out _ _ _ _ _ _ O_r5_0_15.out).mono ?_
  rintro e w_16 ⟨rfl, rfl⟩
  go_wp2_with fail
  refine (HTO0.out w_15 B15.out).mono ?_
  rintro e w_16 ⟨rfl, hown, hb⟩
  have Z16 : Hid (w_15.heap.size ≤ w_16.heap.size) := Lib.hid hb.size
  have D_r16 := Lib.hid (OwnInts.lt hown)
  have O_r2_0_16 := Lib.hid (own_below O_r2_0_15.out hb)
  have O_r5_0_16 := Lib.hid (own_below O_r5_0_15.out hb)
  have O_r16_16 := Lib.hid hown
  have B16 := Lib.hid (below_next B15.out hb)
  clear hown hb O_r2_0_15 O_r5_0_15
  go_wp2_with fail
  refine (HTO2.out w_16 B16.out).mono ?_
  rintro e w_17 ⟨rfl, hown, hb⟩
  have Z17 : Hid (w_16.heap.size ≤ w_17.heap.size) := Lib.hid hb.size
  have D_r17 := Lib.hid (OwnInts.lt hown)
  have O_r2_0_17 := Lib.hid (own_below O_r2_0_16.out hb)
  have O_r5_0_17 := Lib.hid (own_below O_r5_0_16.out hb)
  have O_r16_17 := Lib.hid (own_below O_r16_16.out hb)
  have O_r17_17 := Lib.hid hown
  have B17 := Lib.hid (below_next B16.out hb)
  clear hown hb O_r2_0_16 O_r5_0_16 O_r16_16
  go_wp2_with fail
  refine (HI.out _ _ w_17 (IntSl.of_own O_r16_17.out) (IntSl.of_own O_r17_17.out)).mono ?_
  rintro e w_18 ⟨A_r18_0, c_r18_0, d_r18_0, rfl, hown0, hb⟩
  have Z18 : Hid (w_17.heap.size ≤ w_18.heap.size) := Lib.hid hb.size
  have O_r2_0_18 := Lib.hid (own_below O_r2_0_17.out hb)
  have O_r5_0_18 := Lib.hid (own_below O_r5_0_17.out hb)
  have O_r16_18 := Lib.hid (own_below O_r16_17.out hb)
  have O_r17_18 := Lib.hid (own_below O_r17_17.out hb)
  have D_r18_0 := Lib.hid (OwnInts.lt hown0)
  have O_r18_0_18 := Lib.hid hown0
  have B18 := Lib.hid (below_next B17.out hb)
  clear hb hown0 O_r2_0_17 O_r5_0_17 O_r16_17 O_r17_17
  clear O_r16_18 O_r17_18
  go_wp2_with fail
  refine (eqInts_cap GR0.out O_r18_0_18.out O_r2_0_18.out).mono ?_
  rintro e w_19 ⟨rfl, hb⟩
  have Z19 : Hid (w_18.heap.size ≤ w_19.heap.size) := Lib.hid hb.size
  have O_r2_0_19 := Lib.hid (own_below O_r2_0_18.out hb)
  have O_r5_0_19 := Lib.hid (own_below O_r5_0_18.out hb)
  have O_r18_0_19 := Lib.hid (own_below O_r18_0_18.out hb)
  have B19 := Lib.hid (below_next B18.out hb)
  clear hb O_r2_0_18 O_r5_0_18 O_r18_0_18
  clear O_r2_0_19 O_r18_0_19
  go_wp2_with fail
  refine (HHK3.out _ _ _ _ _ _ O_r5_0_19.out).mono ?_
  rintro e w_20 ⟨rfl, rfl⟩
  clear O_r5_0_19
  go_wp2
  go_ret
  exact ⟨rfl, B19.out⟩
end Go.Proofs.Ytacncacpcllgcaa
