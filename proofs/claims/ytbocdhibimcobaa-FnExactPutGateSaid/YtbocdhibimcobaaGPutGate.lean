/- FnExactPutGate: the law's walk. No condition but the arguments' lengths. -/
import Derived.Test.YtbocdhibimcobaaOpenI
import Derived.Test.YtbocdhibimcobaaPutG
namespace Go.Proofs.Ytbocdhibimcobaa
open Go.RowKit

set_option maxRecDepth 100000 in
set_option maxHeartbeats 8000000 in
theorem lawPutGate_walk (a0 : Int) (A1 : Option Addr) (c1 : Nat) (L1 : List Int) (a2 : Int) (w : World) (w0 : (Lit.int .i64 a0).wf = true) (l1 : L1.length ≤ maxLen) (f1 : WfL L1) (q1 : L1.length ≤ c1) (h1 : IntSl w A1 L1) (w2 : (Lit.int .i64 a2).wf = true) :
    Calls Try.prog 15 #[.int .i64 a0, .slice A1 L1.length c1, .int .i64 a2] w fun e w' => e = .returned (.bool true) ∧ Below w.heap.size w w' := by
  have _ := w0
  have _ := l1
  have _ := f1
  have _ := q1
  have _ := h1
  have _ := w2
  unfold maxLen at l1
  by_cases g1 : ¬ L1.length ≤ 1048576
  · go_enter Try.func15, Try.ntmps15
    go_wp2
    go_ret
    exact ⟨rfl, Below.refl _ _⟩
  rw [Decidable.not_not] at g1
  obtain ⟨R0, hR0⟩ : ∃ R, R = (putR a0 L1 a2) := ⟨_, rfl⟩
  obtain ⟨R1, hR1⟩ : ∃ R, R = (okPu a0 L1 a2) := ⟨_, rfl⟩
  have HTO1 := Lib.hid fun W (hW : Below w.heap.size w W) => toIntS_any A1 c1 L1 W g1 (h1.below hW)
  have HS := Lib.hid fun (A1 : Option Addr) (W : World) (h1 : IntSl W A1 L1) => specPutGate_any a0 A1 L1.length L1 a2 W w0 g1 f1 (Nat.le_refl _) h1 w2
  have HI := Lib.hid fun (A1 : Option Addr) (W : World) (h1 : IntSl W A1 L1) => implPutGate_any a0 A1 L1.length L1 a2 W w0 g1 f1 (Nat.le_refl _) h1 w2
  have hZ0 : (putR a0 L1 a2).length ≤ 1048576 := putR_len a0 L1 a2
  rw [← hR0, ← hR1] at HS HI
  rw [← hR0] at hZ0
  clear hR0 hR1
  obtain ⟨Q0, hQ0⟩ : ∃ Q : Int, Q = ((1 + L1.length : Nat) : Int) := ⟨_, rfl⟩
  have nQ0 : ¬ Q0 < 0 := by omega
  obtain ⟨Q1, hQ1⟩ : ∃ Q : Int, Q = ((1 + R0.length : Nat) : Int) := ⟨_, rfl⟩
  have nQ1 : ¬ Q1 < 0 := by omega
  have HMK0 : Hid (∀ (e0 : TypeId) (b : Nat) (v : Value) (W : World), OwnInts W b e0 v L1 → Calls Try.prog 24 #[v, .int .i64 1] W fun e w' => e = .returned (.int .i64 Q0) ∧ w'.ownsRow b e0 1 v L1.length (marksI (1) L1.length) ∧ W.grownBy w' v.ownBlock) := Lib.hid fun e0 b v W h => by
    rw [hQ0]; exact markInts_any e0 b L1.length v L1 W (1) (by have := g1; have := hZ0; omega) (by have := g1; have := hZ0; omega) rfl h
  have HMK1 : Hid (∀ (e0 : TypeId) (b : Nat) (v : Value) (W : World), OwnInts W b e0 v R0 → Calls Try.prog 24 #[v, .int .i64 1] W fun e w' => e = .returned (.int .i64 Q1) ∧ w'.ownsRow b e0 1 v R0.length (marksI (1) R0.length) ∧ W.grownBy w' v.ownBlock) := Lib.hid fun e0 b v W h => by
    rw [hQ1]; exact markInts_any e0 b R0.length v R0 W (1) (by have := g1; have := hZ0; omega) (by have := g1; have := hZ0; omega) rfl h
  have HHK2 : Hid (∀ (e0 : TypeId) (b : Nat) (v : Value) (W : World), W.ownsRow b e0 1 v R0.length (marksI (1) R0.length) → Calls Try.prog 25 #[v, .int .i64 1] W fun e w' => e = .returned (.int .i64 Q1) ∧ W = w') := Lib.hid fun e0 b v W h => by
    rw [hQ1]; exact heldInts_any e0 b R0.length v W (1) (by have := g1; have := hZ0; omega) (by have := g1; have := hZ0; omega) h
  have GL1 := Lib.hid g1
  have GR0 := Lib.hid hZ0
  clear f1 q1 h1 hQ0 hQ1 w0 w2
  have B0 := Lib.hid (Below.refl w.heap.size w)
  go_enter Try.func15, Try.ntmps15
  go_wp2_with fail
  refine (HTO1.out w B0.out).mono ?_
  rintro e w_1 ⟨rfl, hown, hb⟩
  have Z1 : Hid (w.heap.size ≤ w_1.heap.size) := Lib.hid hb.size
  have D_r0 := Lib.hid (OwnInts.lt hown)
  have O_r0_1 := Lib.hid hown
  have B1 := Lib.hid (below_next B0.out hb)
  clear hown hb 
  go_wp2_with fail
  refine (HS.out _ w_1 (IntSl.of_own O_r0_1.out)).mono ?_
  rintro e w_2 ⟨v_r1_0, rfl, hown0, hb⟩
  have Z2 : Hid (w_1.heap.size ≤ w_2.heap.size) := Lib.hid hb.size
  have O_r0_2 := Lib.hid (own_below O_r0_1.out hb)
  have D_r1_0 := Lib.hid (OwnInts.lt hown0)
  have O_r1_0_2 := Lib.hid hown0
  have B2 := Lib.hid (below_next B1.out hb)
  clear hb hown0 O_r0_1
  clear O_r0_2
  go_wp2_with fail
  refine (HTO1.out w_2 B2.out).mono ?_
  rintro e w_3 ⟨rfl, hown, hb⟩
  have Z3 : Hid (w_2.heap.size ≤ w_3.heap.size) := Lib.hid hb.size
  have D_r2 := Lib.hid (OwnInts.lt hown)
  have O_r1_0_3 := Lib.hid (own_below O_r1_0_2.out hb)
  have O_r2_3 := Lib.hid hown
  have B3 := Lib.hid (below_next B2.out hb)
  clear hown hb O_r1_0_2
  go_wp2_with fail
  refine (HI.out _ w_3 (IntSl.of_own O_r2_3.out)).mono ?_
  rintro e w_4 ⟨v_r3_0, rfl, hown0, hb⟩
  have Z4 : Hid (w_3.heap.size ≤ w_4.heap.size) := Lib.hid hb.size
  have O_r1_0_4 := Lib.hid (own_below O_r1_0_3.out hb)
  have O_r2_4 := Lib.hid (own_below O_r2_3.out hb)
  have D_r3_0 := Lib.hid (OwnInts.lt hown0)
  have O_r3_0_4 := Lib.hid hown0
  have B4 := Lib.hid (below_next B3.out hb)
  clear hb hown0 O_r1_0_3 O_r2_3
  go_wp2_with fail
  refine (eqInts_own GR0.out O_r3_0_4.out O_r1_0_4.out).mono ?_
  rintro e w_5 ⟨rfl, hb⟩
  have Z5 : Hid (w_4.heap.size ≤ w_5.heap.size) := Lib.hid hb.size
  have O_r1_0_5 := Lib.hid (own_below O_r1_0_4.out hb)
  have O_r2_5 := Lib.hid (own_below O_r2_4.out hb)
  have O_r3_0_5 := Lib.hid (own_below O_r3_0_4.out hb)
  have B5 := Lib.hid (below_next B4.out hb)
  clear hb O_r1_0_4 O_r2_4 O_r3_0_4
  go_wp2_with fail
  refine (HTO1.out w_5 B5.out).mono ?_
  rintro e w_6 ⟨rfl, hown, hb⟩
  have Z6 : Hid (w_5.heap.size ≤ w_6.heap.size) := Lib.hid hb.size
  have D_r5 := Lib.hid (OwnInts.lt hown)
  have O_r1_0_6 := Lib.hid (own_below O_r1_0_5.out hb)
  have O_r2_6 := Lib.hid (own_below O_r2_5.out hb)
  have O_r3_0_6 := Lib.hid (own_below O_r3_0_5.out hb)
  have O_r5_6 := Lib.hid hown
  have B6 := Lib.hid (below_next B5.out hb)
  clear hown hb O_r1_0_5 O_r2_5 O_r3_0_5
  go_wp2_with fail
  refine (eqInts_own GL1.out O_r2_6.out O_r5_6.out).mono ?_
  rintro e w_7 ⟨rfl, hb⟩
  have Z7 : Hid (w_6.heap.size ≤ w_7.heap.size) := Lib.hid hb.size
  have O_r1_0_7 := Lib.hid (own_below O_r1_0_6.out hb)
  have O_r2_7 := Lib.hid (own_below O_r2_6.out hb)
  have O_r3_0_7 := Lib.hid (own_below O_r3_0_6.out hb)
  have O_r5_7 := Lib.hid (own_below O_r5_6.out hb)
  have B7 := Lib.hid (below_next B6.out hb)
  clear hb O_r1_0_6 O_r2_6 O_r3_0_6 O_r5_6
  clear O_r5_7
  go_wp2_with fail
  refine (HMK0.out _ _ _ _ O_r2_7.out).mono ?_
  rintro e w_8 ⟨rfl, hown, hg⟩
  have Z8 : Hid (w_7.heap.size ≤ w_8.heap.size) := Lib.hid hg.size
  have O_r1_0_8 := Lib.hid (own_apart O_r1_0_7.out hg fun k hk e => by have h1 := D_r1_0.out k hk; have h2 := D_r2.out k e; have := Z1.out; have := Z2.out; have := Z3.out; have := Z4.out; have := Z5.out; have := Z6.out; have := Z7.out; omega)
  have O_r3_0_8 := Lib.hid (own_apart O_r3_0_7.out hg fun k hk e => by have h1 := D_r3_0.out k hk; have h2 := D_r2.out k e; have := Z1.out; have := Z2.out; have := Z3.out; have := Z4.out; have := Z5.out; have := Z6.out; have := Z7.out; omega)
  have B8 := Lib.hid (B7.out.grown hg B7.out.size fun k hk => by have h2 := D_r2.out k hk; have := Z1.out; have := Z2.out; have := Z3.out; have := Z4.out; have := Z5.out; have := Z6.out; have := Z7.out; omega)
  have O_r2_8 := Lib.hid hown
  clear hown hg O_r1_0_7 O_r2_7 O_r3_0_7
  clear O_r2_8
  go_wp2_with fail
  refine (eqInts_own GR0.out O_r3_0_8.out O_r1_0_8.out).mono ?_
  rintro e w_9 ⟨rfl, hb⟩
  have Z9 : Hid (w_8.heap.size ≤ w_9.heap.size) := Lib.hid hb.size
  have O_r1_0_9 := Lib.hid (own_below O_r1_0_8.out hb)
  have O_r3_0_9 := Lib.hid (own_below O_r3_0_8.out hb)
  have B9 := Lib.hid (below_next B8.out hb)
  clear hb O_r1_0_8 O_r3_0_8
  go_wp2_with fail
  refine (HMK1.out _ _ _ _ O_r3_0_9.out).mono ?_
  rintro e w_10 ⟨rfl, hown, hg⟩
  have Z10 : Hid (w_9.heap.size ≤ w_10.heap.size) := Lib.hid hg.size
  have O_r1_0_10 := Lib.hid (own_apart O_r1_0_9.out hg fun k hk e => by have h1 := D_r1_0.out k hk; have h2 := D_r3_0.out k e; have := Z1.out; have := Z2.out; have := Z3.out; have := Z4.out; have := Z5.out; have := Z6.out; have := Z7.out; have := Z8.out; have := Z9.out; omega)
  have B10 := Lib.hid (B9.out.grown hg B9.out.size fun k hk => by have h2 := D_r3_0.out k hk; have := Z1.out; have := Z2.out; have := Z3.out; have := Z4.out; have := Z5.out; have := Z6.out; have := Z7.out; have := Z8.out; have := Z9.out; omega)
  have O_r3_0_10 := Lib.hid hown
  clear hown hg O_r1_0_9 O_r3_0_9
  go_wp2_with fail
  refine (HHK2.out _ _ _ _ O_r3_0_10.out).mono ?_
  rintro e w_11 ⟨rfl, rfl⟩
  go_wp2_with fail
  refine (HTO1.out w_10 B10.out).mono ?_
  rintro e w_11 ⟨rfl, hown, hb⟩
  have Z11 : Hid (w_10.heap.size ≤ w_11.heap.size) := Lib.hid hb.size
  have D_r11 := Lib.hid (OwnInts.lt hown)
  have O_r1_0_11 := Lib.hid (own_below O_r1_0_10.out hb)
  have O_r3_0_11 := Lib.hid (own_below O_r3_0_10.out hb)
  have O_r11_11 := Lib.hid hown
  have B11 := Lib.hid (below_next B10.out hb)
  clear hown hb O_r1_0_10 O_r3_0_10
  go_wp2_with fail
  refine (HI.out _ w_11 (IntSl.of_own O_r11_11.out)).mono ?_
  rintro e w_12 ⟨v_r12_0, rfl, hown0, hb⟩
  have Z12 : Hid (w_11.heap.size ≤ w_12.heap.size) := Lib.hid hb.size
  have O_r1_0_12 := Lib.hid (own_below O_r1_0_11.out hb)
  have O_r3_0_12 := Lib.hid (own_below O_r3_0_11.out hb)
  have O_r11_12 := Lib.hid (own_below O_r11_11.out hb)
  have D_r12_0 := Lib.hid (OwnInts.lt hown0)
  have O_r12_0_12 := Lib.hid hown0
  have B12 := Lib.hid (below_next B11.out hb)
  clear hb hown0 O_r1_0_11 O_r3_0_11 O_r11_11
  clear O_r11_12
  go_wp2_with fail
  refine (eqInts_own GR0.out O_r12_0_12.out O_r1_0_12.out).mono ?_
  rintro e w_13 ⟨rfl, hb⟩
  have Z13 : Hid (w_12.heap.size ≤ w_13.heap.size) := Lib.hid hb.size
  have O_r1_0_13 := Lib.hid (own_below O_r1_0_12.out hb)
  have O_r3_0_13 := Lib.hid (own_below O_r3_0_12.out hb)
  have O_r12_0_13 := Lib.hid (own_below O_r12_0_12.out hb)
  have B13 := Lib.hid (below_next B12.out hb)
  clear hb O_r1_0_12 O_r3_0_12 O_r12_0_12
  clear O_r1_0_13 O_r12_0_13
  go_wp2_with fail
  refine (HHK2.out _ _ _ _ O_r3_0_13.out).mono ?_
  rintro e w_14 ⟨rfl, rfl⟩
  clear O_r3_0_13
  go_wp2
  go_ret
  exact ⟨rfl, B13.out⟩
end Go.Proofs.Ytbocdhibimcobaa
