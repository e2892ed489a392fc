/- FnExactParseGates: the law's walk. No condition but the arguments' lengths. -/
import Derived.Test.YtbocdhibimcobaaDoorOpenI
import Derived.Test.YtbocdhibimcobaaDoorGaGaParse
namespace Go.Proofs.YtbocdhibimcobaaDoor
open Go.RowKit Go.Proofs.YtbocdhibimcobaaDoor.Ga

set_option maxRecDepth 100000 in
set_option maxHeartbeats 8000000 in
theorem lawParseGates_walk (s0 : ByteArray) (w : World) (z0 : s0.size ≤ maxLen) (henv : Env w.heap.size w) :
    Calls Tryd.prog 4 #[.string s0] w fun e w' => e = .returned (.bool true) ∧ Below w.heap.size w w' := by
  have _ := z0
  have z0m := z0
  unfold maxLen at z0
  by_cases g0 : ¬ s0.size ≤ 1048576
  · go_enter Tryd.func4, Tryd.ntmps4
    go_wp2
    go_ret
    exact ⟨rfl, Below.refl _ _⟩
  rw [Decidable.not_not] at g0
  obtain ⟨R0, hR0⟩ : ∃ R, R = (resPS s0) := ⟨_, rfl⟩
  obtain ⟨R1, hR1⟩ : ∃ R, R = (okPS s0) := ⟨_, rfl⟩
  have HS := Lib.hid fun  (W : World)  => specParseGates_any s0 W z0m
  have HI := Lib.hid fun  (W : World)  (hB : Below w.heap.size w W) => implParseGates_any s0 W g0 (env_at henv hB)
  have hZ0 : (resPS s0).length ≤ 1048576 := resPS_len s0
  rw [← hR0, ← hR1] at HS HI
  rw [← hR0] at hZ0
  clear hR0 hR1
  obtain ⟨Q0, hQ0⟩ : ∃ Q : Int, Q = ((1 + R0.length : Nat) : Int) := ⟨_, rfl⟩
  have nQ0 : ¬ Q0 < 0 := by omega
  have HMK0 : Hid (∀ (e0 : TypeId) (b : Nat) (v : Value) (W : World), OwnInts W b e0 v R0 → Calls Tryd.prog 17 #[v, .int .i64 1] W fun e w' => e = .returned (.int .i64 Q0) ∧ w'.ownsRow b e0 1 v R0.length (marksI (1) R0.length) ∧ W.grownBy w' v.ownBlock) := Lib.hid fun e0 b v W h => by
    rw [hQ0]; exact markInts_any e0 b R0.length v R0 W (1) (by have := hZ0; omega) (by have := hZ0; omega) rfl h
  have HHK1 : Hid (∀ (e0 : TypeId) (b : Nat) (v : Value) (W : World), W.ownsRow b e0 1 v R0.length (marksI (1) R0.length) → Calls Tryd.prog 18 #[v, .int .i64 1] W fun e w' => e = .returned (.int .i64 Q0) ∧ W = w') := Lib.hid fun e0 b v W h => by
    rw [hQ0]; exact heldInts_any e0 b R0.length v W (1) (by have := hZ0; omega) (by have := hZ0; omega) h
  have GR0 := Lib.hid hZ0
  clear hQ0 henv
  have B0 := Lib.hid (Below.refl w.heap.size w)
  go_enter Tryd.func4, Tryd.ntmps4
  go_wp2_with fail
  refine (HS.out  w ).mono ?_
  rintro e w_1 ⟨v_r0_0, rfl, hown0, hb⟩
  have Z1 : Hid (w.heap.size ≤ w_1.heap.size) := Lib.hid hb.size
  have D_r0_0 := Lib.hid (OwnInts.lt hown0)
  have O_r0_0_1 := Lib.hid hown0
  have B1 := Lib.hid (below_next B0.out hb)
  clear hb hown0 
  go_wp2_with fail
  refine (HI.out  w_1 B1.out).mono ?_
  rintro e w_2 ⟨v_r1_0, rfl, hown0, hb⟩
  have Z2 : Hid (w_1.heap.size ≤ w_2.heap.size) := Lib.hid hb.size
  have O_r0_0_2 := Lib.hid (own_below O_r0_0_1.out hb)
  have D_r1_0 := Lib.hid (OwnInts.lt hown0)
  have O_r1_0_2 := Lib.hid hown0
  have B2 := Lib.hid (below_next B1.out hb)
  clear hb hown0 O_r0_0_1
  go_wp2_with fail
  refine (eqInts_own GR0.out O_r1_0_2.out O_r0_0_2.out).mono ?_
  rintro e w_3 ⟨rfl, hb⟩
  have Z3 : Hid (w_2.heap.size ≤ w_3.heap.size) := Lib.hid hb.size
  have O_r0_0_3 := Lib.hid (own_below O_r0_0_2.out hb)
  have O_r1_0_3 := Lib.hid (own_below O_r1_0_2.out hb)
  have B3 := Lib.hid (below_next B2.out hb)
  clear hb O_r0_0_2 O_r1_0_2
  go_wp2_with fail
  refine (HMK0.out _ _ _ _ O_r1_0_3.out).mono ?_
  rintro e w_4 ⟨rfl, hown, hg⟩
  have Z4 : Hid (w_3.heap.size ≤ w_4.heap.size) := Lib.hid hg.size
  have O_r0_0_4 := Lib.hid (own_apart O_r0_0_3.out hg fun k hk e => by have h1 := D_r0_0.out k hk; have h2 := D_r1_0.out k e; have := Z1.out; have := Z2.out; have := Z3.out; omega)
  have B4 := Lib.hid (B3.out.grown hg B3.out.size fun k hk => by have h2 := D_r1_0.out k hk; have := Z1.out; have := Z2.out; have := Z3.out; omega)
  have O_r1_0_4 := Lib.hid hown
  clear hown hg O_r0_0_3 O_r1_0_3
  go_wp2_with fail
  refine (HHK1.out _ _ _ _ O_r1_0_4.out).mono ?_
  rintro e w_5 ⟨rfl, rfl⟩
  go_wp2_with fail
  refine (HI.out  w_4 B4.out).mono ?_
  rintro e w_5 ⟨v_r5_0, rfl, hown0, hb⟩
  have Z5 : Hid (w_4.heap.size ≤ w_5.heap.size) := Lib.hid hb.size
  have O_r0_0_5 := Lib.hid (own_below O_r0_0_4.out hb)
  have O_r1_0_5 := Lib.hid (own_below O_r1_0_4.out hb)
  have D_r5_0 := Lib.hid (OwnInts.lt hown0)
  have O_r5_0_5 := Lib.hid hown0
  have B5 := Lib.hid (below_next B4.out hb)
  clear hb hown0 O_r0_0_4 O_r1_0_4
  go_wp2_with fail
  refine (eqInts_own GR0.out O_r5_0_5.out O_r0_0_5.out).mono ?_
  rintro e w_6 ⟨rfl, hb⟩
  have Z6 : Hid (w_5.heap.size ≤ w_6.heap.size) := Lib.hid hb.size
  have O_r0_0_6 := Lib.hid (own_below O_r0_0_5.out hb)
  have O_r1_0_6 := Lib.hid (own_below O_r1_0_5.out hb)
  have O_r5_0_6 := Lib.hid (own_below O_r5_0_5.out hb)
  have B6 := Lib.hid (below_next B5.out hb)
  clear hb O_r0_0_5 O_r1_0_5 O_r5_0_5
  clear O_r0_0_6 O_r5_0_6
  go_wp2_with fail
  refine (HHK1.out _ _ _ _ O_r1_0_6.out).mono ?_
  rintro e w_7 ⟨rfl, rfl⟩
  clear O_r1_0_6
  go_wp2
  go_ret
  exact ⟨rfl, B6.out⟩
end Go.Proofs.YtbocdhibimcobaaDoor
