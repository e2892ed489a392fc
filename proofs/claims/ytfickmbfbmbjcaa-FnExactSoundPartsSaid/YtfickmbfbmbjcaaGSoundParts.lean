/- FnExactSoundParts: the law's walk. No condition but the arguments' lengths. -/
import Derived.Test.YtfickmbfbmbjcaaOpenI
import Derived.Test.YtfickmbfbmbjcaaSound2
namespace Go.Proofs.Ytfickmbfbmbjcaa
open Go.RowKit

set_option maxRecDepth 100000 in
set_option maxHeartbeats 8000000 in
theorem lawSoundParts_walk (s0 : ByteArray) (w : World) (z0 : s0.size ≤ maxLen) :
    Calls Try.prog 7 #[.string s0] w fun e w' => e = .returned (.bool true) ∧ Below w.heap.size w w' := by
  have _ := z0
  have z0m := z0
  unfold maxLen at z0
  by_cases g0 : ¬ s0.size ≤ 1048576
  · go_enter Try.func7, Try.ntmps7
    go_wp2
    go_ret
    exact ⟨rfl, Below.refl _ _⟩
  rw [Decidable.not_not] at g0
  obtain ⟨R0, hR0⟩ : ∃ R, R = (sndR s0) := ⟨_, rfl⟩
  obtain ⟨R1, hR1⟩ : ∃ R, R = (okYard s0) := ⟨_, rfl⟩
  have HS := Lib.hid fun  (W : World)  => specSoundParts_any s0 W z0m
  have HI := Lib.hid fun  (W : World)  => implSoundParts_any s0 W z0m
  have hZ0 : SSok (sndR s0) := sndR_ok s0
  rw [← hR0, ← hR1] at HS HI
  rw [← hR0] at hZ0
  clear hR0 hR1
  obtain ⟨Q0, hQ0⟩ : ∃ Q : Int, Q = ((1 + szL R0 : Nat) : Int) := ⟨_, rfl⟩
  have nQ0 : ¬ Q0 < 0 := by omega
  have HMK0 : Hid (∀ (b t : Nat) (v : Value) (vs : List Value) (W : World), b ≤ W.heap.size → RowsTo W b t v vs (R0.map intsV) → Calls Try.prog 38 #[v, .int .i64 1] W fun e w' => e = .returned (.int .i64 Q0) ∧ RowsTo w' b t v vs (marksZ (1) R0) ∧ Below b W w') := Lib.hid fun b t v vs W h0 h => by
    rw [hQ0]; exact markSS_any b t v R0 W (1) (by have := hZ0.2.2; omega) hZ0.1 hZ0.2.1 vs h0 h
  have HHK1 : Hid (∀ (b t : Nat) (v : Value) (vs : List Value) (W : World), RowsTo W b t v vs (marksZ (1) R0) → Calls Try.prog 39 #[v, .int .i64 1] W fun e w' => e = .returned (.int .i64 Q0) ∧ W = w') := Lib.hid fun b t v vs W h => by
    rw [hQ0]; exact heldSS_any b t v R0 W (1) (by have := hZ0.2.2; omega) hZ0.1 hZ0.2.1 vs h
  have GR0 := Lib.hid hZ0
  clear hQ0
  have B0 := Lib.hid (Below.refl w.heap.size w)
  go_enter Try.func7, Try.ntmps7
  go_wp2_with fail
  refine (HS.out  w ).mono ?_
  rintro e w_1 ⟨v_r0_0, rfl, hown0, hb⟩
  have Z1 : Hid (w.heap.size ≤ w_1.heap.size) := Lib.hid hb.size
  have O_r0_0_1 := Lib.hid hown0
  have B1 := Lib.hid (below_next B0.out hb)
  clear hb hown0 
  go_wp2_with fail
  refine (HI.out  w_1 ).mono ?_
  rintro e w_2 ⟨v_r1_0, rfl, hown0, hb⟩
  have Z2 : Hid (w_1.heap.size ≤ w_2.heap.size) := Lib.hid hb.size
  have O_r0_0_2 := Lib.hid (OwnSS.below O_r0_0_1.out (hb.mono (by have := Z1.out; omega)))
  have O_r1_0_2 := Lib.hid hown0
  have B2 := Lib.hid (below_next B1.out hb)
  clear hb hown0 O_r0_0_1
  go_wp2_with fail
  refine (eqSS_any _ _ _ _ _ _ _ _ GR0.out.1 GR0.out.2.1 O_r1_0_2.out O_r0_0_2.out).mono ?_
  rintro e w_3 ⟨rfl, hb⟩
  have Z3 : Hid (w_2.heap.size ≤ w_3.heap.size) := Lib.hid hb.size
  have O_r0_0_3 := Lib.hid (OwnSS.below O_r0_0_2.out (hb.mono (by have := Z1.out; have := Z2.out; omega)))
  have O_r1_0_3 := Lib.hid (OwnSS.below O_r1_0_2.out (hb.mono (by have := Z1.out; have := Z2.out; omega)))
  have B3 := Lib.hid (below_next B2.out hb)
  clear hb O_r0_0_2 O_r1_0_2
  go_wp2_with fail
  obtain ⟨vs_r1_0, hss⟩ := O_r1_0_3.out
  refine (HMK0.out _ _ _ _ _ (by have := Z1.out; have := Z2.out; have := Z3.out; omega) hss).mono ?_
  rintro e w_4 ⟨rfl, hown, hb⟩
  have Z4 : Hid (w_3.heap.size ≤ w_4.heap.size) := Lib.hid (hb.size)
  have O_r0_0_4 := Lib.hid (OwnSS.below O_r0_0_3.out (hb.mono (by have := Z1.out; have := Z2.out; have := Z3.out; omega)))
  have B4 := Lib.hid (B3.out.trans (hb.mono (by have := Z1.out; have := Z2.out; have := Z3.out; omega)))
  have O_r1_0_4 := Lib.hid hown
  clear hown hb hss O_r0_0_3 O_r1_0_3
  go_wp2_with fail
  refine (HHK1.out _ _ _ _ _ O_r1_0_4.out).mono ?_
  rintro e w_5 ⟨rfl, rfl⟩
  go_wp2_with fail
  refine (HI.out  w_4 ).mono ?_
  rintro e w_5 ⟨v_r5_0, rfl, hown0, hb⟩
  have Z5 : Hid (w_4.heap.size ≤ w_5.heap.size) := Lib.hid hb.size
  have O_r0_0_5 := Lib.hid (OwnSS.below O_r0_0_4.out (hb.mono (by have := Z1.out; have := Z2.out; have := Z3.out; have := Z4.out; omega)))
  have O_r1_0_5 := Lib.hid (RowsTo.below O_r1_0_4.out (hb.mono (by have := Z1.out; have := Z2.out; have := Z3.out; have := Z4.out; omega)))
  have O_r5_0_5 := Lib.hid hown0
  have B5 := Lib.hid (below_next B4.out hb)
  clear hb hown0 O_r0_0_4 O_r1_0_4
  go_wp2_with fail
  refine (eqSS_any _ _ _ _ _ _ _ _ GR0.out.1 GR0.out.2.1 O_r5_0_5.out O_r0_0_5.out).mono ?_
  rintro e w_6 ⟨rfl, hb⟩
  have Z6 : Hid (w_5.heap.size ≤ w_6.heap.size) := Lib.hid hb.size
  have O_r0_0_6 := Lib.hid (OwnSS.below O_r0_0_5.out (hb.mono (by have := Z1.out; have := Z2.out; have := Z3.out; have := Z4.out; have := Z5.out; omega)))
  have O_r1_0_6 := Lib.hid (RowsTo.below O_r1_0_5.out (hb.mono (by have := Z1.out; have := Z2.out; have := Z3.out; have := Z4.out; have := Z5.out; omega)))
  have O_r5_0_6 := Lib.hid (OwnSS.below O_r5_0_5.out (hb.mono (by have := Z1.out; have := Z2.out; have := Z3.out; have := Z4.out; have := Z5.out; omega)))
  have B6 := Lib.hid (below_next B5.out hb)
  clear hb O_r0_0_5 O_r1_0_5 O_r5_0_5
  clear O_r0_0_6 O_r5_0_6
  go_wp2_with fail
  refine (HHK1.out _ _ _ _ _ O_r1_0_6.out).mono ?_
  rintro e w_7 ⟨rfl, rfl⟩
  clear O_r1_0_6
  go_wp2
  go_ret
  exact ⟨rfl, B6.out⟩
end Go.Proofs.Ytfickmbfbmbjcaa
