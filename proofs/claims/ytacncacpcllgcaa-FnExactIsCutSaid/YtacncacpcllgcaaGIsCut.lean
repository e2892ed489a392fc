/- FnExactIsCut: the law's walk. No condition but the arguments' lengths. -/
import Derived.Test.YtacncacpcllgcaaOpenI
import Derived.Test.YtacncacpcllgcaaCuts2
import Derived.Test.YtacncacpcllgcaaCuts3
namespace Go.Proofs.Ytacncacpcllgcaa
open Go.RowKit

set_option maxRecDepth 100000 in
set_option maxHeartbeats 8000000 in
theorem lawIsCut_walk (A0 : Option Addr) (c0 : Nat) (L0 : List Int) (a1 : Int) (A2 : Option Addr) (c2 : Nat) (L2 : List Int) (w : World) (l0 : L0.length ≤ maxLen) (f0 : WfL L0) (q0 : L0.length ≤ c0) (h0 : IntSl w A0 L0) (w1 : (Lit.int .i64 a1).wf = true) (l2 : L2.length ≤ maxLen) (f2 : WfL L2) (q2 : L2.length ≤ c2) (h2 : IntSl w A2 L2) :
    Calls Try.prog 13 #[.slice A0 L0.length c0, .int .i64 a1, .slice A2 L2.length c2] w fun e w' => e = .returned (.bool true) ∧ Below w.heap.size w w' := by
  have _ := l0
  have _ := f0
  have _ := q0
  have _ := h0
  have _ := w1
  have _ := l2
  have _ := f2
  have _ := q2
  have _ := h2
  unfold maxLen at l0 l2
  by_cases g0 : ¬ L0.length ≤ 1048576
  · go_enter Try.func13, Try.ntmps13
    go_wp2
    go_ret
    exact ⟨rfl, Below.refl _ _⟩
  rw [Decidable.not_not] at g0
  by_cases g2 : ¬ L2.length ≤ 1048576
  · go_enter Try.func13, Try.ntmps13
    go_wp2
    go_ret
    exact ⟨rfl, Below.refl _ _⟩
  rw [Decidable.not_not] at g2
  obtain ⟨R0, hR0⟩ : ∃ R, R = (okCt L0 a1 L2) := ⟨_, rfl⟩
  obtain ⟨R1, hR1⟩ : ∃ R, R = (okRa L0 && okL a1) := ⟨_, rfl⟩
  have HTO0 := Lib.hid fun W (hW : Below w.heap.size w W) => toIntS_any A0 c0 L0 W g0 (h0.below hW)
  have HTO2 := Lib.hid fun W (hW : Below w.heap.size w W) => toIntS_any A2 c2 L2 W g2 (h2.below hW)
  have HS := Lib.hid fun (A0 : Option Addr) (A2 : Option Addr) (W : World) (h0 : IntSl W A0 L0) (h2 : IntSl W A2 L2) => specIsCut_any A0 L0.length L0 a1 A2 L2.length L2 W g0 f0 (Nat.le_refl _) h0 w1 g2 f2 (Nat.le_refl _) h2
  have HI := Lib.hid fun (A0 : Option Addr) (A2 : Option Addr) (W : World) (h0 : IntSl W A0 L0) (h2 : IntSl W A2 L2) => implIsCut_any A0 L0.length L0 a1 A2 L2.length L2 W g0 f0 (Nat.le_refl _) h0 w1 g2 f2 (Nat.le_refl _) h2
  rw [← hR0, ← hR1] at HS HI
  clear hR0 hR1
  have GL0 := Lib.hid g0
  have GL2 := Lib.hid g2
  clear f0 q0 h0 f2 q2 h2 w1
  have B0 := Lib.hid (Below.refl w.heap.size w)
  go_enter Try.func13, Try.ntmps13
  go_wp2_with fail
  refine (HTO0.out w B0.out).mono ?_
  rintro e w_1 ⟨rfl, hown, hb⟩
  have Z1 : Hid (w.heap.size ≤ w_1.heap.size) := Lib.hid hb.size
  have D_r0 := Lib.hid (OwnInts.lt hown)
  have O_r0_1 := Lib.hid hown
  have B1 := Lib.hid (below_next B0.out hb)
  clear hown hb 
  go_wp2_with fail
  refine (HTO2.out w_1 B1.out).mono ?_
  rintro e w_2 ⟨rfl, hown, hb⟩
  have Z2 : Hid (w_1.heap.size ≤ w_2.heap.size) := Lib.hid hb.size
  have D_r1 := Lib.hid (OwnInts.lt hown)
  have O_r0_2 := Lib.hid (own_below O_r0_1.out hb)
  have O_r1_2 := Lib.hid hown
  have B2 := Lib.hid (below_next B1.out hb)
  clear hown hb O_r0_1
  go_wp2_with fail
  refine (HS.out _ _ w_2 (IntSl.of_own O_r0_2.out) (IntSl.of_own O_r1_2.out)).mono ?_
  rintro e w_3 ⟨rfl, hb⟩
  have Z3 : Hid (w_2.heap.size ≤ w_3.heap.size) := Lib.hid hb.size
  have O_r0_3 := Lib.hid (own_below O_r0_2.out hb)
  have O_r1_3 := Lib.hid (own_below O_r1_2.out hb)
  have B3 := Lib.hid (below_next B2.out hb)
  clear hb  O_r0_2 O_r1_2
  clear O_r0_3 O_r1_3
  go_wp2_with fail
  refine (HTO0.out w_3 B3.out).mono ?_
  rintro e w_4 ⟨rfl, hown, hb⟩
  have Z4 : Hid (w_3.heap.size ≤ w_4.heap.size) := Lib.hid hb.size
  have D_r3 := Lib.hid (OwnInts.lt hown)
  have O_r3_4 := Lib.hid hown
  have B4 := Lib.hid (below_next B3.out hb)
  clear hown hb 
  go_wp2_with fail
  refine (HTO2.out w_4 B4.out).mono ?_
  rintro e w_5 ⟨rfl, hown, hb⟩
  have Z5 : Hid (w_4.heap.size ≤ w_5.heap.size) := Lib.hid hb.size
  have D_r4 := Lib.hid (OwnInts.lt hown)
  have O_r3_5 := Lib.hid (own_below O_r3_4.out hb)
  have O_r4_5 := Lib.hid hown
  have B5 := Lib.hid (below_next B4.out hb)
  clear hown hb O_r3_4
  go_wp2_with fail
  refine (HI.out _ _ w_5 (IntSl.of_own O_r3_5.out) (IntSl.of_own O_r4_5.out)).mono ?_
  rintro e w_6 ⟨rfl, hb⟩
  have Z6 : Hid (w_5.heap.size ≤ w_6.heap.size) := Lib.hid hb.size
  have O_r3_6 := Lib.hid (own_below O_r3_5.out hb)
  have O_r4_6 := Lib.hid (own_below O_r4_5.out hb)
  have B6 := Lib.hid (below_next B5.out hb)
  clear hb  O_r3_5 O_r4_5
  go_wp2_with fail
  refine (HTO0.out w_6 B6.out).mono ?_
  rintro e w_7 ⟨rfl, hown, hb⟩
  have Z7 : Hid (w_6.heap.size ≤ w_7.heap.size) := Lib.hid hb.size
  have D_r6 := Lib.hid (OwnInts.lt hown)
  have O_r3_7 := Lib.hid (own_below O_r3_6.out hb)
  have O_r4_7 := Lib.hid (own_below O_r4_6.out hb)
  have O_r6_7 := Lib.hid hown
  have B7 := Lib.hid (below_next B6.out hb)
  clear hown hb O_r3_6 O_r4_6
  go_wp2_with fail
  refine (eqInts_own GL0.out O_r3_7.out O_r6_7.out).mono ?_
  rintro e w_8 ⟨rfl, hb⟩
  have Z8 : Hid (w_7.heap.size ≤ w_8.heap.size) := Lib.hid hb.size
  have O_r3_8 := Lib.hid (own_below O_r3_7.out hb)
  have O_r4_8 := Lib.hid (own_below O_r4_7.out hb)
  have O_r6_8 := Lib.hid (own_below O_r6_7.out hb)
  have B8 := Lib.hid (below_next B7.out hb)
  clear hb O_r3_7 O_r4_7 O_r6_7
  clear O_r3_8 O_r6_8
  go_wp2_with fail
  refine (HTO2.out w_8 B8.out).mono ?_
  rintro e w_9 ⟨rfl, hown, hb⟩
  have Z9 : Hid (w_8.heap.size ≤ w_9.heap.size) := Lib.hid hb.size
  have D_r8 := Lib.hid (OwnInts.lt hown)
  have O_r4_9 := Lib.hid (own_below O_r4_8.out hb)
  have O_r8_9 := Lib.hid hown
  have B9 := Lib.hid (below_next B8.out hb)
  clear hown hb O_r4_8
  go_wp2_with fail
  refine (eqInts_own GL2.out O_r4_9.out O_r8_9.out).mono ?_
  rintro e w_10 ⟨rfl, hb⟩
  have Z10 : Hid (w_9.heap.size ≤ w_10.heap.size) := Lib.hid hb.size
  have O_r4_10 := Lib.hid (own_below O_r4_9.out hb)
  have O_r8_10 := Lib.hid (own_below O_r8_9.out hb)
  have B10 := Lib.hid (below_next B9.out hb)
  clear hb O_r4_9 O_r8_9
  clear O_r4_10 O_r8_10
  go_wp2
  go_ret
  exact ⟨rfl, B10.out⟩
end Go.Proofs.Ytacncacpcllgcaa
