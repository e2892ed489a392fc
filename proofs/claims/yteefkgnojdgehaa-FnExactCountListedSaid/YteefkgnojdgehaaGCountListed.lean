/- FnExactCountListed: the law's walk. No condition but the arguments' lengths. -/
import Derived.Test.YteefkgnojdgehaaOpenI
import Derived.Test.YteefkgnojdgehaaListed
namespace Go.Proofs.Yteefkgnojdgehaa
open Go.RowKit

set_option maxRecDepth 100000 in
set_option maxHeartbeats 8000000 in
theorem lawCountListed_walk (A0 : Option Addr) (c0 : Nat) (L0 : List ByteArray) (w : World) (l0 : L0.length ≤ maxLen) (f0 : ∀ s ∈ L0, s.size ≤ maxLen) (q0 : L0.length ≤ c0) (h0 : StrSl w A0 L0) :
    Calls Try.prog 5 #[.slice A0 L0.length c0] w fun e w' => e = .returned (.bool true) ∧ Below w.heap.size w w' := by
  have _ := l0
  have _ := f0
  have _ := q0
  have _ := h0
  have HSZ0 := Lib.hid (szStringS_any A0 c0 L0 w l0 f0 h0)
  by_cases g0 : ¬ L0.length + szB L0 ≤ 1048576
  · go_enter Try.func5, Try.ntmps5
    go_wp2_with fail
    refine HSZ0.out.mono ?_
    rintro e w' ⟨r, rfl, hr, rfl⟩
    have hd : decide (r < 0) = true := decide_eq_true (by omega)
    go_wp2
    go_ret
    exact ⟨rfl, Below.refl _ _⟩
  rw [Decidable.not_not] at g0
  obtain ⟨R0, hR0⟩ : ∃ R, R = (clsR L0) := ⟨_, rfl⟩
  obtain ⟨R1, hR1⟩ : ∃ R, R = (okLs L0) := ⟨_, rfl⟩
  have HTO0 := Lib.hid fun W (hW : Below w.heap.size w W) => toStringS_any A0 c0 L0 W (by omega) (h0.below hW)
  have HS := Lib.hid fun (A0 : Option Addr) (W : World) (h0 : StrSl W A0 L0) => specCountListed_any A0 L0.length L0 W g0 f0 (Nat.le_refl _) h0
  have HI := Lib.hid fun (A0 : Option Addr) (W : World) (h0 : StrSl W A0 L0) => implCountListed_any A0 L0.length L0 W g0 f0 (Nat.le_refl _) h0
  rw [← hR0, ← hR1] at HS HI
  clear hR0 hR1
  have GL0 := Lib.hid (show L0.length ≤ 1048576 by omega)
  clear f0 q0 h0
  have B0 := Lib.hid (Below.refl w.heap.size w)
  go_enter Try.func5, Try.ntmps5
  go_wp2_with fail
  refine HSZ0.out.mono ?_
  rintro e w' ⟨r0z, rfl, hr, rfl⟩
  rcases hr with hr | ⟨hr, -⟩
  · have hd : decide (r0z < 0) = true := decide_eq_true hr
    go_wp2
    go_ret
    exact ⟨rfl, Below.refl _ _⟩
  have hd0 : decide (r0z < 0) = false := decide_eq_false (by omega)
  clear HSZ0
  go_wp2_with fail
  refine (HTO0.out w B0.out).mono ?_
  rintro e w_1 ⟨rfl, hown, hb⟩
  have Z1 : Hid (w.heap.size ≤ w_1.heap.size) := Lib.hid hb.size
  have D_r0 := Lib.hid (OwnT.lt hown)
  have O_r0_1 := Lib.hid hown
  have B1 := Lib.hid (below_next B0.out hb)
  clear hown hb 
  go_wp2_with fail
  refine (HS.out _ w_1 (StrSl.of_own O_r0_1.out)).mono ?_
  rintro e w_2 ⟨rfl, hb⟩
  have Z2 : Hid (w_1.heap.size ≤ w_2.heap.size) := Lib.hid hb.size
  have O_r0_2 := Lib.hid (own_below O_r0_1.out hb)
  have B2 := Lib.hid (below_next B1.out hb)
  clear hb  O_r0_1
  clear O_r0_2
  go_wp2_with fail
  refine (HTO0.out w_2 B2.out).mono ?_
  rintro e w_3 ⟨rfl, hown, hb⟩
  have Z3 : Hid (w_2.heap.size ≤ w_3.heap.size) := Lib.hid hb.size
  have D_r2 := Lib.hid (OwnT.lt hown)
  have O_r2_3 := Lib.hid hown
  have B3 := Lib.hid (below_next B2.out hb)
  clear hown hb 
  go_wp2_with fail
  refine (HI.out _ w_3 (StrSl.of_own O_r2_3.out)).mono ?_
  rintro e w_4 ⟨rfl, hb⟩
  have Z4 : Hid (w_3.heap.size ≤ w_4.heap.size) := Lib.hid hb.size
  have O_r2_4 := Lib.hid (own_below O_r2_3.out hb)
  have B4 := Lib.hid (below_next B3.out hb)
  clear hb  O_r2_3
  go_wp2_with fail
  refine (HTO0.out w_4 B4.out).mono ?_
  rintro e w_5 ⟨rfl, hown, hb⟩
  have Z5 : Hid (w_4.heap.size ≤ w_5.heap.size) := Lib.hid hb.size
  have D_r4 := Lib.hid (OwnT.lt hown)
  have O_r2_5 := Lib.hid (own_below O_r2_4.out hb)
  have O_r4_5 := Lib.hid hown
  have B5 := Lib.hid (below_next B4.out hb)
  clear hown hb O_r2_4
  go_wp2_with fail
  refine (eqStrs_own GL0.out O_r2_5.out O_r4_5.out).mono ?_
  rintro e w_6 ⟨rfl, hb⟩
  have Z6 : Hid (w_5.heap.size ≤ w_6.heap.size) := Lib.hid hb.size
  have O_r2_6 := Lib.hid (own_below O_r2_5.out hb)
  have O_r4_6 := Lib.hid (own_below O_r4_5.out hb)
  have B6 := Lib.hid (below_next B5.out hb)
  clear hb O_r2_5 O_r4_5
  clear O_r2_6 O_r4_6
  go_wp2
  go_ret
  exact ⟨rfl, B6.out⟩
end Go.Proofs.Yteefkgnojdgehaa
