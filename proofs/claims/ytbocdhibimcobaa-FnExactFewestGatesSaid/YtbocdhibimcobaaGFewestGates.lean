/- FnExactFewestGates: the law's walk. No condition but the arguments' lengths. -/
import Derived.Test.YtbocdhibimcobaaOpenI
import Derived.Test.YtbocdhibimcobaaGWays
namespace Go.Proofs.Ytbocdhibimcobaa
open Go.RowKit

set_option maxRecDepth 100000 in
set_option maxHeartbeats 8000000 in
theorem lawFewestGates_walk (a0 : Int) (a1 : Int) (w : World) (w0 : (Lit.int .i64 a0).wf = true) (w1 : (Lit.int .i64 a1).wf = true) :
    Calls Try.prog 12 #[.int .i64 a0, .int .i64 a1] w fun e w' => e = .returned (.bool true) ∧ Below w.heap.size w w' := by
  have _ := w0
  have _ := w1
  obtain ⟨R0, hR0⟩ : ∃ R, R = (fgR a0 a1) := ⟨_, rfl⟩
  obtain ⟨R1, hR1⟩ : ∃ R, R = (okFg a0 a1) := ⟨_, rfl⟩
  have HS := Lib.hid fun  (W : World)  => specFewestGates_any a0 a1 W w0 w1
  have HI := Lib.hid fun  (W : World)  => implFewestGates_any a0 a1 W w0 w1
  rw [← hR0, ← hR1] at HS HI
  clear hR0 hR1
  clear w0 w1
  have B0 := Lib.hid (Below.refl w.heap.size w)
  go_enter Try.func12, Try.ntmps12
  go_wp2_with fail
  refine (HS.out  w ).mono ?_
  rintro e w_1 ⟨rfl, hb⟩
  have Z1 : Hid (w.heap.size ≤ w_1.heap.size) := Lib.hid hb.size
  have B1 := Lib.hid (below_next B0.out hb)
  clear hb  
  go_wp2_with fail
  refine (HI.out  w_1 ).mono ?_
  rintro e w_2 ⟨rfl, hb⟩
  have Z2 : Hid (w_1.heap.size ≤ w_2.heap.size) := Lib.hid hb.size
  have B2 := Lib.hid (below_next B1.out hb)
  clear hb  
  go_wp2
  go_ret
  exact ⟨rfl, B2.out⟩
end Go.Proofs.Ytbocdhibimcobaa
