/- FnExactBreakBoard: the law's walk. No condition but the arguments' lengths. -/
import Derived.Test.YtfickmbfbmbjcaaOpenI
import Derived.Test.YtfickmbfbmbjcaaBreak
namespace Go.Proofs.Ytfickmbfbmbjcaa
open Go.RowKit

set_option maxRecDepth 100000 in
set_option maxHeartbeats 8000000 in
theorem lawBreakBoard_walk (s0 : ByteArray) (a1 : Int) (w : World) (z0 : s0.size ≤ maxLen) (w1 : (Lit.int .i64 a1).wf = true) :
    Calls Try.prog 18 #[.string s0, .int .i64 a1] w fun e w' => e = .returned (.bool true) ∧ Below w.heap.size w w' := by
  have _ := z0
  have _ := w1
  have z0m := z0
  unfold maxLen at z0
  by_cases g0 : ¬ s0.size ≤ 1048576
  · go_enter Try.func18, Try.ntmps18
    go_wp2
    go_ret
    exact ⟨rfl, Below.refl _ _⟩
  rw [Decidable.not_not] at g0
  obtain ⟨R0, hR0⟩ : ∃ R, R = (brkR2 s0 a1) := ⟨_, rfl⟩
  obtain ⟨R1, hR1⟩ : ∃ R, R = (okBrk s0 a1) := ⟨_, rfl⟩
  have HS := Lib.hid fun  (W : World)  => specBreakBoard_any s0 a1 W z0m w1
  have HI := Lib.hid fun  (W : World)  => implBreakBoard_any s0 a1 W z0m w1
  rw [← hR0, ← hR1] at HS HI
  clear hR0 hR1
  clear w1
  have B0 := Lib.hid (Below.refl w.heap.size w)
  go_enter Try.func18, Try.ntmps18
  go_wp2_with fail
  refine (HS.out  w ).mono ?_
  rintro e w_1 ⟨rfl, hb⟩
  have Z1 : Hid (w.heap.size ≤ w_1.heap.size) := Lib.hid hb.size
  have B1 := Lib.hid (below_next B0.out hb)
  clear hb  
  go_wp2_with fail
  refine (HI.out  w_1 ).mono ?_
  rintro e w_2 ⟨rfl, hb⟩
  have Z2 : Hid (w_1.heap.size ≤ w_2.heap.size) := Lib.hid hb.size
  have B2 := Lib.hid (below_next B1.out hb)
  clear hb  
  go_wp2
  go_ret
  exact ⟨rfl, B2.out⟩
end Go.Proofs.Ytfickmbfbmbjcaa
