/- FnExactFewestOver: the law's walk. No condition but the arguments' lengths. -/
import Derived.Test.YtohmodjigneldaaFewLaw
namespace Go.Proofs.Ytohmodjigneldaa
open Go.RowKit

set_option maxRecDepth 100000 in
set_option maxHeartbeats 8000000 in
theorem lawFewestOver_walk (s0 : ByteArray) (s1 : ByteArray) (w : World) (z0 : s0.size ≤ maxLen) (z1 : s1.size ≤ maxLen) :
    Calls Try.prog 4 #[.string s0, .string s1] w fun e w' => e = .returned (.bool true) ∧ Below w.heap.size w w' := by
  have _ := z0
  have _ := z1
  have z0m := z0
  have z1m := z1
  unfold maxLen at z0 z1
  by_cases g0 : ¬ s0.size ≤ 1048576
  · go_enter Try.func4, Try.ntmps4
    go_wp2
    go_ret
    exact ⟨rfl, Below.refl _ _⟩
  rw [Decidable.not_not] at g0
  by_cases g1 : ¬ s1.size ≤ 1048576
  · go_enter Try.func4, Try.ntmps4
    go_wp2
    go_ret
    exact ⟨rfl, Below.refl _ _⟩
  rw [Decidable.not_not] at g1
  obtain ⟨R0, hR0⟩ : ∃ R, R = (foR s0 s1) := ⟨_, rfl⟩
  obtain ⟨R1, hR1⟩ : ∃ R, R = (okLead s0 s1) := ⟨_, rfl⟩
  have HS := Lib.hid fun  (W : World)  => specFewestOver_any s0 s1 W z0m z1m
  have HI := Lib.hid fun  (W : World)  => implFewestOver_any s0 s1 W z0m z1m
  rw [← hR0, ← hR1] at HS HI
  clear hR0 hR1
  have B0 := Lib.hid (Below.refl w.heap.size w)
  go_enter Try.func4, Try.ntmps4
  go_wp2_with fail
  refine (HS.out  w ).mono ?_
  rintro e w_1 ⟨rfl, hb⟩
  have Z1 : Hid (w.heap.size ≤ w_1.heap.size) := Lib.hid hb.size
  have B1 := Lib.hid (fbelow_next B0.out hb)
  clear hb  
  go_wp2_with fail
  refine (HI.out  w_1 ).mono ?_
  rintro e w_2 ⟨rfl, hb⟩
  have Z2 : Hid (w_1.heap.size ≤ w_2.heap.size) := Lib.hid hb.size
  have B2 := Lib.hid (fbelow_next B1.out hb)
  clear hb  
  go_wp2
  go_ret
  exact ⟨rfl, B2.out⟩
end Go.Proofs.Ytohmodjigneldaa
