/- FnExactIsEven: the law's walk. No condition but the arguments' lengths. -/
import Derived.Test.YtbocdhibimcobaaOpenI
import Derived.Test.YtbocdhibimcobaaEvenI
import Derived.Test.YtbocdhibimcobaaEvenI2
namespace Go.Proofs.Ytbocdhibimcobaa
open Go.RowKit

set_option maxRecDepth 100000 in
set_option maxHeartbeats 8000000 in
theorem lawIsEven_walk (a0 : Int) (A1 : Option Addr) (c1 : Nat) (L1 : List Int) (w : World) (w0 : (Lit.int .i64 a0).wf = true) (l1 : L1.length ≤ maxLen) (f1 : WfL L1) (q1 : L1.length ≤ c1) (h1 : IntSl w A1 L1) :
    Calls Try.prog 9 #[.int .i64 a0, .slice A1 L1.length c1] w fun e w' => e = .returned (.bool true) ∧ Below w.heap.size w w' := by
  have _ := w0
  have _ := l1
  have _ := f1
  have _ := q1
  have _ := h1
  unfold maxLen at l1
  by_cases g1 : ¬ L1.length ≤ 1048576
  · go_enter Try.func9, Try.ntmps9
    go_wp2
    go_ret
    exact ⟨rfl, Below.refl _ _⟩
  rw [Decidable.not_not] at g1
  obtain ⟨R0, hR0⟩ : ∃ R, R = (isEv a0 L1) := ⟨_, rfl⟩
  obtain ⟨R1, hR1⟩ : ∃ R, R = (okGa a0 L1) := ⟨_, rfl⟩
  have HTO1 := Lib.hid fun W (hW : Below w.heap.size w W) => toIntS_any A1 c1 L1 W g1 (h1.below hW)
  have HS := Lib.hid fun (A1 : Option Addr) (W : World) (h1 : IntSl W A1 L1) => specIsEven_any a0 A1 L1.length L1 W w0 g1 f1 (Nat.le_refl _) h1
  have HI := Lib.hid fun (A1 : Option Addr) (W : World) (h1 : IntSl W A1 L1) => implIsEven_any a0 A1 L1.length L1 W w0 g1 f1 (Nat.le_refl _) h1
  rw [← hR0, ← hR1] at HS HI
  clear hR0 hR1
  have GL1 := Lib.hid g1
  clear f1 q1 h1 w0
  have B0 := Lib.hid (Below.refl w.heap.size w)
  go_enter Try.func9, Try.ntmps9
  go_wp2_with fail
  refine (HTO1.out w B0.out).mono ?_
  rintro e w_1 ⟨rfl, hown, hb⟩
  have Z1 : Hid (w.heap.size ≤ w_1.heap.size) := Lib.hid hb.size
  have D_r0 := Lib.hid (OwnInts.lt hown)
  have O_r0_1 := Lib.hid hown
  have B1 := Lib.hid (below_next B0.out hb)
  clear hown hb 
  go_wp2_with fail
  refine (HS.out _ w_1 (IntSl.of_own O_r0_1.out)).mono ?_
  rintro e w_2 ⟨rfl, hb⟩
  have Z2 : Hid (w_1.heap.size ≤ w_2.heap.size) := Lib.hid hb.size
  have O_r0_2 := Lib.hid (own_below O_r0_1.out hb)
  have B2 := Lib.hid (below_next B1.out hb)
  clear hb  O_r0_1
  clear O_r0_2
  go_wp2_with fail
  refine (HTO1.out w_2 B2.out).mono ?_
  rintro e w_3 ⟨rfl, hown, hb⟩
  have Z3 : Hid (w_2.heap.size ≤ w_3.heap.size) := Lib.hid hb.size
  have D_r2 := Lib.hid (OwnInts.lt hown)
  have O_r2_3 := Lib.hid hown
  have B3 := Lib.hid (below_next B2.out hb)
  clear hown hb 
  go_wp2_with fail
  refine (HI.out _ w_3 (IntSl.of_own O_r2_3.out)).mono ?_
  rintro e w_4 ⟨rfl, hb⟩
  have Z4 : Hid (w_3.heap.size ≤ w_4.heap.size) := Lib.hid hb.size
  have O_r2_4 := Lib.hid (own_below O_r2_3.out hb)
  have B4 := Lib.hid (below_next B3.out hb)
  clear hb  O_r2_3
  go_wp2_with fail
  refine (HTO1.out w_4 B4.out).mono ?_
  rintro e w_5 ⟨rfl, hown, hb⟩
  have Z5 : Hid (w_4.heap.size ≤ w_5.heap.size) := Lib.hid hb.size
  have D_r4 := Lib.hid (OwnInts.lt hown)
  have O_r2_5 := Lib.hid (own_below O_r2_4.out hb)
  have O_r4_5 := Lib.hid hown
  have B5 := Lib.hid (below_next B4.out hb)
  clear hown hb O_r2_4
  go_wp2_with fail
  refine (eqInts_own GL1.out O_r2_5.out O_r4_5.out).mono ?_
  rintro e w_6 ⟨rfl, hb⟩
  have Z6 : Hid (w_5.heap.size ≤ w_6.heap.size) := Lib.hid hb.size
  have O_r2_6 := Lib.hid (own_below O_r2_5.out hb)
  have O_r4_6 := Lib.hid (own_below O_r4_5.out hb)
  have B6 := Lib.hid (below_next B5.out hb)
  clear hb O_r2_5 O_r4_5
  clear O_r2_6 O_r4_6
  go_wp2
  go_ret
  exact ⟨rfl, B6.out⟩
end Go.Proofs.Ytbocdhibimcobaa
