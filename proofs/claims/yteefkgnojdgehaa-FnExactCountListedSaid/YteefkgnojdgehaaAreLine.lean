/- 'impl.areBoards' of boards in a line. No condition. -/
import Derived.Test.YteefkgnojdgehaaMem
namespace Go.Proofs.Yteefkgnojdgehaa
open Go.RowKit

def okLine (q : Int) : Bool := decide (1 ≤ q ∧ q ≤ 20)
theorem areLine_any (q : Int) (w : World) : Calls Try.prog 40 #[.int .i64 q, .bool false] w fun e w' => e = .returned (.bool (okLine q)) ∧ w = w' := by
  by_cases h1 : 1 ≤ q
  · by_cases h2 : q ≤ 20
    · have H : Hid (okLine q = true) := Lib.hid (decide_eq_true ⟨h1, h2⟩)
      go_enter Try.func40, Try.ntmps40
      go_wp2
      go_ret
      exact ⟨ret_bool H.out.symm, rfl⟩
    · have H : Hid (okLine q = false) := Lib.hid (decide_eq_false fun h => h2 h.2)
      go_enter Try.func40, Try.ntmps40
      go_wp2
      go_ret
      exact ⟨ret_bool H.out.symm, rfl⟩
  · have H : Hid (okLine q = false) := Lib.hid (decide_eq_false fun h => h1 h.1)
    go_enter Try.func40, Try.ntmps40
    go_wp2
    go_ret
    exact ⟨ret_bool H.out.symm, rfl⟩
end Go.Proofs.Yteefkgnojdgehaa
