/- Widths, rates and painters: who checks them. No condition but the lists' lengths. -/
import Derived.Test.YtbocdhibimcobaaDoorNums
namespace Go.Proofs.YtbocdhibimcobaaDoor
open Go.RowKit

def okW (L : List Int) : Bool := okNums 12 100 L
def okR (L : List Int) : Bool := okNums 5 20 L
theorem implAreWidths_any (A0 : Option Addr) (c0 : Nat) (L0 : List Int) (w : World) (l0 : L0.length ≤ 1048576) (_ : WfL L0) (_ : L0.length ≤ c0) (h0 : IntSl w A0 L0) :
    Calls Tryd.prog 40 #[.slice A0 L0.length c0] w fun e w' => e = .returned (.bool (okW L0)) ∧ Below w.heap.size w w' := by
  go_enter Tryd.func40, Tryd.ntmps40
  go_wp2_with (go_at_call 59; refine (areNumbers_any A0 c0 L0 12 100 _ l0 h0).mono ?_; rintro e w' ⟨rfl, rfl⟩)
  go_ret
  exact ⟨rfl, Below.refl _ _⟩
theorem implWidths_any (A0 : Option Addr) (c0 : Nat) (L0 : List Int) (w : World) (l0 : L0.length ≤ 1048576) (h0 : IntSl w A0 L0) :
    Calls Tryd.prog 40 #[.slice A0 L0.length c0] w fun e w' => e = .returned (.bool (okW L0)) ∧ w = w' := by
  go_enter Tryd.func40, Tryd.ntmps40
  go_wp2_with (go_at_call 59; refine (areNumbers_any A0 c0 L0 12 100 _ l0 h0).mono ?_; rintro e w' ⟨rfl, rfl⟩)
  go_ret
  exact ⟨rfl, rfl⟩
theorem shWidths_any (A0 : Option Addr) (c0 : Nat) (L0 : List Int) (w : World) (l0 : L0.length ≤ 1048576) (h0 : IntSl w A0 L0) :
    Calls Tryd.prog 38 #[.slice A0 L0.length c0] w fun e w' => e = .returned (.bool (okW L0)) ∧ w = w' := by
  by_cases h : (1 : Int) ≤ (L0.length : Int) ∧ (L0.length : Int) ≤ 12
  · have HO := Lib.hid (okNums_of (n := 12) (m := 100) (L := L0) (by omega))
    have HC := Lib.hid fun W => l1In_t (L0.length : Int) 1 12 W h
    clear h
    go_enter Tryd.func38, Tryd.ntmps38
    go_wp2_with (first
      | (go_at_call 55; refine (HC.out _).mono ?_; rintro e w' ⟨rfl, rfl⟩)
      | (go_at_call 58; refine (l1All_any A0 c0 L0 1 100 _ l0 h0).mono ?_; rintro e w' ⟨rfl, rfl⟩))
    go_ret
    exact ⟨ret_bool HO.out.symm, rfl⟩
  · have HO := Lib.hid (okNums_long (n := 12) (m := 100) (L := L0) (by omega))
    have HC := Lib.hid fun W => l1In_f (L0.length : Int) 1 12 W h
    clear h
    go_enter Tryd.func38, Tryd.ntmps38
    go_wp2_with (go_at_call 55; refine (HC.out _).mono ?_; rintro e w' ⟨rfl, rfl⟩)
    go_ret
    exact ⟨ret_bool HO.out.symm, rfl⟩
end Go.Proofs.YtbocdhibimcobaaDoor
