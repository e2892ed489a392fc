/- Widths, rates and painters: who checks them. No condition but the lists' lengths. -/
import Derived.Test.YteiaidjknnbpjaaNums
namespace Go.Proofs.Yteiaidjknnbpjaa
open Go.RowKit

def okW (L : List Int) : Bool := okNums 12 100 L
def okR (L : List Int) : Bool := okNums 5 20 L
theorem implAreWidths_any (A0 : Option Addr) (c0 : Nat) (L0 : List Int) (w : World) (l0 : L0.length ≤ 1048576) (_ : WfL L0) (_ : L0.length ≤ c0) (h0 : IntSl w A0 L0) :
    Calls Try.prog 53 #[.slice A0 L0.length c0] w fun e w' => e = .returned (.bool (okW L0)) ∧ Below w.heap.size w w' := by
  go_enter Try.func53, Try.ntmps53
  go_wp2_with (go_at_call 93; refine (areNumbers_any A0 c0 L0 12 100 _ l0 h0).mono ?_; rintro e w' ⟨rfl, rfl⟩)
  go_ret
  exact ⟨rfl, Below.refl _ _⟩
theorem implWidths_any (A0 : Option Addr) (c0 : Nat) (L0 : List Int) (w : World) (l0 : L0.length ≤ 1048576) (h0 : IntSl w A0 L0) :
    Calls Try.prog 53 #[.slice A0 L0.length c0] w fun e w' => e = .returned (.bool (okW L0)) ∧ w = w' := by
  go_enter Try.func53, Try.ntmps53
  go_wp2_with (go_at_call 93; refine (areNumbers_any A0 c0 L0 12 100 _ l0 h0).mono ?_; rintro e w' ⟨rfl, rfl⟩)
  go_ret
  exact ⟨rfl, rfl⟩
theorem implRates_any (A0 : Option Addr) (c0 : Nat) (L0 : List Int) (w : World) (l0 : L0.length ≤ 1048576) (h0 : IntSl w A0 L0) :
    Calls Try.prog 33 #[.slice A0 L0.length c0] w fun e w' => e = .returned (.bool (okR L0)) ∧ w = w' := by
  go_enter Try.func33, Try.ntmps33
  go_wp2_with (go_at_call 93; refine (areNumbers_any A0 c0 L0 5 20 _ l0 h0).mono ?_; rintro e w' ⟨rfl, rfl⟩)
  go_ret
  exact ⟨rfl, rfl⟩
theorem implAreRates_any (A0 : Option Addr) (c0 : Nat) (L0 : List Int) (w : World) (l0 : L0.length ≤ 1048576) (_ : WfL L0) (_ : L0.length ≤ c0) (h0 : IntSl w A0 L0) :
    Calls Try.prog 33 #[.slice A0 L0.length c0] w fun e w' => e = .returned (.bool (okR L0)) ∧ Below w.heap.size w w' :=
  (implRates_any A0 c0 L0 w l0 h0).mono fun _ _ h => ⟨h.1, by rw [← h.2]; exact Below.refl _ _⟩

theorem shWidths_any (A0 : Option Addr) (c0 : Nat) (L0 : List Int) (w : World) (l0 : L0.length ≤ 1048576) (h0 : IntSl w A0 L0) :
    Calls Try.prog 104 #[.slice A0 L0.length c0] w fun e w' => e = .returned (.bool (okW L0)) ∧ w = w' := by
  by_cases h : (1 : Int) ≤ (L0.length : Int) ∧ (L0.length : Int) ≤ 12
  · have HO := Lib.hid (okNums_of (n := 12) (m := 100) (L := L0) (by omega))
    have HC := Lib.hid fun W => l1In_t (L0.length : Int) 1 12 W h
    clear h
    go_enter Try.func104, Try.ntmps104
    go_wp2_with (first
      | (go_at_call 101; refine (HC.out _).mono ?_; rintro e w' ⟨rfl, rfl⟩)
      | (go_at_call 126; refine (l1All_any A0 c0 L0 1 100 _ l0 h0).mono ?_; rintro e w' ⟨rfl, rfl⟩))
    go_ret
    exact ⟨ret_bool HO.out.symm, rfl⟩
  · have HO := Lib.hid (okNums_long (n := 12) (m := 100) (L := L0) (by omega))
    have HC := Lib.hid fun W => l1In_f (L0.length : Int) 1 12 W h
    clear h
    go_enter Try.func104, Try.ntmps104
    go_wp2_with (go_at_call 101; refine (HC.out _).mono ?_; rintro e w' ⟨rfl, rfl⟩)
    go_ret
    exact ⟨ret_bool HO.out.symm, rfl⟩
theorem shRates_any (A0 : Option Addr) (c0 : Nat) (L0 : List Int) (w : World) (l0 : L0.length ≤ 1048576) (h0 : IntSl w A0 L0) :
    Calls Try.prog 94 #[.slice A0 L0.length c0] w fun e w' => e = .returned (.bool (okR L0)) ∧ w = w' := by
  by_cases h : (1 : Int) ≤ (L0.length : Int) ∧ (L0.length : Int) ≤ 5
  · have HO := Lib.hid (okNums_of (n := 5) (m := 20) (L := L0) (by omega))
    have HC := Lib.hid fun W => l1In_t (L0.length : Int) 1 5 W h
    clear h
    go_enter Try.func94, Try.ntmps94
    go_wp2_with (first
      | (go_at_call 101; refine (HC.out _).mono ?_; rintro e w' ⟨rfl, rfl⟩)
      | (go_at_call 126; refine (l1All_any A0 c0 L0 1 20 _ l0 h0).mono ?_; rintro e w' ⟨rfl, rfl⟩))
    go_ret
    exact ⟨ret_bool HO.out.symm, rfl⟩
  · have HO := Lib.hid (okNums_long (n := 5) (m := 20) (L := L0) (by omega))
    have HC := Lib.hid fun W => l1In_f (L0.length : Int) 1 5 W h
    clear h
    go_enter Try.func94, Try.ntmps94
    go_wp2_with (go_at_call 101; refine (HC.out _).mono ?_; rintro e w' ⟨rfl, rfl⟩)
    go_ret
    exact ⟨ret_bool HO.out.symm, rfl⟩
theorem specAreWidths_any (A0 : Option Addr) (c0 : Nat) (L0 : List Int) (w : World) (l0 : L0.length ≤ 1048576) (_ : WfL L0) (_ : L0.length ≤ c0) (h0 : IntSl w A0 L0) :
    Calls Try.prog 51 #[.slice A0 L0.length c0] w fun e w' => e = .returned (.bool (okW L0)) ∧ Below w.heap.size w w' := by
  go_enter Try.func51, Try.ntmps51
  go_wp2_with (go_at_call 104; refine (shWidths_any A0 c0 L0 _ l0 h0).mono ?_; rintro e w' ⟨rfl, rfl⟩)
  go_ret
  exact ⟨rfl, Below.refl _ _⟩
theorem specAreRates_any (A0 : Option Addr) (c0 : Nat) (L0 : List Int) (w : World) (l0 : L0.length ≤ 1048576) (_ : WfL L0) (_ : L0.length ≤ c0) (h0 : IntSl w A0 L0) :
    Calls Try.prog 34 #[.slice A0 L0.length c0] w fun e w' => e = .returned (.bool (okR L0)) ∧ Below w.heap.size w w' := by
  go_enter Try.func34, Try.ntmps34
  go_wp2_with (go_at_call 94; refine (shRates_any A0 c0 L0 _ l0 h0).mono ?_; rintro e w' ⟨rfl, rfl⟩)
  go_ret
  exact ⟨rfl, Below.refl _ _⟩
end Go.Proofs.Yteiaidjknnbpjaa
