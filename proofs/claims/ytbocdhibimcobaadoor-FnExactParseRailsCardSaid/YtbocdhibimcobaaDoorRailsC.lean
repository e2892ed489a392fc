/- Rails: who checks them. No condition but the lists' lengths. -/
import Derived.Test.YtbocdhibimcobaaDoorNums
namespace Go.Proofs.YtbocdhibimcobaaDoor
open Go.RowKit

def okRa (L : List Int) : Bool := okNums 8 500 L
theorem okRa_len {L : List Int} (h : okRa L = true) : 1 ≤ L.length ∧ L.length ≤ 8 := okNums_len h
theorem okRa_mem {L : List Int} (h : okRa L = true) : ∀ x ∈ L, 1 ≤ x ∧ x ≤ 500 := fun _ hx => allIn_mem (okNums_all h) hx
theorem implRails_any (A0 : Option Addr) (c0 : Nat) (L0 : List Int) (w : World) (l0 : L0.length ≤ 1048576) (h0 : IntSl w A0 L0) :
    Calls Tryd.prog 42 #[.slice A0 L0.length c0] w fun e w' => e = .returned (.bool (okRa L0)) ∧ w = w' := by
  have H := Lib.hid (areNumbers_any A0 c0 L0 8 500 w l0 h0)
  go_enter Tryd.func42, Tryd.ntmps42
  go_wp2_with (go_at_call 59; refine H.out.mono ?_; rintro e w' ⟨rfl, rfl⟩)
  go_ret
  exact ⟨rfl, rfl⟩
theorem poGood_any (A0 : Option Addr) (c0 : Nat) (L0 : List Int) (w : World) (l0 : L0.length ≤ 1048576) (h0 : IntSl w A0 L0) :
    Calls Tryd.prog 41 #[.slice A0 L0.length c0] w fun e w' => e = .returned (.bool (okRa L0)) ∧ w = w' := by
  by_cases h : (1 : Int) ≤ (L0.length : Int) ∧ (L0.length : Int) ≤ 8
  · have HO : Hid (okRa L0 = allIn 1 500 L0) := Lib.hid (okNums_of (n := 8) (m := 500) (L := L0) (by omega))
    have HC := Lib.hid fun W => l1In_t (L0.length : Int) 1 8 W h
    clear h
    go_enter Tryd.func41, Tryd.ntmps41
    go_wp2_with (first
      | (go_at_call 55; refine (HC.out _).mono ?_; rintro e w' ⟨rfl, rfl⟩)
      | (go_at_call 58; refine (l1All_any A0 c0 L0 1 500 _ l0 h0).mono ?_; rintro e w' ⟨rfl, rfl⟩))
    go_ret
    exact ⟨ret_bool HO.out.symm, rfl⟩
  · have HO : Hid (okRa L0 = false) := Lib.hid (okNums_long (n := 8) (m := 500) (L := L0) (by omega))
    have HC := Lib.hid fun W => l1In_f (L0.length : Int) 1 8 W h
    clear h
    go_enter Tryd.func41, Tryd.ntmps41
    go_wp2_with (go_at_call 55; refine (HC.out _).mono ?_; rintro e w' ⟨rfl, rfl⟩)
    go_ret
    exact ⟨ret_bool HO.out.symm, rfl⟩
end Go.Proofs.YtbocdhibimcobaaDoor
