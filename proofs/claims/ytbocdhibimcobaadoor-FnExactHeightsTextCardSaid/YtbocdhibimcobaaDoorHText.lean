/- HeightsText of both sides. No condition but the list's length; the program's wants the library's table. -/
import Derived.Test.YtbocdhibimcobaaDoorTxt2
import Derived.Test.YtbocdhibimcobaaDoorShTxt
import Derived.Test.YtbocdhibimcobaaDoorHeights
namespace Go.Proofs.YtbocdhibimcobaaDoor
open Go.RowKit

def resH (L : List Int) : ByteArray := if okH L = true then txt L else ⟨#[]⟩
theorem few_H {L : List Int} (h : okH L = true) : Few L := by
  obtain ⟨h1, h2⟩ := okH_len h
  refine ⟨h1, by omega, fun x hx => ?_⟩
  have := okH_mem h hx
  omega
theorem small_H {L : List Int} (h : okH L = true) : ∀ x ∈ L, 0 ≤ x ∧ x ≤ 99999 := fun x hx => by
  have := okH_mem h hx
  omega
theorem specHeightsText_any (A0 : Option Addr) (c0 : Nat) (L0 : List Int) (w : World) (l0 : L0.length ≤ 1048576) (_ : WfL L0) (_ : L0.length ≤ c0) (h0 : IntSl w A0 L0) :
    Calls Tryd.prog 27 #[.slice A0 L0.length c0] w fun e w' => e = .returned (.tuple #[.string (resH L0), .bool (okH L0)]) ∧ Below w.heap.size w w' := by
  have HW := Lib.hid (caGood_any A0 c0 L0 w l0 h0)
  cases hok : okH L0
  · rw [hok] at HW
    have hr : resH L0 = ⟨#[]⟩ := by unfold resH; rw [hok]; rfl
    rw [hr]
    clear h0 hok hr
    go_enter Tryd.func27, Tryd.ntmps27
    go_wp2_with (go_at_call 44; refine HW.out.mono ?_; rintro e w' ⟨rfl, rfl⟩)
    go_ret2
    exact ⟨rfl, Below.refl _ _⟩
  · rw [hok] at HW
    have hr : resH L0 = txt L0 := by unfold resH; rw [hok]; rfl
    rw [hr]
    have HT := Lib.hid (shText_any A0 c0 L0 w (few_H hok) (small_H hok) h0)
    clear h0 hok hr
    go_enter Tryd.func27, Tryd.ntmps27
    go_wp2_with (first
      | (go_at_call 44; refine HW.out.mono ?_; rintro e w' ⟨rfl, rfl⟩)
      | (go_at_call 39; refine HT.out.mono ?_; rintro e w1 ⟨rfl, hb⟩; have HB := Lib.hid hb; clear hb))
    go_ret2
    exact ⟨rfl, HB.out⟩
theorem implHeightsText_any (A0 : Option Addr) (c0 : Nat) (L0 : List Int) (w : World) (ht : Tab w.heap.size w) (l0 : L0.length ≤ 1048576) (h0 : IntSl w A0 L0) :
    Calls Tryd.prog 28 #[.slice A0 L0.length c0] w fun e w' => e = .returned (.tuple #[.string (resH L0), .bool (okH L0)]) ∧ Below w.heap.size w w' := by
  have HW := Lib.hid (implHeights_any A0 c0 L0 w l0 h0)
  cases hok : okH L0
  · rw [hok] at HW
    have hr : resH L0 = ⟨#[]⟩ := by unfold resH; rw [hok]; rfl
    rw [hr]
    clear h0 hok hr ht
    go_enter Tryd.func28, Tryd.ntmps28
    go_wp2_with (go_at_call 45; refine HW.out.mono ?_; rintro e w' ⟨rfl, rfl⟩)
    go_ret2
    exact ⟨rfl, Below.refl _ _⟩
  · rw [hok] at HW
    have hr : resH L0 = txt L0 := by unfold resH; rw [hok]; rfl
    rw [hr]
    have HT := Lib.hid (numbersText_any A0 c0 L0 w (few_H hok) h0 ht)
    clear h0 hok hr ht
    go_enter Tryd.func28, Tryd.ntmps28
    go_wp2_with (first
      | (go_at_call 45; refine HW.out.mono ?_; rintro e w' ⟨rfl, rfl⟩)
      | (go_at_call 34; refine HT.out.mono ?_; rintro e w1 ⟨rfl, hb⟩; have HB := Lib.hid hb; clear hb))
    go_ret2
    exact ⟨rfl, HB.out⟩
end Go.Proofs.YtbocdhibimcobaaDoor
