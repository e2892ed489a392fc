/- HeightsText of both sides. No condition but the list's length; the program's wants the library's table. -/
import Derived.Test.YtnnhkogmppheeaaDoorTxt2
import Derived.Test.YtnnhkogmppheeaaDoorHeights
namespace Go.Proofs.YtnnhkogmppheeaaDoor
open Go.RowKit

def resH (L : List Int) : ByteArray := if okH L = true then txt L else ⟨#[]⟩
theorem few_H {L : List Int} (h : okH L = true) : Few L := by
  obtain ⟨h1, h2⟩ := okH_len h
  refine ⟨h1, by omega, fun x hx => ?_⟩
  have := okH_mem h hx
  omega
theorem small_H {L : List Int} (h : okH L = true) : ∀ x ∈ L, 0 ≤ x ∧ x ≤ 99999 := fun x hx => by
  have := okH_mem h hx
  omega
theorem specHeightsText_any (A0 : Option Addr) (c0 : Nat) (L0 : List Int) (w : World) (l0 : L0.length ≤ 1048576) (_ : WfL L0) (_ : L0.length ≤ c0) (h0 : IntSl w A0 L0) :
    Calls Tryd.prog 5 #[.slice A0 L0.length c0] w fun e w' => e = .returned (.tuple #[.string (resH L0), .bool (okH L0)]) ∧ Below w.heap.size w w' := by
  have HW := Lib.hid (caGood_any A0 c0 L0 w l0 h0)
  cases hok : okH L0
  · rw [hok] at HW
    have hr : resH L0 = ⟨#[]⟩ := by unfold resH; rw [hok]; rfl
    rw [hr]
    clear h0 hok hr
    go_enter Tryd.func5, Tryd.ntmps5
    go_wp2_with (go_at_call 13; refine HW.out.mono ?_; rintro e w' ⟨rfl, rfl⟩)
    go_ret2
    exact ⟨rfl, Below.refl _ _⟩
  · rw [hok] at HW
    have hr : resH L0 = txt L0 := by unfold resH; rw [hok]; rfl
    rw [hr]
    have HT := Lib.hid (shText_any A0 c0 L0 w (few_H hok) (small_H hok) h0)
    clear h0 hok hr
    go_enter Tryd.func5, Tryd.ntmps5
    go_wp2_with (first
      | (go_at_call 13; refine HW.out.mono ?_; rintro e w' ⟨rfl, rfl⟩)
      | (go_at_call 14; refine HT.out.mono ?_; rintro e w1 ⟨rfl, hb⟩; have HB := Lib.hid hb; clear hb))
    go_ret2
    exact ⟨rfl, HB.out⟩
theorem implHeightsText_any (A0 : Option Addr) (c0 : Nat) (L0 : List Int) (w : World) (ht : Tab w.heap.size w) (l0 : L0.length ≤ 1048576) (h0 : IntSl w A0 L0) :
    Calls Tryd.prog 7 #[.slice A0 L0.length c0] w fun e w' => e = .returned (.tuple #[.string (resH L0), .bool (okH L0)]) ∧ Below w.heap.size w w' := by
  have HW := Lib.hid (implHeights_any A0 c0 L0 w l0 h0)
  cases hok : okH L0
  · rw [hok] at HW
    have hr : resH L0 = ⟨#[]⟩ := by unfold resH; rw [hok]; rfl
    rw [hr]
    clear h0 hok hr ht
    go_enter Tryd.func7, Tryd.ntmps7
    go_wp2_with (go_at_call 15; refine HW.out.mono ?_; rintro e w' ⟨rfl, rfl⟩)
    go_ret2
    exact ⟨rfl, Below.refl _ _⟩
  · rw [hok] at HW
    have hr : resH L0 = txt L0 := by unfold resH; rw [hok]; rfl
    rw [hr]
    have HT := Lib.hid (numbersText_any A0 c0 L0 w (few_H hok) h0 ht)
    clear h0 hok hr ht
    go_enter Tryd.func7, Tryd.ntmps7
    go_wp2_with (first
      | (go_at_call 15; refine HW.out.mono ?_; rintro e w' ⟨rfl, rfl⟩)
      | (go_at_call 16; refine HT.out.mono ?_; rintro e w1 ⟨rfl, hb⟩; have HB := Lib.hid hb; clear hb))
    go_ret2
    exact ⟨rfl, HB.out⟩
end Go.Proofs.YtnnhkogmppheeaaDoor
