/- WidthsText of both sides. No condition but the list's length; the program's wants the library's table. -/
import Derived.Test.YtbocdhibimcobaaDoorTxt2
import Derived.Test.YtbocdhibimcobaaDoorShTxt
import Derived.Test.YtbocdhibimcobaaDoorWidths
namespace Go.Proofs.YtbocdhibimcobaaDoor
open Go.RowKit

def resTxt (L : List Int) : ByteArray := if okW L = true then txt L else ⟨#[]⟩
theorem few_of {L : List Int} (h : okW L = true) : Few L := by
  obtain ⟨h1, h2⟩ := okNums_len h
  refine ⟨h1, by omega, fun x hx => ?_⟩
  have := allIn_mem (okNums_all h) hx
  omega
theorem small_of {L : List Int} (h : okW L = true) : ∀ x ∈ L, 0 ≤ x ∧ x ≤ 99999 := fun x hx => by
  have := allIn_mem (okNums_all h) hx
  omega
theorem specWidthsText_any (A0 : Option Addr) (c0 : Nat) (L0 : List Int) (w : World) (l0 : L0.length ≤ 1048576) (_ : WfL L0) (_ : L0.length ≤ c0) (h0 : IntSl w A0 L0) :
    Calls Tryd.prog 19 #[.slice A0 L0.length c0] w fun e w' => e = .returned (.tuple #[.string (resTxt L0), .bool (okW L0)]) ∧ Below w.heap.size w w' := by
  have HW := Lib.hid (shWidths_any A0 c0 L0 w l0 h0)
  cases hok : okW L0
  · rw [hok] at HW
    have hr : resTxt L0 = ⟨#[]⟩ := by unfold resTxt; rw [hok]; rfl
    rw [hr]
    clear h0 hok hr
    go_enter Tryd.func19, Tryd.ntmps19
    go_wp2_with (go_at_call 38; refine HW.out.mono ?_; rintro e w' ⟨rfl, rfl⟩)
    go_ret2
    exact ⟨rfl, Below.refl _ _⟩
  · rw [hok] at HW
    have hr : resTxt L0 = txt L0 := by unfold resTxt; rw [hok]; rfl
    rw [hr]
    have HT := Lib.hid (shText_any A0 c0 L0 w (few_of hok) (small_of hok) h0)
    clear h0 hok hr
    go_enter Tryd.func19, Tryd.ntmps19
    go_wp2_with (first
      | (go_at_call 38; refine HW.out.mono ?_; rintro e w' ⟨rfl, rfl⟩)
      | (go_at_call 39; refine HT.out.mono ?_; rintro e w1 ⟨rfl, hb⟩; have HB := Lib.hid hb; clear hb))
    go_ret2
    exact ⟨rfl, HB.out⟩
theorem implWidthsText_any (A0 : Option Addr) (c0 : Nat) (L0 : List Int) (w : World) (ht : Tab w.heap.size w) (l0 : L0.length ≤ 1048576) (h0 : IntSl w A0 L0) :
    Calls Tryd.prog 20 #[.slice A0 L0.length c0] w fun e w' => e = .returned (.tuple #[.string (resTxt L0), .bool (okW L0)]) ∧ Below w.heap.size w w' := by
  have HW := Lib.hid (implWidths_any A0 c0 L0 w l0 h0)
  cases hok : okW L0
  · rw [hok] at HW
    have hr : resTxt L0 = ⟨#[]⟩ := by unfold resTxt; rw [hok]; rfl
    rw [hr]
    clear h0 hok hr ht
    go_enter Tryd.func20, Tryd.ntmps20
    go_wp2_with (go_at_call 40; refine HW.out.mono ?_; rintro e w' ⟨rfl, rfl⟩)
    go_ret2
    exact ⟨rfl, Below.refl _ _⟩
  · rw [hok] at HW
    have hr : resTxt L0 = txt L0 := by unfold resTxt; rw [hok]; rfl
    rw [hr]
    have HT := Lib.hid (numbersText_any A0 c0 L0 w (few_of hok) h0 ht)
    clear h0 hok hr ht
    go_enter Tryd.func20, Tryd.ntmps20
    go_wp2_with (first
      | (go_at_call 40; refine HW.out.mono ?_; rintro e w' ⟨rfl, rfl⟩)
      | (go_at_call 34; refine HT.out.mono ?_; rintro e w1 ⟨rfl, hb⟩; have HB := Lib.hid hb; clear hb))
    go_ret2
    exact ⟨rfl, HB.out⟩
end Go.Proofs.YtbocdhibimcobaaDoor
