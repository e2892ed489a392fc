/- GatesText of both sides. No condition but the list's length; the program's wants the library's table. -/
import Derived.Test.YtbocdhibimcobaaDoorGaTxt2
import Derived.Test.YtbocdhibimcobaaDoorGaGaTxt
import Derived.Test.YtbocdhibimcobaaDoorGates
namespace Go.Proofs.YtbocdhibimcobaaDoor.Ga
open Go.RowKit

def resG (L : List Int) : ByteArray := if okGa 40 L = true then txt L else ⟨#[]⟩
theorem few_G {L : List Int} (h : okGa 40 L = true) (h1 : 1 ≤ L.length) : Few L := by
  obtain ⟨-, h2, h3⟩ := okGa_at h
  refine ⟨h1, by omega, fun x hx => ?_⟩
  have := incF_mem h3 x hx
  omega
theorem small_G {L : List Int} (h : okGa 40 L = true) : ∀ x ∈ L, 0 ≤ x ∧ x ≤ 99999 := fun x hx => by
  have := incF_mem (okGa_at h).2.2 x hx
  omega
set_option maxRecDepth 100000 in
theorem gaTextNil_any (A : Option Addr) (c : Nat) (w : World) :
    Calls Tryd.prog 32 #[.slice A 0 c] w fun e w' => e = .returned (.string ⟨#[]⟩) ∧ w = w' := by
  go_enter Tryd.func32, Tryd.ntmps32
  go_wp2
  refine wp_loop_rounds 1 ?_
  rw [rounds_succ]
  go_wp2
  go_ret
  exact ⟨rfl, rfl⟩
theorem joinNil_any (g : Nat) (w : World) (hg : g < w.heap.size) :
    Calls Tryd.prog 54 #[.slice (some ⟨g, 0, none⟩) 0 0, .string ⟨#[124]⟩] w fun e w' => e = .returned (.string ⟨#[]⟩) ∧ Below w.heap.size w w' := by
  have := Tryd.strings_Join g 0 0 ([] : List ByteArray) ⟨#[124]⟩ w (by intro j x hx; simp at hx) hg (by simp) (by simp) (by simp [Lib.join])
  exact this
set_option maxRecDepth 100000 in
set_option maxHeartbeats 2000000 in
theorem numbersTextNil_any (A : Option Addr) (c : Nat) (w : World) :
    Calls Tryd.prog 34 #[.slice A 0 c, .string ⟨#[124]⟩] w fun e w' => e = .returned (.string ⟨#[]⟩) ∧ Below w.heap.size w w' := by
  obtain ⟨i0, hi, hz0, hz1, hz2⟩ := info_parts info_str
  go_enter Tryd.func34, Tryd.ntmps34
  go_wp2_with (at_make; refine wpList_make_full _ rfl (.tmp 9) (.tmp 9) _ rfl w.heap.size 9 i0 _ 1 Tryd.underlying35 hi hz0 hz1 .i64 .i64 _ _ 0 rfl rfl rfl rfl (by rw [hz2]; omega) (Nat.zero_le _) (Nat.le_refl _) ?_; intro w1 hown hgrow)
  have HB : Hid (Below w.heap.size w w1) := Lib.hid ((Below.refl _ _).grown hgrow (Nat.le_refl _) (fun k hk => by cases hk))
  have HG : Hid (w.heap.size < w1.heap.size) := Lib.hid (World.ownsRow.lt hown w.heap.size rfl).2
  have HJ := Lib.hid (joinNil_any w.heap.size w1 HG.out)
  clear hown hgrow
  refine wp_loop_rounds 1 ?_
  rw [rounds_succ]
  go_wp2_with fail
  refine HJ.out.mono ?_
  rintro e w2 ⟨rfl, hb2⟩
  have HB2 := Lib.hid (below_next HB.out hb2)
  clear hb2
  go_wp2
  go_ret
  exact ⟨rfl, HB2.out⟩
theorem specGatesText_any (A0 : Option Addr) (c0 : Nat) (L0 : List Int) (w : World) (l0 : L0.length ≤ 1048576) (_ : WfL L0) (_ : L0.length ≤ c0) (h0 : IntSl w A0 L0) :
    Calls Tryd.prog 11 #[.slice A0 L0.length c0] w fun e w' => e = .returned (.tuple #[.string (resG L0), .bool (okGa 40 L0)]) ∧ Below w.heap.size w w' := by
  have HW := Lib.hid (gaAre_any 40 A0 c0 L0 w l0 h0)
  cases hok : okGa 40 L0
  · rw [hok] at HW
    have hr : resG L0 = ⟨#[]⟩ := by unfold resG; rw [hok]; rfl
    rw [hr]
    clear h0 hok hr
    go_enter Tryd.func11, Tryd.ntmps11
    go_wp2_with (go_at_call 31; refine HW.out.mono ?_; rintro e w' ⟨rfl, rfl⟩)
    go_ret2
    exact ⟨rfl, Below.refl _ _⟩
  · rw [hok] at HW
    have hr : resG L0 = txt L0 := by unfold resG; rw [hok]; rfl
    rw [hr]
    have HT : Hid (Calls Tryd.prog 32 #[.slice A0 L0.length c0] w fun e w' => e = .returned (.string (txt L0)) ∧ Below w.heap.size w w') := Lib.hid (by
      rcases Nat.eq_zero_or_pos L0.length with hz | hz
      · obtain rfl : L0 = [] := List.eq_nil_of_length_eq_zero hz
        exact (gaTextNil_any A0 c0 w).mono fun _ _ h => ⟨h.1, by rw [← h.2]; exact Below.refl _ _⟩
      · exact gaText_any A0 c0 L0 w (few_G hok hz) (small_G hok) h0)
    clear h0 hok hr
    go_enter Tryd.func11, Tryd.ntmps11
    go_wp2_with (first
      | (go_at_call 31; refine HW.out.mono ?_; rintro e w' ⟨rfl, rfl⟩)
      | (go_at_call 32; refine HT.out.mono ?_; rintro e w1 ⟨rfl, hb⟩; have HB := Lib.hid hb; clear hb))
    go_ret2
    exact ⟨rfl, HB.out⟩
theorem implGatesText_any (A0 : Option Addr) (c0 : Nat) (L0 : List Int) (w : World) (ht : Tab w.heap.size w) (l0 : L0.length ≤ 1048576) (h0 : IntSl w A0 L0) :
    Calls Tryd.prog 13 #[.slice A0 L0.length c0] w fun e w' => e = .returned (.tuple #[.string (resG L0), .bool (okGa 40 L0)]) ∧ Below w.heap.size w w' := by
  have HW := Lib.hid (areGates_any 40 A0 c0 L0 w l0 h0)
  cases hok : okGa 40 L0
  · rw [hok] at HW
    have hr : resG L0 = ⟨#[]⟩ := by unfold resG; rw [hok]; rfl
    rw [hr]
    clear h0 hok hr ht
    go_enter Tryd.func13, Tryd.ntmps13
    go_wp2_with (go_at_call 33; refine HW.out.mono ?_; rintro e w' ⟨rfl, rfl⟩)
    go_ret2
    exact ⟨rfl, Below.refl _ _⟩
  · rw [hok] at HW
    have hr : resG L0 = txt L0 := by unfold resG; rw [hok]; rfl
    rw [hr]
    have HT : Hid (Calls Tryd.prog 34 #[.slice A0 L0.length c0, .string ⟨#[124]⟩] w fun e w' => e = .returned (.string (txt L0)) ∧ Below w.heap.size w w') := Lib.hid (by
      rcases Nat.eq_zero_or_pos L0.length with hz | hz
      · obtain rfl : L0 = [] := List.eq_nil_of_length_eq_zero hz
        exact numbersTextNil_any A0 c0 w
      · exact numbersText_any A0 c0 L0 w (few_G hok hz) h0 ht)
    clear h0 hok hr ht
    go_enter Tryd.func13, Tryd.ntmps13
    go_wp2_with (first
      | (go_at_call 33; refine HW.out.mono ?_; rintro e w' ⟨rfl, rfl⟩)
      | (go_at_call 34; refine HT.out.mono ?_; rintro e w1 ⟨rfl, hb⟩; have HB := Lib.hid hb; clear hb))
    go_ret2
    exact ⟨rfl, HB.out⟩
end Go.Proofs.YtbocdhibimcobaaDoor.Ga
