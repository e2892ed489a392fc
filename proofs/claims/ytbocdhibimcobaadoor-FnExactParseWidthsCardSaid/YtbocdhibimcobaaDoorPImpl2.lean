/- 'impl.parseNumbers', at most twelve; ParseWidths of the program. -/
import Derived.Test.YtbocdhibimcobaaDoorPNums
import Derived.Test.YtbocdhibimcobaaDoorPSpec
namespace Go.Proofs.YtbocdhibimcobaaDoor
open Go.RowKit

/-- the text is one that the program reads -/
def okPI (s : ByteArray) : Bool := okNN s 13 && okW (numsN s 13)
def resPI (s : ByteArray) : List Int := if okPI s = true then numsN s 13 else []
set_option maxRecDepth 100000 in
set_option maxHeartbeats 4000000 in
theorem implParse_any (s : ByteArray) (w : World) (hs : s.size ≤ 1048576) (he : Env w.heap.size w) :
    Calls Tryd.prog 22 #[.string s] w fun e w' => ∃ v, e = .returned (.tuple #[v, .bool (okPI s)]) ∧ OwnInts w' w.heap.size 3 v (resPI s) ∧ Below w.heap.size w w' := by
  have HP := Lib.hid (parseNumbers_any s 12 w hs he (by omega) (by omega))
  have HLEN := Lib.hid (wordsN_len s 13 (by omega))
  clear he
  cases hok : okNN s 13
  · have e1 : okPI s = false := by unfold okPI; rw [hok]; rfl
    have E1 := Lib.hid e1
    have E2 : Hid (resPI s = []) := Lib.hid (by unfold resPI; rw [e1]; rfl)
    rw [hok] at HP
    clear hok e1
    go_enter Tryd.func22, Tryd.ntmps22
    go_wp2_with (go_at_call 37; refine HP.out.mono ?_; rintro e w1 ⟨v, rfl, hown, hb⟩; have HB := Lib.hid hb; clear hb hown)
    go_ret2
    exact ⟨_, ret_vb E1.out.symm, by rw [E2.out]; exact OwnInts.nil _ _ _, HB.out⟩
  · have hr : resNN s 13 = numsN s 13 := by unfold resNN; rw [hok]; rfl
    rw [hr, hok] at HP
    have hl : (numsN s 13).length ≤ 1048576 := by unfold numsN; rw [List.length_map]; have := HLEN.out; omega
    cases hw : okW (numsN s 13)
    · have e1 : okPI s = false := by unfold okPI; rw [hok, hw]; rfl
      have E1 := Lib.hid e1
      have E2 : Hid (resPI s = []) := Lib.hid (by unfold resPI; rw [e1]; rfl)
      have HW := Lib.hid hw
      clear hok e1 hr hw
      go_enter Tryd.func22, Tryd.ntmps22
      go_wp2_with (first
        | (go_at_call 37; refine HP.out.mono ?_; rintro e w1 ⟨v, rfl, hown, hb⟩; obtain ⟨A6, c6, hv6⟩ := hown.len; subst hv6; have HB := Lib.hid hb; have HA := Lib.hid (implWidths_any A6 c6 (numsN s 13) w1 hl (IntSl.of_own hown)); rw [HW.out] at HA; clear hb hown)
        | (go_at_call 40; refine HA.out.mono ?_; rintro e w2 ⟨rfl, rfl⟩))
      go_ret2
      exact ⟨_, ret_vb E1.out.symm, by rw [E2.out]; exact OwnInts.nil _ _ _, HB.out⟩
    · have e1 : okPI s = true := by unfold okPI; rw [hok, hw]; rfl
      have E1 := Lib.hid e1
      have E2 : Hid (resPI s = numsN s 13) := Lib.hid (by unfold resPI; rw [e1]; rfl)
      have HW := Lib.hid hw
      clear hok e1 hr hw
      go_enter Tryd.func22, Tryd.ntmps22
      go_wp2_with (first
        | (go_at_call 37; refine HP.out.mono ?_; rintro e w1 ⟨v, rfl, hown, hb⟩; obtain ⟨A6, c6, hv6⟩ := hown.len; subst hv6; have HB := Lib.hid hb; have HO := Lib.hid hown; have HA := Lib.hid (implWidths_any A6 c6 (numsN s 13) w1 hl (IntSl.of_own hown)); rw [HW.out] at HA; clear hb hown)
        | (go_at_call 40; refine HA.out.mono ?_; rintro e w2 ⟨rfl, rfl⟩))
      go_ret2
      exact ⟨_, ret_vb E1.out.symm, by rw [E2.out]; exact HO.out, HB.out⟩
end Go.Proofs.YtbocdhibimcobaaDoor
