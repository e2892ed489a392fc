/- MeetTime and MeetPlace of both sides. No condition but the lists' lengths. -/
import Derived.Test.YteiaidjknnbpjaaPart
namespace Go.Proofs.Yteiaidjknnbpjaa
open Go.RowKit

def plaA (W : List Int) (l r : Int) : Int := if okWR W [l, r] = true then (lowA (widS W * r.toNat) (l.toNat + r.toNat) : Int) else 0
def plaB (W : List Int) (l r : Int) : Int := if okWR W [l, r] = true then (lowB (widS W * r.toNat) (l.toNat + r.toNat) : Int) else 0
theorem okR_two (l r : Int) : okR [l, r] = (decide (1 ≤ l ∧ l ≤ 20) && decide (1 ≤ r ∧ r ≤ 20)) := by
  unfold okR okNums allIn
  simp
theorem okR_two_at {l r : Int} (h : okR [l, r] = true) : 1 ≤ l ∧ l ≤ 20 ∧ 1 ≤ r ∧ r ≤ 20 := by
  rw [okR_two, Bool.and_eq_true, decide_eq_true_iff, decide_eq_true_iff] at h
  omega
theorem ratM_two (l r : Int) : ratM [l, r] = l.toNat * r.toNat := by
  show 1 * l.toNat * r.toNat = _
  rw [Nat.one_mul]
theorem ratP_two (l r : Int) : ratP [l, r] = l.toNat + r.toNat := by
  show (0 * l.toNat + 1) * r.toNat + 1 * l.toNat = _
  rw [Nat.zero_mul, Nat.zero_add, Nat.one_mul, Nat.one_mul, Nat.add_comm]
theorem two_sl (w : World) (l r : Int) (e : TypeId) : IntSl (w.alloc (.cells #[.int .i64 l, .int .i64 r] e)) (some ⟨w.heap.size, 0, none⟩) [l, r] := by
  refine .inr ⟨w.heap.size, 0, rfl, by simp, fun k hk => ?_⟩
  rw [cell_of_row _ w.heap.size (0 + k) _ e (0, 0) (heap_alloc_new w _)]
  match k, hk with
  | 0, _ => rfl
  | 1, _ => rfl

theorem shMeet_any (A0 : Option Addr) (c0 : Nat) (L0 : List Int) (l r : Int) (w : World) (l0 : L0.length ≤ 1048576) (h0 : IntSl w A0 L0) :
    Calls Try.prog 103 #[.slice A0 L0.length c0, .int .i64 l, .int .i64 r] w fun e w' => e = .returned (.bool (okWR L0 [l, r])) ∧ w = w' := by
  have HW := Lib.hid fun W h => shWidths_any A0 c0 L0 W l0 h
  have HE : Hid (okWR L0 [l, r] = (okW L0 && (decide (1 ≤ l ∧ l ≤ 20) && decide (1 ≤ r ∧ r ≤ 20)))) := Lib.hid (by unfold okWR; rw [okR_two])
  rw [HE.out]
  clear HE
  cases hw : okW L0
  · rw [hw] at HW
    clear hw
    go_enter Try.func103, Try.ntmps103
    go_wp2_with (go_at_call 104; refine (HW.out _ h0).mono ?_; rintro e w1 ⟨rfl, rfl⟩)
    go_ret
    exact ⟨rfl, rfl⟩
  · rw [hw] at HW
    clear hw
    have HL := Lib.hid fun W => l1In_any l 1 20 W
    have HR := Lib.hid fun W => l1In_any r 1 20 W
    cases hl : decide (1 ≤ l ∧ l ≤ 20)
    · rw [hl] at HL
      clear hl
      go_enter Try.func103, Try.ntmps103
      go_wp2_with (first
        | (go_at_call 104; refine (HW.out _ h0).mono ?_; rintro e w1 ⟨rfl, rfl⟩)
        | (go_at_call 101; refine (HL.out _).mono ?_; rintro e w1 ⟨rfl, rfl⟩))
      go_ret
      exact ⟨rfl, rfl⟩
    · rw [hl] at HL
      clear hl
      obtain ⟨q, hq⟩ : ∃ q, q = decide (1 ≤ r ∧ r ≤ 20) := ⟨_, rfl⟩
      rw [← hq] at HR ⊢
      clear hq
      go_enter Try.func103, Try.ntmps103
      go_wp2_with fail
      refine (HW.out _ h0).mono ?_
      rintro e w1 ⟨rfl, rfl⟩
      go_wp2_with fail
      refine (HL.out _).mono ?_
      rintro e w1 ⟨rfl, rfl⟩
      go_wp2_with fail
      refine (HR.out _).mono ?_
      rintro e w1 ⟨rfl, rfl⟩
      go_wp2
      go_ret
      exact ⟨rfl, rfl⟩

set_option maxHeartbeats 1000000 in
theorem implMeetTime_any (A0 : Option Addr) (c0 : Nat) (L0 : List Int) (a1 a2 : Int) (w : World) (l0 : L0.length ≤ 1048576) (f0 : WfL L0) (q0 : L0.length ≤ c0) (h0 : IntSl w A0 L0) (w1 : (Lit.int .i64 a1).wf = true) (w2 : (Lit.int .i64 a2).wf = true) :
    Calls Try.prog 46 #[.slice A0 L0.length c0, .int .i64 a1, .int .i64 a2] w fun e w' => e = .returned (.tuple #[.int .i64 (togA L0 [a1, a2]), .int .i64 (togB L0 [a1, a2]), .bool (okWR L0 [a1, a2])]) ∧ Below w.heap.size w w' := by
  have hf : WfL [a1, a2] := fun x hx => by
    simp only [List.mem_cons, List.not_mem_nil, or_false] at hx
    rcases hx with rfl | rfl
    · exact w1
    · exact w2
  have HT : Hid (∀ W A, IntSl W A0 L0 → IntSl W A [a1, a2] → Calls Try.prog 30 #[.slice A0 L0.length c0, .slice A 2 2] W fun e w' => e = .returned (.tuple #[.int .i64 (togA L0 [a1, a2]), .int .i64 (togB L0 [a1, a2]), .bool (okWR L0 [a1, a2])]) ∧ Below W.heap.size W w') :=
    Lib.hid fun W A x y => implTogetherTime_any A0 c0 L0 A 2 [a1, a2] W l0 f0 q0 x (by simp) hf (Nat.le_refl _) y
  have H2 := Lib.hid (two_sl w a1 a2 3)
  have H0 := Lib.hid (h0.below (below_new w (.cells #[.int .i64 a1, .int .i64 a2] 3)))
  obtain ⟨ra, hra⟩ : ∃ a, a = togA L0 [a1, a2] := ⟨_, rfl⟩
  obtain ⟨rb, hrb⟩ : ∃ a, a = togB L0 [a1, a2] := ⟨_, rfl⟩
  obtain ⟨rc, hrc⟩ : ∃ a, a = okWR L0 [a1, a2] := ⟨_, rfl⟩
  rw [← hra, ← hrb, ← hrc] at HT ⊢
  clear hra hrb hrc hf h0
  go_enter Try.func46, Try.ntmps46
  go_wp2_with fail
  refine (HT.out _ _ H0.out H2.out).mono ?_
  rintro e w3 ⟨rfl, hb⟩
  go_wp2
  go_ret3
  exact ⟨rfl, below_box hb⟩

set_option maxHeartbeats 1000000 in
theorem specMeetTime_any (A0 : Option Addr) (c0 : Nat) (L0 : List Int) (a1 a2 : Int) (w : World) (l0 : L0.length ≤ 1048576) (_ : WfL L0) (_ : L0.length ≤ c0) (h0 : IntSl w A0 L0) (_ : (Lit.int .i64 a1).wf = true) (_ : (Lit.int .i64 a2).wf = true) :
    Calls Try.prog 47 #[.slice A0 L0.length c0, .int .i64 a1, .int .i64 a2] w fun e w' => e = .returned (.tuple #[.int .i64 (togA L0 [a1, a2]), .int .i64 (togB L0 [a1, a2]), .bool (okWR L0 [a1, a2])]) ∧ Below w.heap.size w w' := by
  have HM := Lib.hid (shMeet_any A0 c0 L0 a1 a2 w l0 h0)
  cases hok : okWR L0 [a1, a2]
  · rw [show togA L0 [a1, a2] = 0 by unfold togA; rw [hok]; rfl, show togB L0 [a1, a2] = 0 by unfold togB; rw [hok]; rfl]
    rw [hok] at HM
    clear hok
    go_enter Try.func47, Try.ntmps47
    go_wp2_with (go_at_call 103; refine HM.out.mono ?_; rintro e w1 ⟨rfl, rfl⟩)
    go_ret3
    exact ⟨rfl, Below.refl _ _⟩
  · obtain ⟨hw, hr⟩ := okWR_at hok
    rw [show togA L0 [a1, a2] = (lowA (widS L0 * ratM [a1, a2]) (ratP [a1, a2]) : Int) by unfold togA; rw [if_pos hok], show togB L0 [a1, a2] = (lowB (widS L0 * ratM [a1, a2]) (ratP [a1, a2]) : Int) by unfold togB; rw [if_pos hok], ratM_two, ratP_two]
    rw [hok] at HM
    obtain ⟨b1, b2, b3, b4⟩ := okR_two_at hr
    obtain ⟨x, rfl⟩ : ∃ x : Nat, a1 = x := ⟨a1.toNat, by omega⟩
    obtain ⟨y, rfl⟩ : ∃ y : Nat, a2 = y := ⟨a2.toNat, by omega⟩
    rw [Int.toNat_natCast, Int.toNat_natCast]
    obtain ⟨hs, hs2⟩ := widS_at hw
    have hwl := okW_len hw
    have hwx := okW_mem hw
    have HSW := Lib.hid fun W hW => shSum_w (c := c0) (w := W) (A := A0) rfl hwl.2 hwx hW
    rw [hs] at HSW
    have hm1 : widS L0 * x ≤ 1200 * 20 := Nat.mul_le_mul hs2 (by omega)
    have hm2 : widS L0 * x * y ≤ 1200 * 20 * 20 := Nat.mul_le_mul hm1 (by omega)
    have HLT := Lib.hid fun W => shLow_any (widS L0 * x * y) (x + y) W (by omega) (by omega) (by omega)
    rw [Nat.mul_assoc] at HLT
    rw [Int.natCast_mul, Int.natCast_mul, ← Int.mul_assoc, Int.natCast_add] at HLT
    have n1 : (0 : Int) ≤ (widS L0 : Int) * (x : Int) := by rw [← Int.natCast_mul]; omega
    have n2 : (widS L0 : Int) * (x : Int) ≤ 24000 := by rw [← Int.natCast_mul]; omega
    have n3 : (0 : Int) ≤ (widS L0 : Int) * (x : Int) * (y : Int) := by rw [← Int.natCast_mul, ← Int.natCast_mul]; omega
    have n4 : (widS L0 : Int) * (x : Int) * (y : Int) ≤ 480000 := by rw [← Int.natCast_mul, ← Int.natCast_mul]; omega
    obtain ⟨ra, hra⟩ : ∃ a, a = lowA (widS L0 * (x * y)) (x + y) := ⟨_, rfl⟩
    obtain ⟨rb, hrb⟩ : ∃ a, a = lowB (widS L0 * (x * y)) (x + y) := ⟨_, rfl⟩
    rw [← hra, ← hrb] at HLT ⊢
    obtain ⟨S, hS⟩ : ∃ S, S = widS L0 := ⟨_, rfl⟩
    rw [← hS] at HSW HLT n1 n2 n3 n4
    clear hok hw hr hs hwx hra hrb hS hm1 hm2 hs2
    go_enter Try.func47, Try.ntmps47
    go_wp2_with (first
      | (go_at_call 103; refine HM.out.mono ?_; rintro e w1 ⟨rfl, rfl⟩)
      | (go_at_call 92; refine (HSW.out _ h0).mono ?_; rintro e w1 ⟨rfl, rfl⟩)
      | (go_at_call 91; refine (HLT.out _).mono ?_; rintro e w1 ⟨rfl, dd, rfl⟩))
    go_ret3
    exact ⟨rfl, below_drewN (Below.refl _ _) _⟩

set_option maxHeartbeats 1000000 in
theorem specMeetPlace_any (A0 : Option Addr) (c0 : Nat) (L0 : List Int) (a1 a2 : Int) (w : World) (l0 : L0.length ≤ 1048576) (_ : WfL L0) (_ : L0.length ≤ c0) (h0 : IntSl w A0 L0) (_ : (Lit.int .i64 a1).wf = true) (_ : (Lit.int .i64 a2).wf = true) :
    Calls Try.prog 49 #[.slice A0 L0.length c0, .int .i64 a1, .int .i64 a2] w fun e w' => e = .returned (.tuple #[.int .i64 (plaA L0 a1 a2), .int .i64 (plaB L0 a1 a2), .bool (okWR L0 [a1, a2])]) ∧ Below w.heap.size w w' := by
  have HM := Lib.hid (shMeet_any A0 c0 L0 a1 a2 w l0 h0)
  cases hok : okWR L0 [a1, a2]
  · rw [show plaA L0 a1 a2 = 0 by unfold plaA; rw [hok]; rfl, show plaB L0 a1 a2 = 0 by unfold plaB; rw [hok]; rfl]
    rw [hok] at HM
    clear hok
    go_enter Try.func49, Try.ntmps49
    go_wp2_with (go_at_call 103; refine HM.out.mono ?_; rintro e w1 ⟨rfl, rfl⟩)
    go_ret3
    exact ⟨rfl, Below.refl _ _⟩
  · obtain ⟨hw, hr⟩ := okWR_at hok
    rw [show plaA L0 a1 a2 = (lowA (widS L0 * a2.toNat) (a1.toNat + a2.toNat) : Int) by unfold plaA; rw [if_pos hok], show plaB L0 a1 a2 = (lowB (widS L0 * a2.toNat) (a1.toNat + a2.toNat) : Int) by unfold plaB; rw [if_pos hok]]
    rw [hok] at HM
    obtain ⟨b1, b2, b3, b4⟩ := okR_two_at hr
    obtain ⟨x, rfl⟩ : ∃ x : Nat, a1 = x := ⟨a1.toNat, by omega⟩
    obtain ⟨y, rfl⟩ : ∃ y : Nat, a2 = y := ⟨a2.toNat, by omega⟩
    rw [Int.toNat_natCast, Int.toNat_natCast]
    obtain ⟨hs, hs2⟩ := widS_at hw
    have hwl := okW_len hw
    have hwx := okW_mem hw
    have HSW := Lib.hid fun W hW => shSum_w (c := c0) (w := W) (A := A0) rfl hwl.2 hwx hW
    rw [hs] at HSW
    have hm1 : widS L0 * y ≤ 1200 * 20 := Nat.mul_le_mul hs2 (by omega)
    have HLT := Lib.hid fun W => shLow_any (widS L0 * y) (x + y) W (by omega) (by omega) (by omega)
    rw [Int.natCast_mul, Int.natCast_add] at HLT
    have n1 : (0 : Int) ≤ (widS L0 : Int) * (y : Int) := by rw [← Int.natCast_mul]; omega
    have n2 : (widS L0 : Int) * (y : Int) ≤ 24000 := by rw [← Int.natCast_mul]; omega
    obtain ⟨ra, hra⟩ : ∃ a, a = lowA (widS L0 * y) (x + y) := ⟨_, rfl⟩
    obtain ⟨rb, hrb⟩ : ∃ a, a = lowB (widS L0 * y) (x + y) := ⟨_, rfl⟩
    rw [← hra, ← hrb] at HLT ⊢
    obtain ⟨S, hS⟩ : ∃ S, S = widS L0 := ⟨_, rfl⟩
    rw [← hS] at HSW HLT n1 n2
    clear hok hw hr hs hwx hra hrb hS hm1 hs2
    go_enter Try.func49, Try.ntmps49
    go_wp2_with (first
      | (go_at_call 103; refine HM.out.mono ?_; rintro e w1 ⟨rfl, rfl⟩)
      | (go_at_call 92; refine (HSW.out _ h0).mono ?_; rintro e w1 ⟨rfl, rfl⟩)
      | (go_at_call 91; refine (HLT.out _).mono ?_; rintro e w1 ⟨rfl, dd, rfl⟩))
    go_ret3
    exact ⟨rfl, below_drewN (Below.refl _ _) _⟩

theorem okPart_two (W : List Int) (l r : Int) : okPart W [l, r] 0 = okWR W [l, r] := by
  unfold okPart
  rw [decide_eq_true (by simp), Bool.and_true]
set_option maxHeartbeats 1000000 in
theorem implMeetPlace_any (A0 : Option Addr) (c0 : Nat) (L0 : List Int) (a1 a2 : Int) (w : World) (l0 : L0.length ≤ 1048576) (f0 : WfL L0) (q0 : L0.length ≤ c0) (h0 : IntSl w A0 L0) (w1 : (Lit.int .i64 a1).wf = true) (w2 : (Lit.int .i64 a2).wf = true) :
    Calls Try.prog 48 #[.slice A0 L0.length c0, .int .i64 a1, .int .i64 a2] w fun e w' => e = .returned (.tuple #[.int .i64 (plaA L0 a1 a2), .int .i64 (plaB L0 a1 a2), .bool (okWR L0 [a1, a2])]) ∧ Below w.heap.size w w' := by
  have hf : WfL [a1, a2] := fun x hx => by
    simp only [List.mem_cons, List.not_mem_nil, or_false] at hx
    rcases hx with rfl | rfl
    · exact w1
    · exact w2
  have HT : Hid (∀ W A, IntSl W A0 L0 → IntSl W A [a1, a2] → Calls Try.prog 39 #[.slice A0 L0.length c0, .slice A 2 2, .int .i64 0] W fun e w' => e = .returned (.tuple #[.int .i64 (parA L0 [a1, a2] 0), .int .i64 (parB L0 [a1, a2] 0), .bool (okPart L0 [a1, a2] 0)]) ∧ Below W.heap.size W w') :=
    Lib.hid fun W A x y => implPartOfPainter_any A0 c0 L0 A 2 [a1, a2] 0 W l0 f0 q0 x (by simp) hf (Nat.le_refl _) y (by decide)
  have H2 := Lib.hid (two_sl w a1 a2 3)
  have H0 := Lib.hid (h0.below (below_new w (.cells #[.int .i64 a1, .int .i64 a2] 3)))
  rw [okPart_two] at HT
  cases hok : okWR L0 [a1, a2]
  · rw [show plaA L0 a1 a2 = 0 by unfold plaA; rw [hok]; rfl, show plaB L0 a1 a2 = 0 by unfold plaB; rw [hok]; rfl]
    obtain ⟨e1, e2⟩ := part_no ((okPart_two L0 a1 a2).trans hok)
    rw [e1, e2, hok] at HT
    clear hok e1 e2 hf h0
    go_enter Try.func48, Try.ntmps48
    go_wp2_with fail
    refine (HT.out _ _ H0.out H2.out).mono ?_
    rintro e w3 ⟨rfl, hb⟩
    go_wp2
    go_ret3
    exact ⟨rfl, below_box hb⟩
  · obtain ⟨hw, hr⟩ := okWR_at hok
    rw [show plaA L0 a1 a2 = (lowA (widS L0 * a2.toNat) (a1.toNat + a2.toNat) : Int) by unfold plaA; rw [if_pos hok], show plaB L0 a1 a2 = (lowB (widS L0 * a2.toNat) (a1.toNat + a2.toNat) : Int) by unfold plaB; rw [if_pos hok]]
    have hpo := (okPart_two L0 a1 a2).trans hok
    rw [show parA L0 [a1, a2] 0 = (lowA (ratM [a1, a2] / rateK [a1, a2] 0) (ratP [a1, a2]) : Int) by unfold parA; rw [if_pos hpo], show parB L0 [a1, a2] 0 = (lowB (ratM [a1, a2] / rateK [a1, a2] 0) (ratP [a1, a2]) : Int) by unfold parB; rw [if_pos hpo], ratM_two, ratP_two, hok] at HT
    obtain ⟨b1, b2, b3, b4⟩ := okR_two_at hr
    obtain ⟨x, rfl⟩ : ∃ x : Nat, a1 = x := ⟨a1.toNat, by omega⟩
    obtain ⟨y, rfl⟩ : ∃ y : Nat, a2 = y := ⟨a2.toNat, by omega⟩
    have hx : 0 < x := by omega
    rw [show rateK [(x : Int), (y : Int)] 0 = x from rfl, Int.toNat_natCast, Int.toNat_natCast, Nat.mul_div_cancel_left y hx] at HT
    rw [Int.toNat_natCast, Int.toNat_natCast]
    obtain ⟨hs, hs2⟩ := widS_at hw
    have hwl := okW_len hw
    have hwx := okW_mem hw
    have HSW := Lib.hid fun W hW => sumOf_w (c := c0) (w := W) (A := A0) rfl hwl.2 hwx hW
    rw [hs] at HSW
    have hp : 0 < x + y := by omega
    have hle := low_le (a := y) (b := x + y)
    have hbp := low_pos (a := y) hp
    have hm1 : widS L0 * lowA y (x + y) ≤ 1200 * 20 := Nat.mul_le_mul hs2 (by omega)
    have HLT := Lib.hid fun W => lowestTerms_any (widS L0 * lowA y (x + y)) (lowB y (x + y)) W (by omega) (by omega) hbp
    obtain ⟨e1, e2⟩ := low_same (a := widS L0 * lowA y (x + y)) (c := widS L0 * y) hbp hp (by rw [Nat.mul_assoc, low_cross, Nat.mul_assoc])
    rw [e1, e2, Int.natCast_mul] at HLT
    have n1 : (0 : Int) ≤ (widS L0 : Int) * (lowA y (x + y) : Int) := by rw [← Int.natCast_mul]; omega
    have n2 : (widS L0 : Int) * (lowA y (x + y) : Int) ≤ 24000 := by rw [← Int.natCast_mul]; omega
    obtain ⟨ra, hra⟩ : ∃ a, a = lowA (widS L0 * y) (x + y) := ⟨_, rfl⟩
    obtain ⟨rb, hrb⟩ : ∃ a, a = lowB (widS L0 * y) (x + y) := ⟨_, rfl⟩
    rw [← hra, ← hrb] at HLT ⊢
    obtain ⟨S, hS⟩ : ∃ S, S = widS L0 := ⟨_, rfl⟩
    rw [← hS] at HSW HLT n1 n2
    obtain ⟨P, hP⟩ : ∃ P, P = lowA y (x + y) := ⟨_, rfl⟩
    obtain ⟨Q, hQ⟩ : ∃ Q, Q = lowB y (x + y) := ⟨_, rfl⟩
    rw [← hP] at HT HLT n1 n2
    rw [← hQ] at HT HLT
    clear hok hw hr hs hwx hra hrb hS hm1 hs2 e1 e2 hle hbp hP hQ hpo hf h0
    go_enter Try.func48, Try.ntmps48
    go_wp2_with fail
    refine (HT.out _ _ H0.out H2.out).mono ?_
    rintro e w3 ⟨rfl, hb⟩
    go_wp2_with (first
      | (go_at_call 88; refine (HSW.out _ (H0.out.below hb)).mono ?_; rintro e w1 ⟨rfl, rfl⟩)
      | (go_at_call 87; refine (HLT.out _).mono ?_; rintro e w1 ⟨rfl, dd, rfl⟩))
    go_ret3
    exact ⟨rfl, below_drewN (below_box hb) _⟩
end Go.Proofs.Yteiaidjknnbpjaa
