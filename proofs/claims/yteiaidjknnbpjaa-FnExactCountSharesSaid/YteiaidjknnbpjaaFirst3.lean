/- FirstRated and FirstShare of both sides. No condition but the lists' lengths. -/
import Derived.Test.YteiaidjknnbpjaaFirst2
namespace Go.Proofs.Yteiaidjknnbpjaa
open Go.RowKit

def resF (W R : List Int) : List Int := if okWR W R = true then castL (backS (leastT W R) W R) else []
theorem resF_len (W R : List Int) : (resF W R).length ≤ 1048576 := by
  unfold resF
  split
  · next h => have := okR_len (okWR_at h).2; rw [castL_len, backS_len]; omega
  · exact Nat.zero_le _
theorem least_feas {W R : List Int} (hr : okR R = true) : feas (leastT W R) W R := by
  have hrl := okR_len hr
  exact (feas_iff (by intro e; rw [e] at hrl; simp at hrl)).1 (Int.le_refl _)

theorem rep_sl {w : World} {b j c : Nat} {e : TypeId} {A : Option Addr} {x : Int} (h : w.ownsRow b e 1 (.slice A j c) j (List.replicate j (.int .i64 x))) : IntSl w A (List.replicate j x) := by
  have h2 : OwnInts w b e (.slice A j c) (List.replicate j x) := by
    unfold OwnInts
    rw [List.length_replicate, List.map_replicate]
    exact h
  exact IntSl.of_own h2

set_option maxHeartbeats 2000000 in
theorem implFirstRated_any (A0 : Option Addr) (c0 : Nat) (L0 : List Int) (A1 : Option Addr) (c1 : Nat) (L1 : List Int) (w : World) (l0 : L0.length ≤ 1048576) (f0 : WfL L0) (q0 : L0.length ≤ c0) (h0 : IntSl w A0 L0) (l1 : L1.length ≤ 1048576) (f1 : WfL L1) (q1 : L1.length ≤ c1) (h1 : IntSl w A1 L1) :
    Calls Try.prog 24 #[.slice A0 L0.length c0, .slice A1 L1.length c1] w fun e w' => ∃ v, e = .returned (.tuple #[v, .bool (okWR L0 L1)]) ∧ OwnInts w' w.heap.size 3 v (resF L0 L1) ∧ Below w.heap.size w w' := by
  have HL := Lib.hid (implLeastTime_any A0 c0 L0 A1 c1 L1 w l0 f0 q0 h0 l1 f1 q1 h1)
  cases hok : okWR L0 L1
  · rw [show resF L0 L1 = [] by unfold resF; rw [hok]; rfl]
    rw [hok] at HL
    clear hok
    go_enter Try.func24, Try.ntmps24
    go_wp2_with (go_at_call 26; refine HL.out.mono ?_; rintro e w1 ⟨rfl, hb⟩)
    go_ret2
    exact ⟨_, rfl, OwnInts.nil _ _ _, hb⟩
  · rw [show resF L0 L1 = castL (backS (leastT L0 L1) L0 L1) by unfold resF; rw [if_pos hok]]
    rw [hok, show resL L0 L1 = leastT L0 L1 by unfold resL; rw [if_pos hok]] at HL
    obtain ⟨hw, hr⟩ := okWR_at hok
    have hbd := least_bd hw hr
    have hwl := okW_len hw
    have hrl := okR_len hr
    have hfe := least_feas (W := L0) hr
    obtain ⟨m, hm⟩ : ∃ m : Nat, leastT L0 L1 = m := ⟨(leastT L0 L1).toNat, by omega⟩
    rw [hm] at HL hbd hfe ⊢
    have hWP : Pos L0 := fun x hx => (okW_mem hw x hx).1
    have hRP : Pos L1 := fun x hx => (okR_mem hr x hx).1
    have hG := (feas_left (by omega) hRP.reverse hWP.reverse).1 (feas_reverse hfe)
    have HM0 := Lib.hid fun W h => mirrored_any A0 c0 L0 W (by omega) l0 h
    have HM1 := Lib.hid fun W h => mirrored_any A1 c1 L1 W (by omega) l1 h
    have HW := Lib.hid fun A c W h => worksWithin_any A c L1.reverse m W (by omega) (by rw [List.length_reverse]; omega) (by rw [List.length_reverse]; omega) (fun x hx => okR_mem hr x (List.mem_reverse.1 hx)) h
    rw [List.length_reverse] at HW
    have HH : Hid (∀ A c A' c' W, IntSl W A L0.reverse → IntSl W A' (capsOf L1.reverse m) → Calls Try.prog 73 #[.slice A L0.length c, .slice A' L1.length c'] W fun e w' => e = .returned (.tuple #[.slice (some ⟨W.heap.size, 0, none⟩) L1.length L1.length, .bool true]) ∧ OwnInts w' W.heap.size 3 (.slice (some ⟨W.heap.size, 0, none⟩) L1.length L1.length) (castL (takenG L0.reverse (capsOf L1.reverse m))) ∧ Below W.heap.size W w') := Lib.hid fun A c A' c' W x y => by
      have h := handOut_any A c L0.reverse A' c' (capsOf L1.reverse m) W (by rw [List.length_reverse]; omega) (by rw [List.length_reverse]; omega) (fun x hx => okW_mem hw x (List.mem_reverse.1 hx)) (by rw [caps_len, List.length_reverse]; omega) (by rw [caps_len, List.length_reverse]; omega) (caps_bd (fun x hx => okR_mem hr x (List.mem_reverse.1 hx)) (by omega) (by omega)) x y
      rw [caps_len, List.length_reverse, List.length_reverse] at h
      refine h.mono fun e w' h => ?_
      unfold HandPost at h
      rw [if_pos hG, caps_len, List.length_reverse] at h
      exact ⟨h.1.1, h.1.2, h.2⟩
    have htl : (castL (takenG L0.reverse (capsOf L1.reverse m))).length = L1.length := by rw [castL_len, takenG_len, caps_len, List.length_reverse]
    have HRV : Hid (∀ W g base, OwnInts W base 3 (.slice (some ⟨g, 0, none⟩) L1.length L1.length) (castL (takenG L0.reverse (capsOf L1.reverse m))) → Calls Try.prog 76 #[.slice (some ⟨g, 0, none⟩) L1.length L1.length] W fun e' w' => e' = .returned (.tuple #[]) ∧ OwnInts w' base 3 (.slice (some ⟨g, 0, none⟩) L1.length L1.length) (castL (backS m L0 L1)) ∧ ∀ B a, B ≤ base → Below B a W → Below B a w') := Lib.hid fun W g base h => by
      rw [← htl] at h ⊢
      have := reverse_own (by omega) (by omega) h
      rw [show (castL (takenG L0.reverse (capsOf L1.reverse m))).reverse = castL (backS m L0 L1) by unfold castL backS; rw [List.map_reverse]] at this
      exact this
    have H0 := Lib.hid h0
    have H1 := Lib.hid h1
    clear hw hr hWP hRP hG htl hfe hok hm h0 h1
    go_enter Try.func24, Try.ntmps24
    go_wp2_with fail
    refine HL.out.mono ?_
    rintro e w1 ⟨rfl, hb1⟩
    have HB1 := Lib.hid hb1
    clear hb1
    go_wp2_with fail
    refine (HM0.out _ (H0.out.below HB1.out)).mono ?_
    rintro e w2 ⟨g2, cap2, rfl, hown2, hb2⟩
    have HB2 := Lib.hid (below_next HB1.out hb2)
    have HO2 := Lib.hid hown2
    clear hb2 hown2
    go_wp2_with fail
    refine (HM1.out _ (H1.out.below HB2.out)).mono ?_
    rintro e w3 ⟨g3, cap3, rfl, hown3, hb3⟩
    have HB3 := Lib.hid (below_next HB2.out hb3)
    have HO23 := Lib.hid (OwnInts.below HO2.out hb3)
    have HO3 := Lib.hid hown3
    clear hb3 hown3
    go_wp2_with fail
    refine (HW.out _ _ _ (IntSl.of_own HO3.out)).mono ?_
    rintro e w4 ⟨rfl, hown4, hb4⟩
    have HB4 := Lib.hid (below_next HB3.out hb4)
    have HO24 := Lib.hid (OwnInts.below HO23.out hb4)
    have HO4 := Lib.hid hown4
    clear hb4 hown4
    go_wp2_with fail
    refine (HH.out _ _ _ _ _ (IntSl.of_own HO24.out) (IntSl.of_own HO4.out)).mono ?_
    rintro e w5 ⟨rfl, hown5, hb5⟩
    have HB5 := Lib.hid (below_next HB4.out hb5)
    have HO5 := Lib.hid hown5
    have hs4 := HB4.out.size
    clear hb5 hown5
    go_wp2_with fail
    refine (HRV.out _ _ _ HO5.out).mono ?_
    rintro e w6 ⟨rfl, hown6, hb6⟩
    have HB6 := Lib.hid (hb6 _ _ hs4 HB5.out)
    clear hb6
    go_wp2
    go_ret2
    exact ⟨_, rfl, hown6.mono hs4, HB6.out⟩

set_option maxHeartbeats 1000000 in
theorem specFirstRated_any (A0 : Option Addr) (c0 : Nat) (L0 : List Int) (A1 : Option Addr) (c1 : Nat) (L1 : List Int) (w : World) (l0 : L0.length ≤ 1048576) (_ : WfL L0) (q0 : L0.length ≤ c0) (h0 : IntSl w A0 L0) (l1 : L1.length ≤ 1048576) (_ : WfL L1) (_ : L1.length ≤ c1) (h1 : IntSl w A1 L1) :
    Calls Try.prog 25 #[.slice A0 L0.length c0, .slice A1 L1.length c1] w fun e w' => ∃ v, e = .returned (.tuple #[v, .bool (okWR L0 L1)]) ∧ OwnInts w' w.heap.size 3 v (resF L0 L1) ∧ Below w.heap.size w w' := by
  have HR := Lib.hid (shRated_any A0 c0 L0 A1 c1 L1 w l0 h0 l1 h1)
  cases hok : okWR L0 L1
  · rw [show resF L0 L1 = [] by unfold resF; rw [hok]; rfl]
    unfold okWR at hok
    rw [hok] at HR
    clear hok
    go_enter Try.func25, Try.ntmps25
    go_wp2_with (go_at_call 77; refine HR.out.mono ?_; rintro e w1 ⟨rfl, rfl⟩)
    go_ret2
    exact ⟨_, rfl, OwnInts.nil _ _ _, Below.refl _ _⟩
  · rw [show resF L0 L1 = castL (backS (leastT L0 L1) L0 L1) by unfold resF; rw [if_pos hok]]
    obtain ⟨hw, hr⟩ := okWR_at hok
    unfold okWR at hok
    rw [hok] at HR
    have hbd := least_bd hw hr
    have hfe := least_feas (W := L0) hr
    have HL := Lib.hid fun W x y => shLeast0_any A0 c0 L0 A1 c1 L1 W hw hr q0 x y
    obtain ⟨m, hm⟩ : ∃ m : Nat, leastT L0 L1 = m := ⟨(leastT L0 L1).toNat, by omega⟩
    rw [hm] at HL hbd hfe ⊢
    have HF := Lib.hid fun W x y => shFirst_any A0 c0 L0 A1 c1 L1 m W hw hr q0 x y (by omega) hfe
    have H0 := Lib.hid h0
    have H1 := Lib.hid h1
    clear hok hw hr hm hfe h0 h1
    go_enter Try.func25, Try.ntmps25
    go_wp2_with (first
      | (go_at_call 77; refine HR.out.mono ?_; rintro e w1 ⟨rfl, rfl⟩)
      | (go_at_call 79; refine (HL.out _ H0.out H1.out).mono ?_; rintro e w1 ⟨rfl, q, rfl⟩; have HB := Lib.hid (below_drewN (Below.refl w.heap.size w) q))
      | (go_at_call 78; refine (HF.out _ (H0.out.below HB.out) (H1.out.below HB.out)).mono ?_; rintro e w2 ⟨v, rfl, hown, hb⟩))
    go_ret2
    exact ⟨_, rfl, hown.mono HB.out.size, below_next HB.out hb⟩

def resFS (W : List Int) (p : Int) : List Int := if okWP W p = true then castL (backS (leastT W (onesR p)) W (onesR p)) else []
theorem resFS_len (W : List Int) (p : Int) : (resFS W p).length ≤ 1048576 := by
  unfold resFS
  split
  · next h =>
    obtain ⟨_, h1, h5⟩ := okWP_w h
    rw [castL_len, backS_len]
    unfold onesR
    rw [List.length_replicate]; omega
  · exact Nat.zero_le _
set_option maxHeartbeats 1000000 in
theorem implFirstShare_any (A0 : Option Addr) (c0 : Nat) (L0 : List Int) (a1 : Int) (w : World) (l0 : L0.length ≤ 1048576) (f0 : WfL L0) (q0 : L0.length ≤ c0) (h0 : IntSl w A0 L0) (_ : (Lit.int .i64 a1).wf = true) :
    Calls Try.prog 63 #[.slice A0 L0.length c0, .int .i64 a1] w fun e w' => ∃ v, e = .returned (.tuple #[v, .bool (okWP L0 a1)]) ∧ OwnInts w' w.heap.size 3 v (resFS L0 a1) ∧ Below w.heap.size w w' := by
  have HP := Lib.hid fun W => arePainters_any a1 W
  cases hp : okP a1
  · have hok : okWP L0 a1 = false := by unfold okWP; rw [hp, Bool.and_false]
    rw [show resFS L0 a1 = [] by unfold resFS; rw [hok]; rfl, hok]
    rw [hp] at HP
    clear hp hok
    go_enter Try.func63, Try.ntmps63
    go_wp2_with (go_at_call 106; refine (HP.out _).mono ?_; rintro e w1 ⟨rfl, rfl⟩)
    go_ret2
    exact ⟨_, rfl, OwnInts.nil _ _ _, Below.refl _ _⟩
  · obtain ⟨ho, hl, hp1, hp5⟩ := onesR_ok hp
    have hwf : WfL (onesR a1) := fun x hx => by
      obtain ⟨_, rfl⟩ := List.mem_replicate.1 hx
      decide
    have HT := Lib.hid fun W A (x : IntSl W A0 L0) (y : IntSl W A (onesR a1)) => implFirstRated_any A0 c0 L0 A (onesR a1).length (onesR a1) W l0 f0 q0 x (by omega) hwf (Nat.le_refl _) y
    rw [show resF L0 (onesR a1) = resFS L0 a1 by unfold resF resFS; rw [okWP_eq L0 a1 hp], okWP_eq L0 a1 hp, hl] at HT
    rw [hp] at HP
    obtain ⟨p, rfl⟩ : ∃ p : Nat, a1 = p := ⟨a1.toNat, by omega⟩
    unfold onesR at HT
    rw [Int.toNat_natCast] at HT
    have HA := Lib.hid fun W => alikeRates_any p W (by omega) (by omega)
    obtain ⟨ra, hra⟩ : ∃ a, a = resFS L0 p := ⟨_, rfl⟩
    obtain ⟨rb, hrb⟩ : ∃ a, a = okWP L0 p := ⟨_, rfl⟩
    rw [← hra, ← hrb] at HT ⊢
    have H0 := Lib.hid h0
    clear hp ho hl hwf hra hrb h0
    go_enter Try.func63, Try.ntmps63
    go_wp2_with (first
      | (go_at_call 106; refine (HP.out _).mono ?_; rintro e w1 ⟨rfl, rfl⟩)
      | (go_at_call 109; refine (HA.out _).mono ?_; rintro e w1 ⟨g, rfl, hown, hb⟩; have HB := Lib.hid hb; have HO := Lib.hid hown; clear hb hown)
      | (go_at_call 24; refine (HT.out _ _ (H0.out.below HB.out) (IntSl.of_own HO.out)).mono ?_; rintro e w1 ⟨v, rfl, hown2, hb2⟩))
    go_ret2
    exact ⟨_, rfl, hown2.mono HB.out.size, below_next HB.out hb2⟩
set_option maxHeartbeats 1000000 in
theorem specFirstShare_any (A0 : Option Addr) (c0 : Nat) (L0 : List Int) (a1 : Int) (w : World) (l0 : L0.length ≤ 1048576) (_ : WfL L0) (q0 : L0.length ≤ c0) (h0 : IntSl w A0 L0) (_ : (Lit.int .i64 a1).wf = true) :
    Calls Try.prog 62 #[.slice A0 L0.length c0, .int .i64 a1] w fun e w' => ∃ v, e = .returned (.tuple #[v, .bool (okWP L0 a1)]) ∧ OwnInts w' w.heap.size 3 v (resFS L0 a1) ∧ Below w.heap.size w w' := by
  have HP := Lib.hid (shPainters_any A0 c0 L0 a1 w l0 h0)
  cases hok : okWP L0 a1
  · rw [show resFS L0 a1 = [] by unfold resFS; rw [hok]; rfl]
    rw [hok] at HP
    clear hok
    go_enter Try.func62, Try.ntmps62
    go_wp2_with (go_at_call 105; refine HP.out.mono ?_; rintro e w1 ⟨rfl, rfl⟩)
    go_ret2
    exact ⟨_, rfl, OwnInts.nil _ _ _, Below.refl _ _⟩
  · rw [show resFS L0 a1 = castL (backS (leastT L0 (onesR a1)) L0 (onesR a1)) by unfold resFS; rw [if_pos hok]]
    obtain ⟨hw, hp1, hp5⟩ := okWP_w hok
    have hp : okP a1 = true := by unfold okP; rw [decide_eq_true ⟨hp1, hp5⟩]
    rw [hok] at HP
    obtain ⟨ho, hl, -, -⟩ := onesR_ok hp
    have hbd := least_bd hw ho
    have hfe := least_feas (W := L0) ho
    have HL := Lib.hid fun W A c x y => shLeast0_any A0 c0 L0 A c (onesR a1) W hw ho q0 x y
    obtain ⟨m, hm⟩ : ∃ m : Nat, leastT L0 (onesR a1) = m := ⟨(leastT L0 (onesR a1)).toNat, by omega⟩
    rw [hm] at HL hbd hfe ⊢
    have HF := Lib.hid fun W A c x y => shFirst_any A0 c0 L0 A c (onesR a1) m W hw ho q0 x y (by omega) hfe
    rw [hl] at HL HF
    obtain ⟨p, rfl⟩ : ∃ p : Nat, a1 = p := ⟨a1.toNat, by omega⟩
    unfold onesR at HL HF ⊢
    rw [Int.toNat_natCast] at HL HF ⊢
    have HA := Lib.hid fun W => shSame_any p W (by omega)
    have H0 := Lib.hid h0
    obtain ⟨ra, hra⟩ : ∃ a, a = castL (backS m L0 (List.replicate p 1)) := ⟨_, rfl⟩
    rw [← hra] at HF ⊢
    clear hp ho hl hra h0 hok hw hm hfe
    go_enter Try.func62, Try.ntmps62
    go_wp2_with (first
      | (go_at_call 105; refine HP.out.mono ?_; rintro e w1 ⟨rfl, rfl⟩)
      | (go_at_call 108; refine (HA.out _).mono ?_; rintro e w1 ⟨v, rfl, hown, hb⟩; have HB := Lib.hid hb; have HO := Lib.hid (own_rep hown); obtain ⟨A, c, rfl⟩ := own_any HO.out; have HI := Lib.hid (rep_sl HO.out); clear hown hb HO)
      | (go_at_call 79; refine (HL.out _ _ _ (H0.out.below HB.out) HI.out).mono ?_; rintro e w2 ⟨rfl, q, rfl⟩; have HB2 := Lib.hid (below_drewN (Below.refl w1.heap.size w1) q))
      | (go_at_call 78; refine (HF.out _ _ _ ((H0.out.below HB.out).below HB2.out) (HI.out.below HB2.out)).mono ?_; rintro e w2 ⟨v, rfl, hown, hb⟩))
    go_ret2
    exact ⟨_, rfl, hown.mono HB.out.size, below_next HB.out (below_next HB2.out hb)⟩
end Go.Proofs.Yteiaidjknnbpjaa
