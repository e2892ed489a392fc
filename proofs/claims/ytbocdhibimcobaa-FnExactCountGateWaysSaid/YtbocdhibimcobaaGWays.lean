/- CountGateWays, FewestGates, CountWithLongest of both sides. No condition. -/
import Derived.Test.YtbocdhibimcobaaBehind
import Derived.Test.YtbocdhibimcobaaSub
namespace Go.Proofs.Ytbocdhibimcobaa
open Go.RowKit

def gwR (n m : Int) : Int := if okMany n m = true then ((bin (n.toNat - 1) m.toNat : Nat) : Int) else 0
theorem gwR_yes {n m : Nat} (h : okMany n m = true) : gwR n m = ((bin (n - 1) m : Nat) : Int) := by unfold gwR; rw [h, Int.toNat_natCast, Int.toNat_natCast]; rfl
theorem gwR_no {n m : Int} (h : okMany n m = false) : gwR n m = 0 := by unfold gwR; rw [h]; rfl
set_option maxHeartbeats 1000000 in
theorem specCountGateWays_no (a0 a1 : Int) (w : World)  (hok : (okMany a0 a1) = false) :
    Calls Try.prog 36 #[.int .i64 a0, .int .i64 a1] w fun e w' => e = .returned (.tuple #[.int .i64 0, .bool false]) ∧ Below w.heap.size w w' := by
  have H0 := Lib.hid (gaMany_any a0 a1 w)
  cases h0 : okMany a0 a1
  · clear hok
    rw [h0] at H0
    clear h0
    go_enter Try.func36, Try.ntmps36
    go_wp2_with fail
    refine H0.out.mono ?_
    rintro e w1 ⟨rfl, rfl⟩
    go_wp2
    go_ret2
    exact ⟨rfl, Below.refl _ _⟩
  · rw [h0] at hok; simp at hok
theorem specCountGateWays_any (a0 a1 : Int) (w : World) (_ : (Lit.int .i64 a0).wf = true) (_ : (Lit.int .i64 a1).wf = true) :
    Calls Try.prog 36 #[.int .i64 a0, .int .i64 a1] w fun e w' => e = .returned (.tuple #[.int .i64 (gwR a0 a1), .bool (okMany a0 a1)]) ∧ Below w.heap.size w w' := by
  cases hk : okMany a0 a1
  · rw [gwR_no hk]
    exact specCountGateWays_no a0 a1 w hk
  · have HM := Lib.hid (gaMany_any a0 a1 w)
    obtain ⟨hn, hm⟩ := okMany_at hk
    obtain ⟨n, rfl⟩ : ∃ n : Nat, a0 = n := ⟨a0.toNat, by omega⟩
    obtain ⟨m, rfl⟩ : ∃ m : Nat, a1 = m := ⟨a1.toNat, by omega⟩
    rw [gwR_yes hk]
    rw [hk] at HM
    have HW := Lib.hid (gaWays_any n m n w (by omega) (by omega) (by omega))
    have e : waysF n (m + 1) n = bin (n - 1) m := by
      obtain ⟨p, rfl⟩ : ∃ p, n = p + 1 := ⟨n - 1, by omega⟩
      exact waysF_bin m p (Nat.le_refl _)
    rw [e] at HW
    clear hk e
    go_enter Try.func36, Try.ntmps36
    go_wp2_with fail
    refine HM.out.mono ?_
    rintro e w1 ⟨rfl, rfl⟩
    go_wp2_with fail
    refine HW.out.mono ?_
    rintro e w1 ⟨rfl, hb⟩
    go_wp2
    go_ret2
    exact ⟨rfl, hb⟩
theorem implCountGateWays_eq (a0 a1 : Int) (w : World) :
    Calls Try.prog 37 #[.int .i64 a0, .int .i64 a1] w fun e w' => e = .returned (.tuple #[.int .i64 (gwR a0 a1), .bool (okMany a0 a1)]) ∧ w = w' := by
  cases hk : okMany a0 a1
  · rw [gwR_no hk]
    have HM := Lib.hid (isRowFor_any a0 a1 w)
    rw [hk] at HM
    clear hk
    go_enter Try.func37, Try.ntmps37
    go_wp2_with fail
    refine HM.out.mono ?_
    rintro e w1 ⟨rfl, rfl⟩
    go_wp2
    go_ret2
    exact ⟨rfl, rfl⟩
  · have HM := Lib.hid (isRowFor_any a0 a1 w)
    obtain ⟨hn, hm⟩ := okMany_at hk
    obtain ⟨n, rfl⟩ : ∃ n : Nat, a0 = n := ⟨a0.toNat, by omega⟩
    obtain ⟨m, rfl⟩ : ∃ m : Nat, a1 = m := ⟨a1.toNat, by omega⟩
    rw [gwR_yes hk]
    rw [hk] at HM
    have HW := Lib.hid (waysBehind_any n 0 m w (by omega) (by omega) (by omega) (by omega))
    rw [Nat.sub_zero] at HW
    clear hk
    go_enter Try.func37, Try.ntmps37
    go_wp2_with fail
    refine HM.out.mono ?_
    rintro e w1 ⟨rfl, rfl⟩
    go_wp2_with fail
    refine HW.out.mono ?_
    rintro e w1 ⟨rfl, rfl⟩
    go_wp2
    go_ret2
    exact ⟨rfl, rfl⟩
theorem implCountGateWays_any (a0 a1 : Int) (w : World) (_ : (Lit.int .i64 a0).wf = true) (_ : (Lit.int .i64 a1).wf = true) :
    Calls Try.prog 37 #[.int .i64 a0, .int .i64 a1] w fun e w' => e = .returned (.tuple #[.int .i64 (gwR a0 a1), .bool (okMany a0 a1)]) ∧ Below w.heap.size w w' :=
  (implCountGateWays_eq a0 a1 w).mono fun _ _ h => ⟨h.1, by rw [← h.2]; exact Below.refl _ _⟩

def okFg (n m : Int) : Bool := okRow n && okMost m
def fgR (n m : Int) : Int := if okFg n m = true then (n - 1) / m else 0
theorem fgR_no {n m : Int} (h : okFg n m = false) : fgR n m = 0 := by unfold fgR; rw [h]; rfl
theorem fgR_yes {n m : Int} (h : okFg n m = true) : fgR n m = (n - 1) / m := by unfold fgR; rw [h]; rfl
theorem okFg_at {n m : Int} (h : okFg n m = true) : okRow n = true ∧ okMost m = true := by
  unfold okFg at h
  rwa [Bool.and_eq_true] at h
theorem okMost_any (m : Int) (w : World) :
    Calls Try.prog 58 #[.int .i64 m, .int .i64 1, .int .i64 40] w fun e w' => e = .returned (.bool (okMost m)) ∧ w = w' := l1In_any m 1 40 w
set_option maxHeartbeats 1000000 in
theorem specFewestGates_no (a0 a1 : Int) (w : World)  (hok : (okRow a0 && okMost a1) = false) :
    Calls Try.prog 40 #[.int .i64 a0, .int .i64 a1] w fun e w' => e = .returned (.tuple #[.int .i64 0, .bool false]) ∧ Below w.heap.size w w' := by
  have H0 := Lib.hid (gaBoards_any a0 w)
  have H1 := Lib.hid (okMost_any a1 w)
  cases h0 : okRow a0
  · clear hok
    rw [h0] at H0
    clear h0 H1
    go_enter Try.func40, Try.ntmps40
    go_wp2_with fail
    refine H0.out.mono ?_
    rintro e w1 ⟨rfl, rfl⟩
    go_wp2
    go_ret2
    exact ⟨rfl, Below.refl _ _⟩
  · skip
    cases h1 : okMost a1
    · clear hok
      rw [h0] at H0
      rw [h1] at H1
      clear h0 h1
      go_enter Try.func40, Try.ntmps40
      go_wp2_with fail
      refine H0.out.mono ?_
      rintro e w1 ⟨rfl, rfl⟩
      go_wp2_with fail
      refine H1.out.mono ?_
      rintro e w1 ⟨rfl, rfl⟩
      go_wp2
      go_ret2
      exact ⟨rfl, Below.refl _ _⟩
    · rw [h0, h1] at hok; simp at hok
set_option maxHeartbeats 1000000 in
theorem implFewestGates_no (a0 a1 : Int) (w : World)  (hok : (okRow a0 && okMost a1) = false) :
    Calls Try.prog 41 #[.int .i64 a0, .int .i64 a1] w fun e w' => e = .returned (.tuple #[.int .i64 0, .bool false]) ∧ Below w.heap.size w w' := by
  have H0 := Lib.hid (isRow_any a0 w)
  have H1 := Lib.hid (isLongest_any a1 w)
  cases h0 : okRow a0
  · clear hok
    rw [h0] at H0
    clear h0 H1
    go_enter Try.func41, Try.ntmps41
    go_wp2_with fail
    refine H0.out.mono ?_
    rintro e w1 ⟨rfl, rfl⟩
    go_wp2
    go_ret2
    exact ⟨rfl, Below.refl _ _⟩
  · skip
    cases h1 : okMost a1
    · clear hok
      rw [h0] at H0
      rw [h1] at H1
      clear h0 h1
      go_enter Try.func41, Try.ntmps41
      go_wp2_with fail
      refine H0.out.mono ?_
      rintro e w1 ⟨rfl, rfl⟩
      go_wp2_with fail
      refine H1.out.mono ?_
      rintro e w1 ⟨rfl, rfl⟩
      go_wp2
      go_ret2
      exact ⟨rfl, Below.refl _ _⟩
    · rw [h0, h1] at hok; simp at hok
theorem specFewestGates_any (a0 a1 : Int) (w : World) (_ : (Lit.int .i64 a0).wf = true) (_ : (Lit.int .i64 a1).wf = true) :
    Calls Try.prog 40 #[.int .i64 a0, .int .i64 a1] w fun e w' => e = .returned (.tuple #[.int .i64 (fgR a0 a1), .bool (okFg a0 a1)]) ∧ Below w.heap.size w w' := by
  cases hk : okFg a0 a1
  · rw [fgR_no hk]
    exact specFewestGates_no a0 a1 w hk
  · rw [fgR_yes hk]
    obtain ⟨h1, h2⟩ := okFg_at hk
    have HR := Lib.hid (gaBoards_any a0 w)
    have HM := Lib.hid (okMost_any a1 w)
    obtain ⟨n2, n40⟩ := okRow_at h1
    obtain ⟨m1, m40⟩ := okMost_at h2
    rw [h1] at HR
    rw [h2] at HM
    obtain ⟨q, hq⟩ : ∃ q, q = (a0 - 1) / a1 := ⟨_, rfl⟩
    have h3 : 0 ≤ (a0 - 1) / a1 := Int.ediv_nonneg (by omega) (by omega)
    have h4 : (a0 - 1) / a1 ≤ a0 - 1 := Int.ediv_le_self _ (by omega)
    rw [← hq] at h3 h4 ⊢
    have dq := hq.symm
    have tq : (a0 - 1).tdiv a1 = q := by rw [Int.tdiv_eq_ediv_of_nonneg (by omega), dq]
    have yz : (a1 == 0) = false := by rw [beq_eq_false_iff_ne]; omega
    have y0' : (0 : Int) < a1 := by omega
    clear hk h1 h2 hq
    go_enter Try.func40, Try.ntmps40
    go_wp2_with fail
    refine HR.out.mono ?_
    rintro e w1 ⟨rfl, rfl⟩
    go_wp2_with fail
    refine HM.out.mono ?_
    rintro e w1 ⟨rfl, rfl⟩
    go_wp2
    go_ret2
    exact ⟨rfl, Below.refl _ _⟩
theorem fewestGapsG_any (a b : Int) (w : World) (a2 : 2 ≤ a) (a40 : a ≤ 40) (b1 : 1 ≤ b) (b40 : b ≤ 40) :
    Calls Try.prog 76 #[.int .i64 a, .int .i64 b] w fun e w' => e = .returned (.int .i64 ((a - 1) / b + 1)) ∧ w = w' := by
  have h0 : (a + b - 1) / b = (a - 1) / b + 1 := by
    rw [show a + b - 1 = (a - 1) + b * 1 by omega, Int.add_mul_ediv_left _ _ (by omega)]
  have h3 : 0 ≤ (a - 1) / b := Int.ediv_nonneg (by omega) (by omega)
  have h4 : (a - 1) / b ≤ a - 1 := Int.ediv_le_self _ (by omega)
  obtain ⟨q, hq⟩ : ∃ q, q = (a - 1) / b := ⟨_, rfl⟩
  rw [← hq] at h0 h3 h4 ⊢
  obtain ⟨r, hr⟩ : ∃ r, r = q + 1 := ⟨_, rfl⟩
  rw [← hr] at h0 ⊢
  have HH : Hid (r = q + 1) := Lib.hid hr
  have tq : (a + b - 1).tdiv b = r := by rw [Int.tdiv_eq_ediv_of_nonneg (by omega), h0]
  have yz : (b == 0) = false := by rw [beq_eq_false_iff_ne]; omega
  have y0' : (0 : Int) < b := by omega
  have r0 : 0 ≤ r := by omega
  have r41 : r ≤ 41 := by omega
  clear hq hr
  go_enter Try.func76, Try.ntmps76
  go_wp2
  go_ret
  exact ⟨rfl, rfl⟩
theorem implFewestGates_any (a0 a1 : Int) (w : World) (_ : (Lit.int .i64 a0).wf = true) (_ : (Lit.int .i64 a1).wf = true) :
    Calls Try.prog 41 #[.int .i64 a0, .int .i64 a1] w fun e w' => e = .returned (.tuple #[.int .i64 (fgR a0 a1), .bool (okFg a0 a1)]) ∧ Below w.heap.size w w' := by
  cases hk : okFg a0 a1
  · rw [fgR_no hk]
    exact implFewestGates_no a0 a1 w hk
  · rw [fgR_yes hk]
    obtain ⟨h1, h2⟩ := okFg_at hk
    have HR := Lib.hid (isRow_any a0 w)
    have HM := Lib.hid (isLongest_any a1 w)
    obtain ⟨n2, n40⟩ := okRow_at h1
    obtain ⟨m1, m40⟩ := okMost_at h2
    rw [h1] at HR
    rw [h2] at HM
    have HF := Lib.hid (fewestGapsG_any a0 a1 w n2 n40 m1 m40)
    have h3 : 0 ≤ (a0 - 1) / a1 := Int.ediv_nonneg (by omega) (by omega)
    have h4 : (a0 - 1) / a1 ≤ a0 - 1 := Int.ediv_le_self _ (by omega)
    obtain ⟨q, hq⟩ : ∃ q, q = (a0 - 1) / a1 := ⟨_, rfl⟩
    rw [← hq] at HF h3 h4 ⊢
    clear hk h1 h2 hq
    go_enter Try.func41, Try.ntmps41
    go_wp2_with fail
    refine HR.out.mono ?_
    rintro e w1 ⟨rfl, rfl⟩
    go_wp2_with fail
    refine HM.out.mono ?_
    rintro e w1 ⟨rfl, rfl⟩
    go_wp2_with fail
    refine HF.out.mono ?_
    rintro e w1 ⟨rfl, rfl⟩
    go_wp2
    go_ret2
    exact ⟨ret_ib (by omega) rfl, Below.refl _ _⟩
end Go.Proofs.Ytbocdhibimcobaa
