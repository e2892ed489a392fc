/- Heights: who checks them. No condition but the lists' lengths. -/
import Derived.Test.YtbocdhibimcobaaDoorNums
namespace Go.Proofs.YtbocdhibimcobaaDoor
open Go.RowKit

/-- 1 to 20 numbers from 0 to 50 -/
def okH (L : List Int) : Bool := decide (1 ≤ L.length ∧ L.length ≤ 20) && allIn 0 50 L
theorem okH_len {L : List Int} (h : okH L = true) : 1 ≤ L.length ∧ L.length ≤ 20 := by
  unfold okH at h
  rw [Bool.and_eq_true, decide_eq_true_iff] at h
  exact h.1
theorem okH_all {L : List Int} (h : okH L = true) : allIn 0 50 L = true := by
  unfold okH at h
  rw [Bool.and_eq_true] at h
  exact h.2
theorem okH_at {L : List Int} (h : okH L = true) {k : Nat} (hk : k < L.length) : 0 ≤ L[k] ∧ L[k] ≤ 50 := allIn_at (okH_all h) hk
theorem okH_mem {L : List Int} (h : okH L = true) {x : Int} (hx : x ∈ L) : 0 ≤ x ∧ x ≤ 50 := allIn_mem (okH_all h) hx
theorem okH_long {L : List Int} (h : ¬ (1 ≤ L.length ∧ L.length ≤ 20)) : okH L = false := by
  unfold okH; rw [decide_eq_false h]; rfl
theorem okH_of {L : List Int} (h : 1 ≤ L.length ∧ L.length ≤ 20) : okH L = allIn 0 50 L := by
  unfold okH; rw [decide_eq_true h]; rfl

set_option maxHeartbeats 1000000 in
theorem implHeights_any (A : Option Addr) (c : Nat) (L : List Int) (w : World) (hm : L.length ≤ 1048576) (h : IntSl w A L) :
    Calls Tryd.prog 45 #[.slice A L.length c] w fun e w' => e = .returned (.bool (okH L)) ∧ w = w' := by
  by_cases h1 : 1 ≤ L.length
  · by_cases h2 : L.length ≤ 20
    · have HO := Lib.hid (okH_of ⟨h1, h2⟩)
      have HA := Lib.hid (minMax_all h1 0 50)
      have HX := Lib.hid fun W hW => slMax_any A c L W h1 hm hW
      have HN := Lib.hid fun W hW => slMin_any A c L W h1 hm hW
      have HL := Lib.hid h
      clear h
      obtain ⟨x, hx⟩ : ∃ x, x = Lib.maxOf L := ⟨_, rfl⟩
      obtain ⟨y, hy⟩ : ∃ y, y = Lib.minOf L := ⟨_, rfl⟩
      rw [← hx] at HA HX
      rw [← hy] at HA HN
      rw [← HA.out] at HO
      clear hx hy HA
      by_cases hy1 : 0 ≤ y
      · have e1 : (decide (0 ≤ y) && decide (x ≤ 50)) = decide (x ≤ 50) := by rw [decide_eq_true hy1]; rfl
        rw [e1] at HO
        clear e1
        go_enter Tryd.func45, Tryd.ntmps45
        go_wp2_with (first
          | (go_at_call 60; refine (HN.out _ HL.out).mono ?_; rintro e w' ⟨rfl, rfl⟩)
          | (go_at_call 61; refine (HX.out _ HL.out).mono ?_; rintro e w' ⟨rfl, rfl⟩))
        go_ret
        exact ⟨ret_bool HO.out.symm, rfl⟩
      · have e1 : (decide (0 ≤ y) && decide (x ≤ 50)) = false := by rw [decide_eq_false hy1]; rfl
        rw [e1] at HO
        clear e1
        go_enter Tryd.func45, Tryd.ntmps45
        go_wp2_with (go_at_call 60; refine (HN.out _ HL.out).mono ?_; rintro e w' ⟨rfl, rfl⟩)
        go_ret
        exact ⟨ret_bool HO.out.symm, rfl⟩
    · have HO := Lib.hid (okH_long (L := L) (by omega))
      clear h
      go_enter Tryd.func45, Tryd.ntmps45
      go_wp2
      go_ret
      exact ⟨ret_bool HO.out.symm, rfl⟩
  · have HO := Lib.hid (okH_long (L := L) (by omega))
    clear h
    go_enter Tryd.func45, Tryd.ntmps45
    go_wp2
    go_ret
    exact ⟨ret_bool HO.out.symm, rfl⟩
theorem caGood_any (A0 : Option Addr) (c0 : Nat) (L0 : List Int) (w : World) (l0 : L0.length ≤ 1048576) (h0 : IntSl w A0 L0) :
    Calls Tryd.prog 44 #[.slice A0 L0.length c0] w fun e w' => e = .returned (.bool (okH L0)) ∧ w = w' := by
  by_cases h : (1 : Int) ≤ (L0.length : Int) ∧ (L0.length : Int) ≤ 20
  · have HO := Lib.hid (okH_of (L := L0) (by omega))
    have HC := Lib.hid fun W => l1In_t (L0.length : Int) 1 20 W h
    clear h
    go_enter Tryd.func44, Tryd.ntmps44
    go_wp2_with (first
      | (go_at_call 55; refine (HC.out _).mono ?_; rintro e w' ⟨rfl, rfl⟩)
      | (go_at_call 58; refine (l1All_any A0 c0 L0 0 50 _ l0 h0).mono ?_; rintro e w' ⟨rfl, rfl⟩))
    go_ret
    exact ⟨ret_bool HO.out.symm, rfl⟩
  · have HO := Lib.hid (okH_long (L := L0) (by omega))
    have HC := Lib.hid fun W => l1In_f (L0.length : Int) 1 20 W h
    clear h
    go_enter Tryd.func44, Tryd.ntmps44
    go_wp2_with (go_at_call 55; refine (HC.out _).mono ?_; rintro e w' ⟨rfl, rfl⟩)
    go_ret
    exact ⟨ret_bool HO.out.symm, rfl⟩
end Go.Proofs.YtbocdhibimcobaaDoor
