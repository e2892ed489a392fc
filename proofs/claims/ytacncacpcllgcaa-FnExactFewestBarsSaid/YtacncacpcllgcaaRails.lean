/- Rails and ground: who checks them; AreRails of both sides. No condition but the lists' lengths. -/
import Derived.Test.YtacncacpcllgcaaPost
namespace Go.Proofs.Ytacncacpcllgcaa
open Go.RowKit

def okRa (L : List Int) : Bool := okNums 8 500 L
theorem okRa_len {L : List Int} (h : okRa L = true) : 1 ≤ L.length ∧ L.length ≤ 8 := okNums_len h
theorem okRa_mem {L : List Int} (h : okRa L = true) : ∀ x ∈ L, 1 ≤ x ∧ x ≤ 500 := fun _ hx => allIn_mem (okNums_all h) hx
/-- 2 to 12 heights from 0 to 50 -/
def okG (L : List Int) : Bool := decide (2 ≤ L.length ∧ L.length ≤ 12) && allIn 0 50 L
theorem okG_at {L : List Int} (h : okG L = true) : (2 ≤ L.length ∧ L.length ≤ 12) ∧ ∀ x ∈ L, 0 ≤ x ∧ x ≤ 50 := by
  unfold okG at h
  rw [Bool.and_eq_true, decide_eq_true_iff] at h
  exact ⟨h.1, fun _ hx => allIn_mem h.2 hx⟩
theorem okG_long {L : List Int} (h : ¬ (2 ≤ L.length ∧ L.length ≤ 12)) : okG L = false := by
  unfold okG; rw [decide_eq_false h]; rfl
theorem okG_of {L : List Int} (h : 2 ≤ L.length ∧ L.length ≤ 12) : okG L = allIn 0 50 L := by
  unfold okG; rw [decide_eq_true h]; rfl

theorem implRails_any (A0 : Option Addr) (c0 : Nat) (L0 : List Int) (w : World) (l0 : L0.length ≤ 1048576) (h0 : IntSl w A0 L0) :
    Calls Try.prog 49 #[.slice A0 L0.length c0] w fun e w' => e = .returned (.bool (okRa L0)) ∧ w = w' := by
  have H := Lib.hid (areNumbers_any A0 c0 L0 8 500 w l0 h0)
  go_enter Try.func49, Try.ntmps49
  go_wp2_with (go_at_call 87; refine H.out.mono ?_; rintro e w' ⟨rfl, rfl⟩)
  go_ret
  exact ⟨rfl, rfl⟩
theorem poGood_any (A0 : Option Addr) (c0 : Nat) (L0 : List Int) (w : World) (l0 : L0.length ≤ 1048576) (h0 : IntSl w A0 L0) :
    Calls Try.prog 86 #[.slice A0 L0.length c0] w fun e w' => e = .returned (.bool (okRa L0)) ∧ w = w' := by
  by_cases h : (1 : Int) ≤ (L0.length : Int) ∧ (L0.length : Int) ≤ 8
  · have HO : Hid (okRa L0 = allIn 1 500 L0) := Lib.hid (okNums_of (n := 8) (m := 500) (L := L0) (by omega))
    have HC := Lib.hid fun W => l1In_t (L0.length : Int) 1 8 W h
    clear h
    go_enter Try.func86, Try.ntmps86
    go_wp2_with (first
      | (go_at_call 102; refine (HC.out _).mono ?_; rintro e w' ⟨rfl, rfl⟩)
      | (go_at_call 119; refine (l1All_any A0 c0 L0 1 500 _ l0 h0).mono ?_; rintro e w' ⟨rfl, rfl⟩))
    go_ret
    exact ⟨ret_bool HO.out.symm, rfl⟩
  · have HO : Hid (okRa L0 = false) := Lib.hid (okNums_long (n := 8) (m := 500) (L := L0) (by omega))
    have HC := Lib.hid fun W => l1In_f (L0.length : Int) 1 8 W h
    clear h
    go_enter Try.func86, Try.ntmps86
    go_wp2_with (go_at_call 102; refine (HC.out _).mono ?_; rintro e w' ⟨rfl, rfl⟩)
    go_ret
    exact ⟨ret_bool HO.out.symm, rfl⟩
theorem implAreRails_any (A0 : Option Addr) (c0 : Nat) (L0 : List Int) (w : World) (l0 : L0.length ≤ 1048576) (_ : WfL L0) (_ : L0.length ≤ c0) (h0 : IntSl w A0 L0) :
    Calls Try.prog 49 #[.slice A0 L0.length c0] w fun e w' => e = .returned (.bool (okRa L0)) ∧ Below w.heap.size w w' :=
  (implRails_any A0 c0 L0 w l0 h0).mono fun _ _ h => ⟨h.1, by rw [← h.2]; exact Below.refl _ _⟩
theorem specAreRails_any (A0 : Option Addr) (c0 : Nat) (L0 : List Int) (w : World) (l0 : L0.length ≤ 1048576) (_ : WfL L0) (_ : L0.length ≤ c0) (h0 : IntSl w A0 L0) :
    Calls Try.prog 47 #[.slice A0 L0.length c0] w fun e w' => e = .returned (.bool (okRa L0)) ∧ Below w.heap.size w w' := by
  have H := Lib.hid (poGood_any A0 c0 L0 w l0 h0)
  go_enter Try.func47, Try.ntmps47
  go_wp2_with (go_at_call 86; refine H.out.mono ?_; rintro e w' ⟨rfl, rfl⟩)
  go_ret
  exact ⟨rfl, Below.refl _ _⟩

theorem poGround_any (A0 : Option Addr) (c0 : Nat) (L0 : List Int) (w : World) (l0 : L0.length ≤ 1048576) (h0 : IntSl w A0 L0) :
    Calls Try.prog 108 #[.slice A0 L0.length c0] w fun e w' => e = .returned (.bool (okG L0)) ∧ w = w' := by
  by_cases h : (2 : Int) ≤ (L0.length : Int) ∧ (L0.length : Int) ≤ 12
  · have HO := Lib.hid (okG_of (L := L0) (by omega))
    have HC := Lib.hid fun W => l1In_t (L0.length : Int) 2 12 W h
    clear h
    go_enter Try.func108, Try.ntmps108
    go_wp2_with (first
      | (go_at_call 102; refine (HC.out _).mono ?_; rintro e w' ⟨rfl, rfl⟩)
      | (go_at_call 119; refine (l1All_any A0 c0 L0 0 50 _ l0 h0).mono ?_; rintro e w' ⟨rfl, rfl⟩))
    go_ret
    exact ⟨ret_bool HO.out.symm, rfl⟩
  · have HO := Lib.hid (okG_long (L := L0) (by omega))
    have HC := Lib.hid fun W => l1In_f (L0.length : Int) 2 12 W h
    clear h
    go_enter Try.func108, Try.ntmps108
    go_wp2_with (go_at_call 102; refine (HC.out _).mono ?_; rintro e w' ⟨rfl, rfl⟩)
    go_ret
    exact ⟨ret_bool HO.out.symm, rfl⟩
set_option maxHeartbeats 1000000 in
theorem isGround_any (A : Option Addr) (c : Nat) (L : List Int) (w : World) (hm : L.length ≤ 1048576) (h : IntSl w A L) :
    Calls Try.prog 110 #[.slice A L.length c] w fun e w' => e = .returned (.bool (okG L)) ∧ w = w' := by
  by_cases h1 : 2 ≤ L.length
  · by_cases h2 : L.length ≤ 12
    · have HO := Lib.hid (okG_of (L := L) ⟨h1, h2⟩)
      have HA := Lib.hid (minMax_all (L := L) (by omega) 0 50)
      have HX := Lib.hid fun W hW => slMax_any A c L W (by omega) hm hW
      have HN := Lib.hid fun W hW => slMin_any A c L W (by omega) hm hW
      have HL := Lib.hid h
      clear h
      obtain ⟨x, hx⟩ : ∃ x, x = Lib.maxOf L := ⟨_, rfl⟩
      obtain ⟨y, hy⟩ : ∃ y, y = Lib.minOf L := ⟨_, rfl⟩
      rw [← hx] at HA HX
      rw [← hy] at HA HN
      rw [← HA.out] at HO
      clear hx hy HA
      by_cases hy1 : 0 ≤ y
      · have e1 : (decide (0 ≤ y) && decide (x ≤ 50)) = decide (x ≤ 50) := by rw [decide_eq_true hy1]; rfl
        rw [e1] at HO
        clear e1
        go_enter Try.func110, Try.ntmps110
        go_wp2_with (first
          | (go_at_call 120; refine (HN.out _ HL.out).mono ?_; rintro e w' ⟨rfl, rfl⟩)
          | (go_at_call 121; refine (HX.out _ HL.out).mono ?_; rintro e w' ⟨rfl, rfl⟩))
        go_ret
        exact ⟨ret_bool HO.out.symm, rfl⟩
      · have e1 : (decide (0 ≤ y) && decide (x ≤ 50)) = false := by rw [decide_eq_false hy1]; rfl
        rw [e1] at HO
        clear e1
        go_enter Try.func110, Try.ntmps110
        go_wp2_with (go_at_call 120; refine (HN.out _ HL.out).mono ?_; rintro e w' ⟨rfl, rfl⟩)
        go_ret
        exact ⟨ret_bool HO.out.symm, rfl⟩
    · have HO := Lib.hid (okG_long (L := L) (by omega))
      clear h
      go_enter Try.func110, Try.ntmps110
      go_wp2
      go_ret
      exact ⟨ret_bool HO.out.symm, rfl⟩
  · have HO := Lib.hid (okG_long (L := L) (by omega))
    clear h
    go_enter Try.func110, Try.ntmps110
    go_wp2
    go_ret
    exact ⟨ret_bool HO.out.symm, rfl⟩
end Go.Proofs.Ytacncacpcllgcaa
