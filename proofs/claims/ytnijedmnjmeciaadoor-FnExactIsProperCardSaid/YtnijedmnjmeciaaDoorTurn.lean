/- TurnFence: sizes in a line and around, the two functions, and the law's walk. No condition but the text's length. -/
import Derived.Test.YtnijedmnjmeciaaDoorUtil
namespace Go.Proofs.YtnijedmnjmeciaaDoor
open Go.RowKit

/-- a number of boards, in a line or around -/
def okSize (n : Int) (around : Bool) : Bool := decide (1 ≤ n ∧ n ≤ 20 ∧ (around = true → 3 ≤ n))
theorem okSize_iff {n : Int} {around : Bool} : okSize n around = true ↔ 1 ≤ n ∧ n ≤ 20 ∧ (around = true → 3 ≤ n) := by unfold okSize; exact decide_eq_true_iff
theorem okSize_not {n : Int} {around : Bool} (h : ¬ (1 ≤ n ∧ n ≤ 20 ∧ (around = true → 3 ≤ n))) : okSize n around = false := by unfold okSize; exact decide_eq_false h

set_option maxHeartbeats 400000 in
theorem coSize_any (n : Int) (around : Bool) (w : World) :
    Calls Tryd.prog 49 #[.int .i64 n, .bool around] w fun e w' => e = .returned (.bool (okSize n around)) ∧ w = w' := by
  by_cases h : 1 ≤ n ∧ n ≤ 20
  · by_cases h3 : 3 ≤ n
    · have H := Lib.hid (okSize_iff.2 ⟨h.1, h.2, fun _ => h3⟩ : okSize n around = true)
      obtain ⟨ha, hb⟩ := h
      go_enter Tryd.func49, Tryd.ntmps49
      go_wp2_with (go_at_call 53; refine (l1In_t _ _ _ _ (by omega)).mono ?_; rintro e w' ⟨rfl, rfl⟩)
      go_ret
      exact ⟨ret_bool H.out.symm, rfl⟩
    · cases around
      · have H := Lib.hid (okSize_iff.2 ⟨h.1, h.2, fun e => by cases e⟩ : okSize n false = true)
        obtain ⟨ha, hb⟩ := h
        go_enter Tryd.func49, Tryd.ntmps49
        go_wp2_with (go_at_call 53; refine (l1In_t _ _ _ _ (by omega)).mono ?_; rintro e w' ⟨rfl, rfl⟩)
        go_ret
        exact ⟨ret_bool H.out.symm, rfl⟩
      · have H := Lib.hid (okSize_not (fun hh => h3 (hh.2.2 rfl)) : okSize n true = false)
        have hd3 : decide (3 ≤ n) = false := decide_eq_false h3
        obtain ⟨ha, hb⟩ := h
        go_enter Tryd.func49, Tryd.ntmps49
        go_wp2_with (go_at_call 53; refine (l1In_t _ _ _ _ (by omega)).mono ?_; rintro e w' ⟨rfl, rfl⟩)
        go_ret
        exact ⟨ret_bool H.out.symm, rfl⟩
  · have H := Lib.hid (okSize_not (fun hh => h ⟨hh.1, hh.2.1⟩) : okSize n around = false)
    have HF := Lib.hid h
    clear h
    go_enter Tryd.func49, Tryd.ntmps49
    go_wp2_with (go_at_call 53; refine (l1In_f _ _ _ _ HF.out).mono ?_; rintro e w' ⟨rfl, rfl⟩)
    go_ret
    exact ⟨ret_bool H.out.symm, rfl⟩

set_option maxHeartbeats 400000 in
theorem areBoards_any (n : Int) (around : Bool) (w : World) :
    Calls Tryd.prog 51 #[.int .i64 n, .bool around] w fun e w' => e = .returned (.bool (okSize n around)) ∧ w = w' := by
  by_cases h1 : 1 ≤ n
  · by_cases h2 : n ≤ 20
    · by_cases h3 : 3 ≤ n
      · have H := Lib.hid (okSize_iff.2 ⟨h1, h2, fun _ => h3⟩ : okSize n around = true)
        cases around
        all_goals
          go_enter Tryd.func51, Tryd.ntmps51
          go_wp2
          go_ret
          exact ⟨ret_bool H.out.symm, rfl⟩
      · cases around
        · have H := Lib.hid (okSize_iff.2 ⟨h1, h2, fun e => by cases e⟩ : okSize n false = true)
          go_enter Tryd.func51, Tryd.ntmps51
          go_wp2
          go_ret
          exact ⟨ret_bool H.out.symm, rfl⟩
        · have H := Lib.hid (okSize_not (fun hh => h3 (hh.2.2 rfl)) : okSize n true = false)
          go_enter Tryd.func51, Tryd.ntmps51
          go_wp2
          go_ret
          exact ⟨ret_bool H.out.symm, rfl⟩
    · have H := Lib.hid (okSize_not (fun hh => h2 hh.2.1) : okSize n around = false)
      go_enter Tryd.func51, Tryd.ntmps51
      go_wp2
      go_ret
      exact ⟨ret_bool H.out.symm, rfl⟩
  · have H := Lib.hid (okSize_not (fun hh => h1 hh.1) : okSize n around = false)
    go_enter Tryd.func51, Tryd.ntmps51
    go_wp2
    go_ret
    exact ⟨ret_bool H.out.symm, rfl⟩

/-- a fence, in a line or around -/
def okFenceA (s : ByteArray) (around : Bool) : Bool := okFence s && okSize (s.size : Int) around
theorem okFenceA_parts {s : ByteArray} {around : Bool} (h : okFenceA s around = true) : okFence s = true ∧ okSize (s.size : Int) around = true := by
  unfold okFenceA at h; rwa [Bool.and_eq_true] at h

theorem coFence_any (s : ByteArray) (around : Bool) (w : World) (hs : s.size ≤ maxLen) :
    Calls Tryd.prog 30 #[.string s, .bool around] w fun e w' => e = .returned (.bool (okFenceA s around)) ∧ w = w' := by
  unfold okFenceA
  cases h : okFence s
  · have H := Lib.hid h; clear h
    go_enter Tryd.func30, Tryd.ntmps30
    go_wp2_with (go_at_call 35; refine (stGood_any s _ hs).mono ?_; rintro e w' ⟨rfl, rfl⟩; rw [H.out])
    go_ret
    exact ⟨rfl, rfl⟩
  · have H := Lib.hid h; clear h
    go_enter Tryd.func30, Tryd.ntmps30
    go_wp2_with (first
      | (go_at_call 35; refine (stGood_any s _ hs).mono ?_; rintro e w' ⟨rfl, rfl⟩; rw [H.out])
      | (go_at_call 49; refine (coSize_any _ _ _).mono ?_; rintro e w' ⟨rfl, rfl⟩))
    go_ret
    exact ⟨rfl, rfl⟩

theorem isFenceOf_any (s : ByteArray) (around : Bool) (w : World) (hs : s.size ≤ maxLen) :
    Calls Tryd.prog 32 #[.string s, .bool around] w fun e w' => e = .returned (.bool (okFenceA s around)) ∧ w = w' := by
  unfold okFenceA
  cases h : okFence s
  · have H := Lib.hid h; clear h
    go_enter Tryd.func32, Tryd.ntmps32
    go_wp2_with (go_at_call 50; refine (implIsFence_any s _ hs).mono ?_; rintro e w' ⟨rfl, rfl⟩; rw [H.out])
    go_ret
    exact ⟨rfl, rfl⟩
  · have H := Lib.hid h; clear h
    go_enter Tryd.func32, Tryd.ntmps32
    go_wp2_with (first
      | (go_at_call 50; refine (implIsFence_any s _ hs).mono ?_; rintro e w' ⟨rfl, rfl⟩; rw [H.out])
      | (go_at_call 51; refine (areBoards_any _ _ _).mono ?_; rintro e w' ⟨rfl, rfl⟩))
    go_ret
    exact ⟨rfl, rfl⟩

end Go.Proofs.YtnijedmnjmeciaaDoor
