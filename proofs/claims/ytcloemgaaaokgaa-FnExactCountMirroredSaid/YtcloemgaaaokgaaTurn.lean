/- TurnFence: sizes in a line and around, the two functions, and the law's walk. No condition but the text's length. -/
import Derived.Test.YtcloemgaaaokgaaUtil
namespace Go.Proofs.Ytcloemgaaaokgaa
open Go.RowKit

/-- a number of boards, in a line or around -/
def okSize (n : Int) (around : Bool) : Bool := decide (1 ≤ n ∧ n ≤ 20 ∧ (around = true → 3 ≤ n))
theorem okSize_iff {n : Int} {around : Bool} : okSize n around = true ↔ 1 ≤ n ∧ n ≤ 20 ∧ (around = true → 3 ≤ n) := by unfold okSize; exact decide_eq_true_iff
theorem okSize_not {n : Int} {around : Bool} (h : ¬ (1 ≤ n ∧ n ≤ 20 ∧ (around = true → 3 ≤ n))) : okSize n around = false := by unfold okSize; exact decide_eq_false h

set_option maxHeartbeats 400000 in
theorem coSize_any (n : Int) (around : Bool) (w : World) :
    Calls Try.prog 98 #[.int .i64 n, .bool around] w fun e w' => e = .returned (.bool (okSize n around)) ∧ w = w' := by
  by_cases h : 1 ≤ n ∧ n ≤ 20
  · by_cases h3 : 3 ≤ n
    · have H := Lib.hid (okSize_iff.2 ⟨h.1, h.2, fun _ => h3⟩ : okSize n around = true)
      obtain ⟨ha, hb⟩ := h
      go_enter Try.func98, Try.ntmps98
      go_wp2_with (go_at_call 97; refine (l1In_t _ _ _ _ (by omega)).mono ?_; rintro e w' ⟨rfl, rfl⟩)
      go_ret
      exact ⟨ret_bool H.out.symm, rfl⟩
    · cases around
      · have H := Lib.hid (okSize_iff.2 ⟨h.1, h.2, fun e => by cases e⟩ : okSize n false = true)
        obtain ⟨ha, hb⟩ := h
        go_enter Try.func98, Try.ntmps98
        go_wp2_with (go_at_call 97; refine (l1In_t _ _ _ _ (by omega)).mono ?_; rintro e w' ⟨rfl, rfl⟩)
        go_ret
        exact ⟨ret_bool H.out.symm, rfl⟩
      · have H := Lib.hid (okSize_not (fun hh => h3 (hh.2.2 rfl)) : okSize n true = false)
        have hd3 : decide (3 ≤ n) = false := decide_eq_false h3
        obtain ⟨ha, hb⟩ := h
        go_enter Try.func98, Try.ntmps98
        go_wp2_with (go_at_call 97; refine (l1In_t _ _ _ _ (by omega)).mono ?_; rintro e w' ⟨rfl, rfl⟩)
        go_ret
        exact ⟨ret_bool H.out.symm, rfl⟩
  · have H := Lib.hid (okSize_not (fun hh => h ⟨hh.1, hh.2.1⟩) : okSize n around = false)
    have HF := Lib.hid h
    clear h
    go_enter Try.func98, Try.ntmps98
    go_wp2_with (go_at_call 97; refine (l1In_f _ _ _ _ HF.out).mono ?_; rintro e w' ⟨rfl, rfl⟩)
    go_ret
    exact ⟨ret_bool H.out.symm, rfl⟩

set_option maxHeartbeats 400000 in
theorem areBoards_any (n : Int) (around : Bool) (w : World) :
    Calls Try.prog 63 #[.int .i64 n, .bool around] w fun e w' => e = .returned (.bool (okSize n around)) ∧ w = w' := by
  by_cases h1 : 1 ≤ n
  · by_cases h2 : n ≤ 20
    · by_cases h3 : 3 ≤ n
      · have H := Lib.hid (okSize_iff.2 ⟨h1, h2, fun _ => h3⟩ : okSize n around = true)
        cases around
        all_goals
          go_enter Try.func63, Try.ntmps63
          go_wp2
          go_ret
          exact ⟨ret_bool H.out.symm, rfl⟩
      · cases around
        · have H := Lib.hid (okSize_iff.2 ⟨h1, h2, fun e => by cases e⟩ : okSize n false = true)
          go_enter Try.func63, Try.ntmps63
          go_wp2
          go_ret
          exact ⟨ret_bool H.out.symm, rfl⟩
        · have H := Lib.hid (okSize_not (fun hh => h3 (hh.2.2 rfl)) : okSize n true = false)
          go_enter Try.func63, Try.ntmps63
          go_wp2
          go_ret
          exact ⟨ret_bool H.out.symm, rfl⟩
    · have H := Lib.hid (okSize_not (fun hh => h2 hh.2.1) : okSize n around = false)
      go_enter Try.func63, Try.ntmps63
      go_wp2
      go_ret
      exact ⟨ret_bool H.out.symm, rfl⟩
  · have H := Lib.hid (okSize_not (fun hh => h1 hh.1) : okSize n around = false)
    go_enter Try.func63, Try.ntmps63
    go_wp2
    go_ret
    exact ⟨ret_bool H.out.symm, rfl⟩

/-- a fence, in a line or around -/
def okFenceA (s : ByteArray) (around : Bool) : Bool := okFence s && okSize (s.size : Int) around
theorem okFenceA_parts {s : ByteArray} {around : Bool} (h : okFenceA s around = true) : okFence s = true ∧ okSize (s.size : Int) around = true := by
  unfold okFenceA at h; rwa [Bool.and_eq_true] at h

theorem coFence_any (s : ByteArray) (around : Bool) (w : World) (hs : s.size ≤ maxLen) :
    Calls Try.prog 86 #[.string s, .bool around] w fun e w' => e = .returned (.bool (okFenceA s around)) ∧ w = w' := by
  unfold okFenceA
  cases h : okFence s
  · have H := Lib.hid h; clear h
    go_enter Try.func86, Try.ntmps86
    go_wp2_with (go_at_call 93; refine (stGood_any s _ hs).mono ?_; rintro e w' ⟨rfl, rfl⟩; rw [H.out])
    go_ret
    exact ⟨rfl, rfl⟩
  · have H := Lib.hid h; clear h
    go_enter Try.func86, Try.ntmps86
    go_wp2_with (first
      | (go_at_call 93; refine (stGood_any s _ hs).mono ?_; rintro e w' ⟨rfl, rfl⟩; rw [H.out])
      | (go_at_call 98; refine (coSize_any _ _ _).mono ?_; rintro e w' ⟨rfl, rfl⟩))
    go_ret
    exact ⟨rfl, rfl⟩

theorem isFenceOf_any (s : ByteArray) (around : Bool) (w : World) (hs : s.size ≤ maxLen) :
    Calls Try.prog 89 #[.string s, .bool around] w fun e w' => e = .returned (.bool (okFenceA s around)) ∧ w = w' := by
  unfold okFenceA
  cases h : okFence s
  · have H := Lib.hid h; clear h
    go_enter Try.func89, Try.ntmps89
    go_wp2_with (go_at_call 95; refine (implIsFence_any s _ hs).mono ?_; rintro e w' ⟨rfl, rfl⟩; rw [H.out])
    go_ret
    exact ⟨rfl, rfl⟩
  · have H := Lib.hid h; clear h
    go_enter Try.func89, Try.ntmps89
    go_wp2_with (first
      | (go_at_call 95; refine (implIsFence_any s _ hs).mono ?_; rintro e w' ⟨rfl, rfl⟩; rw [H.out])
      | (go_at_call 63; refine (areBoards_any _ _ _).mono ?_; rintro e w' ⟨rfl, rfl⟩))
    go_ret
    exact ⟨rfl, rfl⟩

/-- the fence turned -/
def turnS (s : ByteArray) (k : Nat) : ByteArray := s.extract k s.size ++ s.extract 0 k
def turnOf (s : ByteArray) (n : Int) : Array Value := if okFenceA s true = true ∧ 0 ≤ n ∧ n < s.size then #[.string (turnS s n.toNat), .bool true] else #[.string ⟨#[]⟩, .bool false]
theorem turnOf_no {s : ByteArray} {n : Int} (h : ¬ (okFenceA s true = true ∧ 0 ≤ n ∧ n < s.size)) : turnOf s n = #[.string ⟨#[]⟩, .bool false] := if_neg h
theorem turnOf_yes {s : ByteArray} {k : Nat} (h : okFenceA s true = true ∧ 0 ≤ (k : Int) ∧ (k : Int) < s.size) : turnOf s k = #[.string (turnS s k), .bool true] := by
  unfold turnOf; rw [if_pos h]; simp

set_option maxHeartbeats 400000 in
theorem specTurn_any (s : ByteArray) (n : Int) (w : World) (hs : s.size ≤ maxLen) :
    Calls Try.prog 56 #[.string s, .int .i64 n] w fun e w' => e = .returned (.tuple (turnOf s n)) ∧ Below w.heap.size w w' := by
  cases h : okFenceA s true
  · rw [turnOf_no (by rw [h]; simp)]
    have H := Lib.hid h; clear h
    go_enter Try.func56, Try.ntmps56
    go_wp2_with (go_at_call 86; refine (coFence_any s true _ hs).mono ?_; rintro e w' ⟨rfl, rfl⟩; rw [H.out])
    go_ret2
    exact ⟨rfl, Below.refl _ _⟩
  · obtain ⟨h20a, h20⟩ := okFence_size (okFenceA_parts h).1
    by_cases hn : 0 ≤ n ∧ n < s.size
    · obtain ⟨k, rfl⟩ : ∃ k : Nat, n = k := ⟨n.toNat, by omega⟩
      rw [turnOf_yes ⟨h, hn⟩]
      have H := Lib.hid h; clear h
      obtain ⟨k0, k1⟩ := hn
      have k2 : (k : Int) ≤ (s.size : Int) := by omega
      have e1 := fun W : World => run_string_add_sum (P := Try.prog) W (s.extract k s.size) (s.extract 0 k) (by have := extract_le s k s.size; have := extract_le s 0 k; omega)
      go_enter Try.func56, Try.ntmps56
      go_wp2_with (first
        | (go_at_call 86; refine (coFence_any s true _ hs).mono ?_; rintro e w' ⟨rfl, rfl⟩; rw [H.out])
        | (go_at_call 97; refine (l1In_t _ _ _ _ (by omega)).mono ?_; rintro e w' ⟨rfl, rfl⟩))
      go_quiet (fail)
      go_wp2
      go_ret2
      exact ⟨rfl, below_drewN (Below.refl _ _) _⟩
    · rw [turnOf_no (fun hh => hn hh.2)]
      have H := Lib.hid h; clear h
      go_enter Try.func56, Try.ntmps56
      go_wp2_with (first
        | (go_at_call 86; refine (coFence_any s true _ hs).mono ?_; rintro e w' ⟨rfl, rfl⟩; rw [H.out])
        | (go_at_call 97; refine (l1In_f _ _ _ _ (by omega)).mono ?_; rintro e w' ⟨rfl, rfl⟩))
      go_ret2
      exact ⟨rfl, Below.refl _ _⟩

set_option maxHeartbeats 400000 in
theorem implTurn_any (s : ByteArray) (n : Int) (w : World) (hs : s.size ≤ maxLen) :
    Calls Try.prog 57 #[.string s, .int .i64 n] w fun e w' => e = .returned (.tuple (turnOf s n)) ∧ Below w.heap.size w w' := by
  cases h : okFenceA s true
  · rw [turnOf_no (by rw [h]; simp)]
    have H := Lib.hid h; clear h
    go_enter Try.func57, Try.ntmps57
    go_wp2_with (go_at_call 89; refine (isFenceOf_any s true _ hs).mono ?_; rintro e w' ⟨rfl, rfl⟩; rw [H.out])
    go_ret2
    exact ⟨rfl, Below.refl _ _⟩
  · obtain ⟨h20a, h20⟩ := okFence_size (okFenceA_parts h).1
    by_cases hn : 0 ≤ n ∧ n < s.size
    · obtain ⟨k, rfl⟩ : ∃ k : Nat, n = k := ⟨n.toNat, by omega⟩
      rw [turnOf_yes ⟨h, hn⟩]
      have H := Lib.hid h; clear h
      obtain ⟨k0, k1⟩ := hn
      have k2 : (k : Int) ≤ (s.size : Int) := by omega
      have e1 := fun W : World => run_string_add_sum (P := Try.prog) W (s.extract k s.size) (s.extract 0 k) (by have := extract_le s k s.size; have := extract_le s 0 k; omega)
      go_enter Try.func57, Try.ntmps57
      go_wp2_with (go_at_call 89; refine (isFenceOf_any s true _ hs).mono ?_; rintro e w' ⟨rfl, rfl⟩; rw [H.out])
      go_quiet (fail)
      go_wp2
      go_ret2
      exact ⟨rfl, below_drewN (Below.refl _ _) _⟩
    · rw [turnOf_no (fun hh => hn hh.2)]
      have H := Lib.hid h; clear h
      rcases (show n < 0 ∨ 0 ≤ n ∧ (s.size : Int) ≤ n by omega) with hc | ⟨hc, hd⟩
      all_goals
        clear hn
        go_enter Try.func57, Try.ntmps57
        go_wp2_with (go_at_call 89; refine (isFenceOf_any s true _ hs).mono ?_; rintro e w' ⟨rfl, rfl⟩; rw [H.out])
        go_ret2
        exact ⟨rfl, Below.refl _ _⟩

set_option maxHeartbeats 400000 in
theorem lawTurnFence_walk (s : ByteArray) (n : Int) (w : World) (hs : s.size ≤ maxLen) (_ : (Lit.int .i64 n).wf = true) :
    Calls Try.prog 18 #[.string s, .int .i64 n] w fun e w' => e = .returned (.bool true) ∧ Below w.heap.size w w' := by
  have hs0 := hs
  unfold maxLen at hs
  obtain ⟨p, q, hp⟩ : ∃ (p : ByteArray) (q : Bool), turnOf s n = #[.string p, .bool q] := by
    unfold turnOf; split
    · exact ⟨_, _, rfl⟩
    · exact ⟨_, _, rfl⟩
  have S := fun W : World => specTurn_any s n W hs0
  have I := fun W : World => implTurn_any s n W hs0
  rw [hp] at S I
  clear hp
  by_cases h : s.size ≤ 1048576
  · go_enter Try.func18, Try.ntmps18
    go_wp2_with (first
      | (go_at_call 56; refine (S _).mono ?_; rintro e w1 ⟨rfl, hb⟩)
      | (go_at_call 57; refine (I _).mono ?_; rintro e w2 ⟨rfl, hb2⟩))
    go_ret
    exact ⟨rfl, below_next hb hb2⟩
  · go_enter Try.func18, Try.ntmps18
    go_wp2
    go_ret
    exact ⟨rfl, Below.refl _ _⟩
end Go.Proofs.Ytcloemgaaaokgaa
