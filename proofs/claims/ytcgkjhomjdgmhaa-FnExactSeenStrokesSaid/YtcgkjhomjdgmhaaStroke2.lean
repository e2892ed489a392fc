/- IsStroke: the two functions, and the law's walk. No condition but the texts' lengths. -/
import Derived.Test.YtcgkjhomjdgmhaaStroke
import Derived.Test.YtcgkjhomjdgmhaaBare
namespace Go.Proofs.Ytcgkjhomjdgmhaa
open Go.RowKit

theorem below_next {w w1 w2 : World} (h1 : Below w.heap.size w w1) (h2 : Below w1.heap.size w1 w2) : Below w.heap.size w w2 := h1.trans (h2.mono h1.size)
theorem below_new (w : World) (o : Obj) : Below w.heap.size w (w.alloc o) := (Below.refl _ _).alloc (Nat.le_refl _) _
theorem below_box {w w1 : World} {o : Obj} (h : Below (w.alloc o).heap.size (w.alloc o) w1) : Below w.heap.size w w1 := below_next (below_new w o) h
theorem below_lt {w w1 : World} {o : Obj} (h : Below (w.alloc o).heap.size (w.alloc o) w1) : w.heap.size < w1.heap.size := by have := h.size; simp at this; omega
theorem okFence_size {s : ByteArray} (h : okFence s = true) : 1 ≤ s.size ∧ s.size ≤ 20 := by
  unfold okFence at h
  rw [Bool.and_eq_true, decide_eq_true_iff] at h
  exact h.1

set_option maxHeartbeats 400000 in
theorem specIsStroke_any (s : ByteArray) (f t : Int) (c : ByteArray) (w : World) (hs : s.size ≤ maxLen) (hc : c.size ≤ maxLen) :
    Calls Try.prog 59 #[.string s, .agg #[.int .i64 f, .int .i64 t, .string c]] w fun e w' =>
      (e = .returned (.tuple #[.bool (okFence s && okStroke s.size f t c), .bool (okFence s)]) ∧ Below w.heap.size w w') := by
  cases h : okFence s
  · have H := Lib.hid h
    clear h
    go_enter Try.func59, Try.ntmps59
    go_wp2_with (go_at_call 95; refine (stGood_any s _ hs).mono ?_; rintro e w' ⟨rfl, rfl⟩; rw [H.out])
    go_ret2
    exact ⟨rfl, (Below.refl _ _).alloc (Nat.le_refl _) _⟩
  · obtain ⟨_, h20⟩ := okFence_size h
    have H := Lib.hid h
    clear h
    go_enter Try.func59, Try.ntmps59
    go_wp2_with (first
      | (go_at_call 95; refine (stGood_any s _ hs).mono ?_; rintro e w' ⟨rfl, rfl⟩; rw [H.out])
      | (go_at_call 104; refine (stIs_any s.size f t c _ h20 hc).mono ?_; rintro e w' ⟨rfl, hb⟩))
    go_ret2
    exact ⟨rfl, ((Below.refl _ _).alloc (Nat.le_refl _) _).trans (hb.mono (by simp))⟩

set_option maxHeartbeats 400000 in
theorem implIsStroke_any (s : ByteArray) (f t : Int) (c : ByteArray) (w : World) (hs : s.size ≤ maxLen) (hc : c.size ≤ maxLen) :
    Calls Try.prog 61 #[.string s, .agg #[.int .i64 f, .int .i64 t, .string c]] w fun e w' =>
      (e = .returned (.tuple #[.bool (okFence s && okStroke s.size f t c), .bool (okFence s)]) ∧ Below w.heap.size w w') := by
  cases h : okFence s
  · have H := Lib.hid h
    clear h
    go_enter Try.func61, Try.ntmps61
    go_wp2_with (go_at_call 56; refine (implIsFence_any s _ hs).mono ?_; rintro e w' ⟨rfl, rfl⟩; rw [H.out])
    go_ret2
    exact ⟨rfl, (Below.refl _ _).alloc (Nat.le_refl _) _⟩
  · have H := Lib.hid h
    clear h
    go_enter Try.func61, Try.ntmps61
    go_wp2_with (first
      | (go_at_call 56; refine (implIsFence_any s _ hs).mono ?_; rintro e w' ⟨rfl, rfl⟩; rw [H.out])
      | (go_at_call 105; refine (isStrokeOf_any s.size f t c _ hc).mono ?_; rintro e w' ⟨rfl, hb⟩))
    go_ret2
    exact ⟨rfl, ((Below.refl _ _).alloc (Nat.le_refl _) _).trans (hb.mono (by simp))⟩

theorem szStroke_any (f t : Int) (c : ByteArray) (left : Int) (w : World) (hc : c.size ≤ maxLen) (h0 : 0 ≤ left) (h1 : left ≤ 1048576) :
    Calls Try.prog 58 #[.agg #[.int .i64 f, .int .i64 t, .string c], .int .i64 left] w fun e w' =>
      (e = .returned (.int .i64 (if left < c.size then -1 else left - c.size)) ∧ Below w.heap.size w w') := by
  unfold maxLen at hc
  by_cases h : left < c.size
  · rw [if_pos h]
    go_enter Try.func58, Try.ntmps58
    go_wp2
    go_ret
    exact ⟨rfl, (Below.refl _ _).alloc (Nat.le_refl _) _⟩
  · rw [if_neg h]
    go_enter Try.func58, Try.ntmps58
    go_wp2
    go_ret
    exact ⟨rfl, (Below.refl _ _).alloc (Nat.le_refl _) _⟩

theorem toStroke_any (f t : Int) (c : ByteArray) (w : World) :
    Calls Try.prog 60 #[.agg #[.int .i64 f, .int .i64 t, .string c]] w fun e w' =>
      (e = .returned (.agg #[.int .i64 f, .int .i64 t, .string c]) ∧ Below w.heap.size w w') := by
  go_enter Try.func60, Try.ntmps60
  go_wp2
  exact bodyPost_ret (v := .agg #[.int .i64 f, .int .i64 t, .string c]) (by simp [results, Try.results60, go_sem]) rfl ⟨rfl, ((((Below.refl _ _).alloc (Nat.le_refl _) _).alloc (by simp) _).alloc (by simp; omega) _)⟩

set_option maxHeartbeats 1000000 in
theorem lawIsStroke_walk (s : ByteArray) (f t : Int) (c : ByteArray) (w : World) (hs : s.size ≤ maxLen) (hc : c.size ≤ maxLen) :
    Calls Try.prog 6 #[.string s, .agg #[.int .i64 f, .int .i64 t, .string c]] w fun e w' => e = .returned (.bool true) ∧ Below w.heap.size w w' := by
  have hs0 := hs
  have hc0 := hc
  unfold maxLen at hs hc
  by_cases h : s.size ≤ 1048576
  · by_cases hl : (1048576 : Int) < c.size
    · have hz := szStroke_any f t c 1048576
      rw [if_pos hl] at hz
      go_enter Try.func6, Try.ntmps6
      go_wp2_with (go_at_call 58; refine (hz _ hc0 (by omega) (by omega)).mono ?_; rintro e w' ⟨rfl, hb⟩)
      go_ret
      exact ⟨rfl, ((Below.refl _ _).alloc (Nat.le_refl _) _).trans (hb.mono (by simp))⟩
    · have hz := szStroke_any f t c 1048576
      rw [if_neg hl] at hz
      go_enter Try.func6, Try.ntmps6
      go_wp2_with (first
        | (go_at_call 58; refine (hz _ hc0 (by omega) (by omega)).mono ?_; rintro e w1 ⟨rfl, hb⟩; have hB := below_box hb; have hS := below_lt hb; obtain ⟨hcc, hff⟩ := bcell hb)
        | (go_at_call 60; refine (toStroke_any f t c _).mono ?_; rintro e w1 ⟨rfl, hb⟩; have hB := below_next hB hb; have hS := Nat.lt_of_lt_of_le hS hb.size; obtain ⟨hcc, hff⟩ := bcell hb)
        | (go_at_call 59; refine (specIsStroke_any s f t c _ hs0 hc0).mono ?_; rintro e w1 ⟨rfl, hb⟩; have hB := below_next hB hb; have hS := Nat.lt_of_lt_of_le hS hb.size; obtain ⟨hcc, hff⟩ := bcell hb)
        | (go_at_call 61; refine (implIsStroke_any s f t c _ hs0 hc0).mono ?_; rintro e w1 ⟨rfl, hb⟩; have hB := below_next hB hb; have hS := Nat.lt_of_lt_of_le hS hb.size; obtain ⟨hcc, hff⟩ := bcell hb))
      go_ret
      exact ⟨rfl, hB⟩
  · go_enter Try.func6, Try.ntmps6
    go_wp2
    go_ret
    exact ⟨rfl, (Below.refl _ _).alloc (Nat.le_refl _) _⟩
end Go.Proofs.Ytcgkjhomjdgmhaa
