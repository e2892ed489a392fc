/- JoinFences: the two functions, and the law's walk. No condition but the texts' lengths. -/
import Derived.Test.YtcgkjhomjdgmhaaPaint
namespace Go.Proofs.Ytcgkjhomjdgmhaa
open Go.RowKit

/-- what both functions return -/
def joinOf (a b : ByteArray) : Array Value := if okFence a = true ∧ okFence b = true ∧ a.size + b.size ≤ 20 then #[.string (a ++ b), .bool true] else #[.string ⟨#[]⟩, .bool false]

set_option maxHeartbeats 400000 in
theorem specJoin_any (a b : ByteArray) (w : World) (ha : a.size ≤ maxLen) (hb : b.size ≤ maxLen) :
    Calls Try.prog 55 #[.string a, .string b] w fun e w' => e = .returned (.tuple (joinOf a b)) ∧ w = w' := by
  cases h : okFence a
  · have hj : joinOf a b = #[.string ⟨#[]⟩, .bool false] := by unfold joinOf; rw [if_neg (by simp [h])]
    rw [hj]; clear hj
    have H := Lib.hid h; clear h
    go_enter Try.func55, Try.ntmps55
    go_wp2_with (go_at_call 95; refine (stGood_any a _ ha).mono ?_; rintro e w' ⟨rfl, rfl⟩; rw [H.out])
    go_ret2
    exact ⟨rfl, rfl⟩
  · obtain ⟨_, a20⟩ := okFence_size h
    cases h2 : okFence b
    · have hj : joinOf a b = #[.string ⟨#[]⟩, .bool false] := by unfold joinOf; rw [if_neg (by simp [h2])]
      rw [hj]; clear hj
      have H := Lib.hid h; clear h
      have H2 := Lib.hid h2; clear h2
      go_enter Try.func55, Try.ntmps55
      go_wp2_with (go_at_call 95; first | ((with_reducible refine (stGood_any a _ ha).mono ?_); rintro e w' ⟨rfl, rfl⟩; rw [H.out]) | ((with_reducible refine (stGood_any b _ hb).mono ?_); rintro e w' ⟨rfl, rfl⟩; rw [H2.out]))
      go_ret2
      exact ⟨rfl, rfl⟩
    · obtain ⟨_, b20⟩ := okFence_size h2
      by_cases h3 : a.size + b.size ≤ 20
      · have hj : joinOf a b = #[.string (a ++ b), .bool true] := by unfold joinOf; rw [if_pos ⟨h, h2, h3⟩]
        rw [hj]; clear hj
        have H := Lib.hid h; clear h
        have H2 := Lib.hid h2; clear h2
        go_enter Try.func55, Try.ntmps55
        go_wp2_with (go_at_call 95; first | ((with_reducible refine (stGood_any a _ ha).mono ?_); rintro e w' ⟨rfl, rfl⟩; rw [H.out]) | ((with_reducible refine (stGood_any b _ hb).mono ?_); rintro e w' ⟨rfl, rfl⟩; rw [H2.out]))
        go_ret2
        exact ⟨rfl, rfl⟩
      · have hj : joinOf a b = #[.string ⟨#[]⟩, .bool false] := by unfold joinOf; rw [if_neg (by omega)]
        rw [hj]; clear hj
        have H := Lib.hid h; clear h
        have H2 := Lib.hid h2; clear h2
        go_enter Try.func55, Try.ntmps55
        go_wp2_with (go_at_call 95; first | ((with_reducible refine (stGood_any a _ ha).mono ?_); rintro e w' ⟨rfl, rfl⟩; rw [H.out]) | ((with_reducible refine (stGood_any b _ hb).mono ?_); rintro e w' ⟨rfl, rfl⟩; rw [H2.out]))
        go_ret2
        exact ⟨rfl, rfl⟩

set_option maxHeartbeats 400000 in
theorem implJoin_any (a b : ByteArray) (w : World) (ha : a.size ≤ maxLen) (hb : b.size ≤ maxLen) :
    Calls Try.prog 54 #[.string a, .string b] w fun e w' => e = .returned (.tuple (joinOf a b)) ∧ w = w' := by
  cases h : okFence a
  · have hj : joinOf a b = #[.string ⟨#[]⟩, .bool false] := by unfold joinOf; rw [if_neg (by simp [h])]
    rw [hj]; clear hj
    have H := Lib.hid h; clear h
    go_enter Try.func54, Try.ntmps54
    go_wp2_with (go_at_call 56; refine (implIsFence_any a _ ha).mono ?_; rintro e w' ⟨rfl, rfl⟩; rw [H.out])
    go_ret2
    exact ⟨rfl, rfl⟩
  · obtain ⟨_, a20⟩ := okFence_size h
    cases h2 : okFence b
    · have hj : joinOf a b = #[.string ⟨#[]⟩, .bool false] := by unfold joinOf; rw [if_neg (by simp [h2])]
      rw [hj]; clear hj
      have H := Lib.hid h; clear h
      have H2 := Lib.hid h2; clear h2
      go_enter Try.func54, Try.ntmps54
      go_wp2_with (go_at_call 56; first | ((with_reducible refine (implIsFence_any a _ ha).mono ?_); rintro e w' ⟨rfl, rfl⟩; rw [H.out]) | ((with_reducible refine (implIsFence_any b _ hb).mono ?_); rintro e w' ⟨rfl, rfl⟩; rw [H2.out]))
      go_ret2
      exact ⟨rfl, rfl⟩
    · obtain ⟨_, b20⟩ := okFence_size h2
      by_cases h3 : a.size + b.size ≤ 20
      · have hj : joinOf a b = #[.string (a ++ b), .bool true] := by unfold joinOf; rw [if_pos ⟨h, h2, h3⟩]
        rw [hj]; clear hj
        have H := Lib.hid h; clear h
        have H2 := Lib.hid h2; clear h2
        go_enter Try.func54, Try.ntmps54
        go_wp2_with (go_at_call 56; first | ((with_reducible refine (implIsFence_any a _ ha).mono ?_); rintro e w' ⟨rfl, rfl⟩; rw [H.out]) | ((with_reducible refine (implIsFence_any b _ hb).mono ?_); rintro e w' ⟨rfl, rfl⟩; rw [H2.out]))
        go_ret2
        exact ⟨rfl, rfl⟩
      · have hj : joinOf a b = #[.string ⟨#[]⟩, .bool false] := by unfold joinOf; rw [if_neg (by omega)]
        rw [hj]; clear hj
        have H := Lib.hid h; clear h
        have H2 := Lib.hid h2; clear h2
        go_enter Try.func54, Try.ntmps54
        go_wp2_with (go_at_call 56; first | ((with_reducible refine (implIsFence_any a _ ha).mono ?_); rintro e w' ⟨rfl, rfl⟩; rw [H.out]) | ((with_reducible refine (implIsFence_any b _ hb).mono ?_); rintro e w' ⟨rfl, rfl⟩; rw [H2.out]))
        go_ret2
        exact ⟨rfl, rfl⟩

set_option maxHeartbeats 400000 in
theorem lawJoinFences_walk (a b : ByteArray) (w : World) (ha : a.size ≤ maxLen) (hb : b.size ≤ maxLen) :
    Calls Try.prog 22 #[.string a, .string b] w fun e w' => e = .returned (.bool true) ∧ Below w.heap.size w w' := by
  have ha0 := ha
  have hb0 := hb
  unfold maxLen at ha hb
  obtain ⟨p, q, hp⟩ : ∃ (p : ByteArray) (q : Bool), joinOf a b = #[.string p, .bool q] := by
    unfold joinOf; split
    · exact ⟨_, _, rfl⟩
    · exact ⟨_, _, rfl⟩
  have S := fun W : World => specJoin_any a b W ha0 hb0
  have I := fun W : World => implJoin_any a b W ha0 hb0
  rw [hp] at S I
  clear hp
  by_cases h : a.size ≤ 1048576
  · by_cases h2 : b.size ≤ 1048576
    · go_enter Try.func22, Try.ntmps22
      go_wp2_with (first
        | (go_at_call 55; refine (S _).mono ?_; rintro e w1 ⟨rfl, rfl⟩)
        | (go_at_call 54; refine (I _).mono ?_; rintro e w1 ⟨rfl, rfl⟩))
      go_ret
      exact ⟨rfl, Below.refl _ _⟩
    · go_enter Try.func22, Try.ntmps22
      go_wp2
      go_ret
      exact ⟨rfl, Below.refl _ _⟩
  · go_enter Try.func22, Try.ntmps22
    go_wp2
    go_ret
    exact ⟨rfl, Below.refl _ _⟩
end Go.Proofs.Ytcgkjhomjdgmhaa
