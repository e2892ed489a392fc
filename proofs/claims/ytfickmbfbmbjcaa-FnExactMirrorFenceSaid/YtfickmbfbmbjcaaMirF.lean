/- MirrorFence, where the program tells a text from the right by a function of its own: both sides, and the law's walk. No condition but the text's length. -/
import Derived.Test.YtfickmbfbmbjcaaFenceB
import Derived.Test.YtfickmbfbmbjcaaTold
namespace Go.Proofs.Ytfickmbfbmbjcaa
open Go.RowKit

theorem mf_size {s : ByteArray} (h : okFence s = true) : 1 ≤ s.size ∧ s.size ≤ 20 := by
  unfold okFence at h
  rw [Bool.and_eq_true, decide_eq_true_iff] at h
  exact h.1
theorem mf_at {s : ByteArray} (h : okFence s = true) (k : Nat) (hk : k < s.size) : s[k].toNat < 128 := by
  unfold okFence at h
  rw [Bool.and_eq_true, List.all_eq_true] at h
  have h := h.2 s[k] (by show s.data[k] ∈ s.data.toList; simp)
  unfold okB at h; have := of_decide_eq_true h; omega
def mirF (s : ByteArray) : ByteArray := if okFence s = true then mirS s s.size else ⟨#[]⟩
theorem mf_sb {a b : ByteArray} {x : Bool} (h : a = b) : Ending.returned (.tuple #[.string a, .bool x]) = .returned (.tuple #[.string b, .bool x]) := by rw [h]

set_option maxHeartbeats 400000 in
theorem specMirrorF_any (s : ByteArray) (w : World) (hs : s.size ≤ maxLen) :
    Calls Try.prog 70 #[.string s] w fun e w' => e = .returned (.tuple #[.string (mirF s), .bool (okFence s)]) ∧ w = w' := by
  unfold mirF
  cases h : okFence s
  · rw [if_neg (by decide)]
    have H := Lib.hid h; clear h
    go_enter Try.func70, Try.ntmps70
    go_wp2_with (go_at_call 109; refine (stGood_any s _ hs).mono ?_; rintro e w' ⟨rfl, rfl⟩; rw [H.out])
    go_ret2
    exact ⟨rfl, rfl⟩
  · rw [if_pos rfl]
    obtain ⟨s1, s20⟩ := mf_size h
    have H := Lib.hid h; clear h
    go_enter Try.func70, Try.ntmps70
    go_wp2_with (go_at_call 109; refine (stGood_any s _ hs).mono ?_; rintro e w' ⟨rfl, rfl⟩; rw [H.out])
    go_loop [4, 5] (fun o i => ∃ k : Nat, k ≤ s.size ∧ i = .int .i64 ((k : Int) - 1) ∧ o = .string (mirB s k)) (fun _ i => (intOf i + 1).toNat)
    case atStart => exact ⟨s.size, Nat.le_refl _, rfl, by rw [mirB_end]⟩
    case round =>
      obtain ⟨k, hk, rfl, rfl⟩ := hrel
      by_cases h0 : 1 ≤ k
      · obtain ⟨j, rfl⟩ : ∃ j, k = j + 1 := ⟨k - 1, by omega⟩
        have hz : (mirB s (j + 1)).size ≤ 20 := Nat.le_trans (mirB_size _ _) s20
        have hz2 : (s.extract j (j + 1)).size ≤ 20 := Nat.le_trans (by rw [ByteArray.size_extract]; omega) s20
        have HS := Lib.hid (mirB_succ s j (by omega))
        have e1 : ((j + 1 : Nat) : Int) - 1 = (j : Int) := by omega
        rw [e1]
        clear e1
        go_wp2
        go_round
        case rel => exact ⟨j, by omega, rfl, by rw [HS.out]⟩
        case measure => simp [intOf]
      · obtain rfl : k = 0 := by omega
        have HZ := Lib.hid (mirB_zero s)
        rw [show ((0 : Nat) : Int) - 1 = -1 from rfl]
        go_wp2
        go_ret2
        exact ⟨mf_sb HZ.out, rfl⟩

theorem implMirrorF_any (s : ByteArray) (w : World) (hs : s.size ≤ maxLen) :
    Calls Try.prog 71 #[.string s] w fun e w' => e = .returned (.tuple #[.string (mirF s), .bool (okFence s)]) ∧ Below w.heap.size w w' := by
  unfold mirF
  cases h : okFence s
  · rw [if_neg (by decide)]
    have H := Lib.hid h; clear h
    go_enter Try.func71, Try.ntmps71
    go_wp2_with (go_at_call 110; refine (implIsFence_any s _ hs).mono ?_; rintro e w' ⟨rfl, rfl⟩; rw [H.out])
    go_ret2
    exact ⟨rfl, Below.refl _ _⟩
  · rw [if_pos rfl]
    have hz := mf_size h
    have HT := Lib.hid fun W => told_any s W (by omega) (mf_at h)
    have H := Lib.hid h; clear h
    go_enter Try.func71, Try.ntmps71
    go_wp2_with (first
      | (go_at_call 110; refine (implIsFence_any s _ hs).mono ?_; rintro e w' ⟨rfl, rfl⟩; rw [H.out])
      | (go_at_call 108; refine (HT.out _).mono ?_; rintro e w1 ⟨rfl, hb⟩))
    go_ret2
    exact ⟨rfl, hb⟩

set_option maxHeartbeats 400000 in
theorem lawMirrorFence_walk (s : ByteArray) (w : World) (hs : s.size ≤ maxLen) :
    Calls Try.prog 22 #[.string s] w fun e w' => e = .returned (.bool true) ∧ Below w.heap.size w w' := by
  have hs0 := hs
  unfold maxLen at hs
  have S := Lib.hid fun W : World => specMirrorF_any s W hs0
  have I := Lib.hid fun W : World => implMirrorF_any s W hs0
  obtain ⟨p, hp⟩ : ∃ p, p = mirF s := ⟨_, rfl⟩
  obtain ⟨q, hq⟩ : ∃ q, q = okFence s := ⟨_, rfl⟩
  rw [← hp, ← hq] at S I
  clear hp hq
  by_cases h : s.size ≤ 1048576
  · go_enter Try.func22, Try.ntmps22
    go_wp2_with (first
      | (go_at_call 70; refine (S.out _).mono ?_; rintro e w1 ⟨rfl, rfl⟩)
      | (go_at_call 71; refine (I.out _).mono ?_; rintro e w1 ⟨rfl, hb⟩))
    go_ret
    exact ⟨rfl, hb⟩
  · go_enter Try.func22, Try.ntmps22
    go_wp2
    go_ret
    exact ⟨rfl, Below.refl _ _⟩
end Go.Proofs.Ytfickmbfbmbjcaa
