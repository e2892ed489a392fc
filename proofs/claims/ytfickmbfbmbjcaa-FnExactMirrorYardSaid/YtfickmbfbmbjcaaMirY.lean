/- MirrorYard of both sides. No condition but the text's length. -/
import Derived.Test.YtfickmbfbmbjcaaYard
import Derived.Test.YtfickmbfbmbjcaaTold
namespace Go.Proofs.Ytfickmbfbmbjcaa
open Go.RowKit

theorem ret_sb {a b : ByteArray} {x : Bool} (h : a = b) : Ending.returned (.tuple #[.string a, .bool x]) = .returned (.tuple #[.string b, .bool x]) := by rw [h]
def mirY (s : ByteArray) : ByteArray := if okYard s = true then mirS s s.size else ⟨#[]⟩
set_option maxHeartbeats 400000 in
theorem specMirrorYard_any (s0 : ByteArray) (w : World) (hs : s0.size ≤ maxLen) :
    Calls Try.prog 68 #[.string s0] w fun e w' => e = .returned (.tuple #[.string (mirY s0), .bool (okYard s0)]) ∧ Below w.heap.size w w' := by
  unfold mirY
  cases h : okYard s0
  · rw [if_neg (by decide)]
    have H := Lib.hid h; clear h
    go_enter Try.func68, Try.ntmps68
    go_wp2_with (go_at_call 72; refine (reGood_any s0 _ hs).mono ?_; rintro e w' ⟨rfl, rfl⟩; rw [H.out])
    go_ret2
    exact ⟨rfl, Below.refl _ _⟩
  · rw [if_pos rfl]
    obtain ⟨s1, s30⟩ := okYard_size h
    have H := Lib.hid h; clear h
    go_enter Try.func68, Try.ntmps68
    go_wp2_with (go_at_call 72; refine (reGood_any s0 _ hs).mono ?_; rintro e w' ⟨rfl, rfl⟩; rw [H.out])
    go_loop [4, 5] (fun o i => ∃ k : Nat, k ≤ s0.size ∧ i = .int .i64 ((k : Int) - 1) ∧ o = .string (mirB s0 k)) (fun _ i => (intOf i + 1).toNat)
    case atStart => exact ⟨s0.size, Nat.le_refl _, rfl, by rw [mirB_end]⟩
    case round =>
      obtain ⟨k, hk, rfl, rfl⟩ := hrel
      by_cases h0 : 1 ≤ k
      · obtain ⟨j, rfl⟩ : ∃ j, k = j + 1 := ⟨k - 1, by omega⟩
        have hz : (mirB s0 (j + 1)).size ≤ 30 := Nat.le_trans (mirB_size _ _) s30
        have hz2 : (s0.extract j (j + 1)).size ≤ 30 := Nat.le_trans (by rw [ByteArray.size_extract]; omega) s30
        have HS := Lib.hid (mirB_succ s0 j (by omega))
        have e1 : ((j + 1 : Nat) : Int) - 1 = (j : Int) := by omega
        rw [e1]
        clear e1
        go_wp2
        go_round
        case rel => exact ⟨j, by omega, rfl, by rw [HS.out]⟩
        case measure => simp [intOf]
      · obtain rfl : k = 0 := by omega
        have HZ := Lib.hid (mirB_zero s0)
        rw [show ((0 : Nat) : Int) - 1 = -1 from rfl]
        go_wp2
        go_ret2
        exact ⟨ret_sb HZ.out, Below.refl _ _⟩

theorem implMirrorYard_any (s0 : ByteArray) (w : World) (hs : s0.size ≤ maxLen) :
    Calls Try.prog 69 #[.string s0] w fun e w' => e = .returned (.tuple #[.string (mirY s0), .bool (okYard s0)]) ∧ Below w.heap.size w w' := by
  unfold mirY
  cases h : okYard s0
  · rw [if_neg (by decide)]
    have H := Lib.hid h; clear h
    go_enter Try.func69, Try.ntmps69
    go_wp2_with (go_at_call 24; refine (implIsYard_any s0 _ hs).mono ?_; rintro e w1 ⟨rfl, hb1⟩; rw [H.out])
    go_ret2
    exact ⟨rfl, hb1⟩
  · rw [if_pos rfl]
    have hz := okYard_size h
    have HT := Lib.hid fun W => told_any s0 W hz.2 fun k hk => yB_128 (okYard_at h k hk)
    have H := Lib.hid h; clear h
    go_enter Try.func69, Try.ntmps69
    go_wp2_with (first
      | (go_at_call 24; refine (implIsYard_any s0 _ hs).mono ?_; rintro e w1 ⟨rfl, hb1⟩; rw [H.out])
      | (go_at_call 108; refine (HT.out _).mono ?_; rintro e w2 ⟨rfl, hb2⟩))
    go_ret2
    exact ⟨rfl, below_next hb1 hb2⟩
end Go.Proofs.Ytfickmbfbmbjcaa
