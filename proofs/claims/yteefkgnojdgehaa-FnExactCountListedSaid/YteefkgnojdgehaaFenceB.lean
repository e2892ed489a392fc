/- Fences of the program. -/
import Derived.Test.YteefkgnojdgehaaFence
namespace Go.Proofs.Yteefkgnojdgehaa
open Go.RowKit

theorem isCol_sub (s : ByteArray) (k : Nat) (h : k < s.size) : isCol (s.extract k (k + 1)) = colB s[k] := by
  have : (s.extract k (k + 1)).data.toList = [s[k]] := by
    rw [show (s.extract k (k + 1)).data.toList = (s.data.toList.drop k).take 1 by simp [ByteArray.data_extract, List.take_drop]]
    rw [List.drop_eq_getElem_cons (by simpa using h)]
    simp; rfl
  unfold isCol; rw [this]
theorem extract_one_max (s : ByteArray) (k : Nat) : (s.extract k (k + 1)).size ≤ maxLen := by
  have : (s.extract k (k + 1)).size ≤ 1 := by simp [ByteArray.size_extract]; omega
  unfold maxLen; omega

set_option maxHeartbeats 400000 in
theorem implIsFence_any (s : ByteArray) (w : World) (hs : s.size ≤ maxLen) :
    Calls Try.prog 80 #[.string s] w fun e w' => e = .returned (.bool (okFence s)) ∧ w = w' := by
  have hs0 := hs
  unfold maxLen at hs
  by_cases h1 : 1 ≤ s.size ∧ s.size ≤ 20
  · obtain ⟨ha, hb⟩ := h1
    go_enter Try.func80, Try.ntmps80
    go_wp2
    go_loop [3, 14] (fun _ i => ∃ k : Nat, k ≤ s.size ∧ i = .int .i64 k ∧ (s.data.toList.take k).all okB = true) (fun _ i => s.size - (intOf i).toNat)
    case atStart => exact ⟨0, Nat.zero_le _, rfl, by simp⟩
    case round =>
      obtain ⟨k, hk, rfl, hall⟩ := hrel
      have H := Lib.hid hall; clear hall
      by_cases hlt : k < s.size
      · by_cases hd : (s[k].toNat : Int) = 46
        · have H2 := Lib.hid (all_step s k hlt H.out (by unfold okB; rw [decide_eq_true_iff]; omega))
          go_wp2
          go_round
          case rel => exact ⟨k + 1, by omega, by go_num, H2.out⟩
          case measure => simp [intOf]; omega
        · have h46 : ((s[k].toNat : Int) == 46) = false := by rw [beq_eq_false_iff_ne]; omega
          have h46' : ((s[k].toNat : Int) != 46) = true := by rw [bne_iff_ne]; omega
          have HC := Lib.hid (isCol_sub s k hlt)
          by_cases hc : colB s[k] = true
          · have H2 := Lib.hid (all_step s k hlt H.out (by unfold colB at hc; have := of_decide_eq_true hc; unfold okB; rw [decide_eq_true_iff]; omega))
            have Hc := Lib.hid hc; clear hc
            go_wp2_with fail
            refine (isColour_any _ _ (extract_one_max s k)).mono ?_
            rintro e w' ⟨rfl, rfl⟩
            rw [HC.out, Hc.out]
            go_wp2
            go_round
            case rel => exact ⟨k + 1, by omega, by go_num, H2.out⟩
            case measure => simp [intOf]; omega
          · have hc' : colB s[k] = false := by simpa using hc
            have H2 := Lib.hid (okFence_no s k hlt (by unfold colB at hc'; have := of_decide_eq_false hc'; unfold okB; rw [decide_eq_false_iff_not]; omega))
            have Hc := Lib.hid hc'; clear hc hc'
            go_wp2_with fail
            refine (isColour_any _ _ (extract_one_max s k)).mono ?_
            rintro e w' ⟨rfl, rfl⟩
            rw [HC.out, Hc.out]
            go_wp2
            go_ret
            exact ⟨ret_bool H2.out.symm, rfl⟩
      · go_wp2
        go_ret
        exact ⟨ret_bool (okFence_end s k (by omega) H.out ha hb).symm, rfl⟩
  · have H := Lib.hid (okFence_len s h1)
    rcases (show s.size < 1 ∨ 1 ≤ s.size ∧ 20 < s.size by omega) with hc | ⟨hc, hd⟩
    all_goals
      clear h1
      go_enter Try.func80, Try.ntmps80
      go_wp2
      go_ret
      exact ⟨ret_bool H.out.symm, rfl⟩

end Go.Proofs.Yteefkgnojdgehaa
