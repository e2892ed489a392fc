/- Fences: what 'impl.IsFence' and 'spec.IsFence' return. No condition. -/
import Derived.Test.YteefkgnojdgehaaBase
import Derived.Test.YteefkgnojdgehaaShelf
namespace Go.Proofs.Yteefkgnojdgehaa
open Go.RowKit

theorem ret_bool {a b : Bool} (h : a = b) : Ending.returned (.bool a) = .returned (.bool b) := by rw [h]

set_option maxHeartbeats 400000 in
theorem l1In_t (n lo hi : Int) (w : World) (h : lo ≤ n ∧ n ≤ hi) :
    Calls Try.prog 72 #[.int .i64 n, .int .i64 lo, .int .i64 hi] w fun e w' => e = .returned (.bool true) ∧ w = w' := by
  obtain ⟨h1, h2⟩ := h
  go_enter Try.func72, Try.ntmps72
  go_wp2
  go_ret
  exact ⟨rfl, rfl⟩
set_option maxHeartbeats 400000 in
theorem l1In_f (n lo hi : Int) (w : World) (h : ¬ (lo ≤ n ∧ n ≤ hi)) :
    Calls Try.prog 72 #[.int .i64 n, .int .i64 lo, .int .i64 hi] w fun e w' => e = .returned (.bool false) ∧ w = w' := by
  by_cases h1 : lo ≤ n
  · have h2 : ¬ n ≤ hi := fun x => h ⟨h1, x⟩
    clear h
    go_enter Try.func72, Try.ntmps72
    go_wp2
    go_ret
    exact ⟨rfl, rfl⟩
  · clear h
    go_enter Try.func72, Try.ntmps72
    go_wp2
    go_ret
    exact ⟨rfl, rfl⟩

/-- a colour's byte; a board's byte -/
def colB (c : UInt8) : Bool := decide (97 ≤ (c.toNat : Int) ∧ (c.toNat : Int) ≤ 101)
def okB (c : UInt8) : Bool := decide ((c.toNat : Int) = 46 ∨ 97 ≤ (c.toNat : Int) ∧ (c.toNat : Int) ≤ 101)
def okFence (s : ByteArray) : Bool := decide (1 ≤ s.size ∧ s.size ≤ 20) && s.data.toList.all okB

theorem all_take_succ (s : ByteArray) (k : Nat) (h : k < s.size) : (s.data.toList.take (k + 1)).all okB = ((s.data.toList.take k).all okB && okB s[k]) := by
  rw [List.take_succ_eq_append_getElem (by simpa using h), List.all_append]; simp; rfl
theorem all_step (s : ByteArray) (k : Nat) (h : k < s.size) (h1 : (s.data.toList.take k).all okB = true) (h2 : okB s[k] = true) : (s.data.toList.take (k + 1)).all okB = true := by
  rw [all_take_succ s k h, h1, h2]; rfl
theorem okFence_end (s : ByteArray) (k : Nat) (h : s.size ≤ k) (h1 : (s.data.toList.take k).all okB = true) (ha : 1 ≤ s.size) (hb : s.size ≤ 20) : okFence s = true := by
  rw [List.take_of_length_le (by simpa using h)] at h1
  simp only [okFence, h1, ha, hb, and_self, decide_true, Bool.and_self]
theorem okFence_no (s : ByteArray) (k : Nat) (h : k < s.size) (h2 : okB s[k] = false) : okFence s = false := by
  have : s.data.toList.all okB = false := by
    rw [List.all_eq_false]
    exact ⟨s[k], by show s.data[k] ∈ s.data.toList; simp, by simp [h2]⟩
  simp only [okFence, this, Bool.and_false]
theorem okFence_len (s : ByteArray) (h : ¬ (1 ≤ s.size ∧ s.size ≤ 20)) : okFence s = false := by
  simp only [okFence, h, decide_false, Bool.false_and]

set_option maxHeartbeats 400000 in
theorem stGood_any (s : ByteArray) (w : World) (hs : s.size ≤ maxLen) :
    Calls Try.prog 78 #[.string s] w fun e w' => e = .returned (.bool (okFence s)) ∧ w = w' := by
  unfold maxLen at hs
  by_cases h1 : 1 ≤ s.size ∧ s.size ≤ 20
  · obtain ⟨ha, hb⟩ := h1
    go_enter Try.func78, Try.ntmps78
    go_wp2_with (go_at_call 72; refine (l1In_t _ _ _ _ (by omega)).mono ?_; rintro e w' ⟨rfl, rfl⟩)
    go_loop [3] (fun i => ∃ k : Nat, k ≤ s.size ∧ i = .int .i64 k ∧ (s.data.toList.take k).all okB = true) (fun i => s.size - (intOf i).toNat)
    case atStart => exact ⟨0, Nat.zero_le _, rfl, by simp⟩
    case round =>
      obtain ⟨k, hk, rfl, hall⟩ := hrel
      have H := Lib.hid hall; clear hall
      by_cases hlt : k < s.size
      · by_cases hok : okB s[k] = true
        · have hc : (s[k].toNat : Int) = 46 ∨ 97 ≤ (s[k].toNat : Int) ∧ (s[k].toNat : Int) ≤ 101 := by unfold okB at hok; exact of_decide_eq_true hok
          have H2 := Lib.hid (all_step s k hlt H.out hok); clear hok
          rcases hc with hc | ⟨hc1, hc2⟩
          all_goals
            go_wp2
            go_round
            case rel => exact ⟨k + 1, by omega, by go_num, H2.out⟩
            case measure => simp [intOf]; omega
        · have hok' : okB s[k] = false := by simpa using hok
          have hc : ¬ ((s[k].toNat : Int) = 46 ∨ 97 ≤ (s[k].toNat : Int) ∧ (s[k].toNat : Int) ≤ 101) := by unfold okB at hok'; exact of_decide_eq_false hok'
          have H2 := Lib.hid (okFence_no s k hlt hok'); clear hok hok'
          have h46 : ((s[k].toNat : Int) == 46) = false := by rw [beq_eq_false_iff_ne]; omega
          have h46' : ((s[k].toNat : Int) != 46) = true := by rw [bne_iff_ne]; omega
          rcases (show (s[k].toNat : Int) < 97 ∨ 97 ≤ (s[k].toNat : Int) ∧ 101 < (s[k].toNat : Int) by omega) with hd | ⟨hd1, hd2⟩
          all_goals
            clear hc
            go_wp2
            go_ret
            exact ⟨ret_bool H2.out.symm, rfl⟩
      · go_wp2
        go_ret
        exact ⟨ret_bool (okFence_end s k (by omega) H.out ha hb).symm, rfl⟩
  · go_enter Try.func78, Try.ntmps78
    go_wp2_with (go_at_call 72; refine (l1In_f _ _ _ _ (by omega)).mono ?_; rintro e w' ⟨rfl, rfl⟩)
    go_ret
    exact ⟨ret_bool (okFence_len s h1).symm, rfl⟩

/-- a text that is one colour -/
def isCol (s : ByteArray) : Bool := match s.data.toList with | [c] => colB c | _ => false

theorem indexByte_abcde (c : UInt8) : decide (0 ≤ Lib.indexByte [97, 98, 99, 100, 101] c) = colB c := by
  have h : ∀ n : Fin 256, decide (0 ≤ Lib.indexByte [97, 98, 99, 100, 101] (UInt8.ofNat n.val)) = colB (UInt8.ofNat n.val) := by decide +kernel
  have := h ⟨c.toNat, c.toNat_lt⟩
  simpa using this

theorem isColour_any (s : ByteArray) (w : World) (hs : s.size ≤ maxLen) :
    Calls Try.prog 90 #[.string s] w fun e w' => e = .returned (.bool (isCol s)) ∧ w = w' := by
  unfold maxLen at hs
  by_cases h1 : s.size = 1
  · obtain ⟨c, rfl⟩ : ∃ c, s = ⟨#[c]⟩ := by
      obtain ⟨⟨l⟩⟩ := s
      match l, h1 with
      | [c], _ => exact ⟨c, rfl⟩
    go_enter Try.func90, Try.ntmps90
    go_wp2_with (go_at_call 94; refine (Try.strings_Contains_one _ _ _).mono ?_; rintro e w' ⟨rfl, rfl⟩)
    go_ret
    exact ⟨ret_bool (indexByte_abcde c), rfl⟩
  · have hb : (((s.size : Nat) : Int) == 1) = false := by simpa using (by omega : ¬ ((s.size : Int) = 1))
    have hc : isCol s = false := by
      unfold isCol
      split
      · rename_i c h
        exfalso; apply h1
        have := congrArg List.length h
        simpa using this
      · rfl
    have H := Lib.hid hc; clear hc
    go_enter Try.func90, Try.ntmps90
    go_wp2
    go_ret
    exact ⟨ret_bool H.out.symm, rfl⟩
end Go.Proofs.Yteefkgnojdgehaa
