/- Yards: 'spec.reGood', 'impl.IsYard'. No condition but the text's length. -/
import Derived.Test.YtfickmbfbmbjcaaIn
import Derived.Laws.RangeAny
namespace Go.Proofs.Ytfickmbfbmbjcaa
open Go.RowKit

theorem below_iter (w : World) (s : ByteArray) (k : Nat) : Below w.heap.size w (w.iter s k) := below_new w _
/-- a board's byte -/
def yB (c : UInt8) : Bool := decide ((c.toNat : Int) = 120 ∨ (c.toNat : Int) = 111)
def okYard (s : ByteArray) : Bool := decide (1 ≤ s.size ∧ s.size ≤ 30) && s.data.toList.all yB
theorem yall_take_succ (s : ByteArray) (k : Nat) (h : k < s.size) : (s.data.toList.take (k + 1)).all yB = ((s.data.toList.take k).all yB && yB s[k]) := by
  rw [List.take_succ_eq_append_getElem (by simpa using h), List.all_append]; simp; rfl
theorem yall_step (s : ByteArray) (k : Nat) (h : k < s.size) (h1 : (s.data.toList.take k).all yB = true) (h2 : yB s[k] = true) : (s.data.toList.take (k + 1)).all yB = true := by
  rw [yall_take_succ s k h, h1, h2]; rfl
theorem okYard_end (s : ByteArray) (k : Nat) (h : s.size ≤ k) (h1 : (s.data.toList.take k).all yB = true) (ha : 1 ≤ s.size) (hb : s.size ≤ 30) : okYard s = true := by
  rw [List.take_of_length_le (by simpa using h)] at h1
  simp only [okYard, h1, ha, hb, and_self, decide_true, Bool.and_self]
theorem okYard_no (s : ByteArray) (k : Nat) (h : k < s.size) (h2 : yB s[k] = false) : okYard s = false := by
  have : s.data.toList.all yB = false := by
    rw [List.all_eq_false]
    exact ⟨s[k], by show s.data[k] ∈ s.data.toList; simp, by simp [h2]⟩
  simp only [okYard, this, Bool.and_false]
theorem okYard_len (s : ByteArray) (h : ¬ (1 ≤ s.size ∧ s.size ≤ 30)) : okYard s = false := by
  simp only [okYard, h, decide_false, Bool.false_and]
theorem okYard_size {s : ByteArray} (h : okYard s = true) : 1 ≤ s.size ∧ s.size ≤ 30 := by
  unfold okYard at h
  rw [Bool.and_eq_true, decide_eq_true_iff] at h
  exact h.1
theorem okYard_at {s : ByteArray} (h : okYard s = true) (k : Nat) (hk : k < s.size) : yB s[k] = true := by
  unfold okYard at h
  rw [Bool.and_eq_true, List.all_eq_true] at h
  exact h.2 _ (by show s.data[k] ∈ s.data.toList; simp)
theorem yB_or {c : UInt8} (h : yB c = true) : c.toNat = 120 ∨ c.toNat = 111 := by
  unfold yB at h; have := of_decide_eq_true h; omega
theorem yB_128 {c : UInt8} (h : yB c = true) : c.toNat < 128 := by
  have := yB_or h; omega

set_option maxHeartbeats 400000 in
theorem reGood_any (s : ByteArray) (w : World) (hs : s.size ≤ maxLen) :
    Calls Try.prog 72 #[.string s] w fun e w' => e = .returned (.bool (okYard s)) ∧ w = w' := by
  unfold maxLen at hs
  have HI := Lib.hid (l1In_any (s.size : Int) 1 30 w)
  by_cases h1 : 1 ≤ s.size ∧ s.size ≤ 30
  · obtain ⟨ha, hb⟩ := h1
    rw [show decide ((1 : Int) ≤ (s.size : Int) ∧ (s.size : Int) ≤ 30) = true from decide_eq_true (by omega)] at HI
    go_enter Try.func72, Try.ntmps72
    go_wp2_with (go_at_call 75; refine HI.out.mono ?_; rintro e w' ⟨rfl, rfl⟩)
    go_loop [3] (fun i => ∃ k : Nat, k ≤ s.size ∧ i = .int .i64 k ∧ (s.data.toList.take k).all yB = true) (fun i => s.size - (intOf i).toNat)
    case atStart => exact ⟨0, Nat.zero_le _, rfl, by simp⟩
    case round =>
      obtain ⟨k, hk, rfl, hall⟩ := hrel
      have H := Lib.hid hall; clear hall
      by_cases hlt : k < s.size
      · by_cases hok : yB s[k] = true
        · have H2 := Lib.hid (yall_step s k hlt H.out hok)
          rcases yB_or hok with hc | hc
          all_goals
            clear hok
            go_wp2
            go_round
            case rel => exact ⟨k + 1, by omega, by go_num, H2.out⟩
            case measure => simp [intOf]; omega
        · have hok' : yB s[k] = false := by simpa using hok
          have hc : ¬ ((s[k].toNat : Int) = 120 ∨ (s[k].toNat : Int) = 111) := by unfold yB at hok'; exact of_decide_eq_false hok'
          have H2 := Lib.hid (okYard_no s k hlt hok'); clear hok hok'
          have h46 : ((s[k].toNat : Int) != 120) = true := by rw [bne_iff_ne]; omega
          have h47 : ((s[k].toNat : Int) != 111) = true := by rw [bne_iff_ne]; omega
          clear hc
          go_wp2
          go_ret
          exact ⟨ret_bool H2.out.symm, rfl⟩
      · go_wp2
        go_ret
        exact ⟨ret_bool (okYard_end s k (by omega) H.out ha hb).symm, rfl⟩
  · rw [show decide ((1 : Int) ≤ (s.size : Int) ∧ (s.size : Int) ≤ 30) = false from decide_eq_false (by omega)] at HI
    have H := Lib.hid (okYard_len s h1)
    go_enter Try.func72, Try.ntmps72
    go_wp2_with (go_at_call 75; refine HI.out.mono ?_; rintro e w' ⟨rfl, rfl⟩)
    go_ret
    exact ⟨ret_bool H.out.symm, rfl⟩

theorem specIsYard_any (s0 : ByteArray) (w : World) (hs : s0.size ≤ maxLen) :
    Calls Try.prog 23 #[.string s0] w fun e w' => e = .returned (.bool (okYard s0)) ∧ Below w.heap.size w w' := by
  go_enter Try.func23, Try.ntmps23
  go_wp2_with (go_at_call 72; refine (reGood_any s0 _ hs).mono ?_; rintro e w' ⟨rfl, rfl⟩)
  go_ret
  exact ⟨rfl, Below.refl _ _⟩

set_option maxHeartbeats 400000 in
theorem isYardLength_any (n : Int) (w : World) :
    Calls Try.prog 73 #[.int .i64 n] w fun e w' => e = .returned (.bool (decide (1 ≤ n ∧ n ≤ 30))) ∧ w = w' := by
  by_cases h1 : 1 ≤ n
  · by_cases h2 : n ≤ 30
    · rw [decide_eq_true (show 1 ≤ n ∧ n ≤ 30 from ⟨h1, h2⟩)]
      go_enter Try.func73, Try.ntmps73
      go_wp2
      go_ret
      exact ⟨rfl, rfl⟩
    · rw [decide_eq_false (show ¬ (1 ≤ n ∧ n ≤ 30) from fun h => h2 h.2)]
      go_enter Try.func73, Try.ntmps73
      go_wp2
      go_ret
      exact ⟨rfl, rfl⟩
  · rw [decide_eq_false (show ¬ (1 ≤ n ∧ n ≤ 30) from fun h => h1 h.1)]
    go_enter Try.func73, Try.ntmps73
    go_wp2
    go_ret
    exact ⟨rfl, rfl⟩

set_option maxHeartbeats 400000 in
theorem implIsYard_any (s0 : ByteArray) (w : World) (hs : s0.size ≤ maxLen) :
    Calls Try.prog 24 #[.string s0] w fun e w' => e = .returned (.bool (okYard s0)) ∧ Below w.heap.size w w' := by
  unfold maxLen at hs
  have HI := Lib.hid (isYardLength_any (s0.size : Int) w)
  by_cases h1 : 1 ≤ s0.size ∧ s0.size ≤ 30
  · obtain ⟨ha, hb⟩ := h1
    rw [show decide ((1 : Int) ≤ (s0.size : Int) ∧ (s0.size : Int) ≤ 30) = true from decide_eq_true (by omega)] at HI
    go_enter Try.func24, Try.ntmps24
    go_wp2_with (go_at_call 73; refine HI.out.mono ?_; rintro e w' ⟨rfl, rfl⟩)
    go_loopw [] (fun w' => ∃ k : Nat, k ≤ s0.size ∧ w' = w.iter s0 k ∧ (s0.data.toList.take k).all yB = true) (fun w' => s0.size - w'.iterPos w.heap.size)
    case atStart => exact ⟨0, Nat.zero_le _, rfl, by simp⟩
    case round =>
      obtain ⟨k, hk, rfl, hall⟩ := hrel
      have H := Lib.hid hall; clear hall
      by_cases hp : k < s0.size
      · by_cases hok : yB s0[k] = true
        · have h128 := yB_128 hok
          have hnx : ∀ ty, (Instr.next (.pointer (some ⟨w.heap.size, 0, none⟩)) true ty).run Try.prog (w.iter s0 k) = _ := fun ty => run_next_ascii w s0 k ty hp h128
          have H2 := Lib.hid (yall_step s0 k hp H.out hok)
          rcases yB_or hok with hc | hc
          all_goals
            rw [hc] at hnx
            clear hok h128 hc
            go_wp2
            go_roundw
            case rel => exact ⟨k + 1, by omega, rfl, H2.out⟩
            case measure => simp; omega
        · have hok' : yB s0[k] = false := by simpa using hok
          have hc : ¬ ((s0[k].toNat : Int) = 120 ∨ (s0[k].toNat : Int) = 111) := by unfold yB at hok'; exact of_decide_eq_false hok'
          have H2 := Lib.hid (okYard_no s0 k hp hok'); clear hok hok'
          have hr : (Utf8.decode s0 k).1 ≠ 120 ∧ (Utf8.decode s0 k).1 ≠ 111 := by
            by_cases h128 : s0[k].toNat < 128
            · rw [decode_ascii s0 k hp h128]; exact ⟨fun h => hc (.inl (by exact_mod_cast h)), fun h => hc (.inr (by exact_mod_cast h))⟩
            · have := (decode_high s0 k hp (by omega)).1
              omega
          have hnx : ∀ ty, (Instr.next (.pointer (some ⟨w.heap.size, 0, none⟩)) true ty).run Try.prog (w.iter s0 k) = _ := fun ty => run_next_any w s0 k ty hp
          obtain ⟨r, hrr⟩ : ∃ r, r = (Utf8.decode s0 k).1 := ⟨_, rfl⟩
          obtain ⟨q, hq⟩ : ∃ q, q = k + (Utf8.decode s0 k).2 := ⟨_, rfl⟩
          rw [← hrr] at hr hnx
          rw [← hq] at hnx
          have h46 : ((r : Int) != 120) = true := by rw [bne_iff_ne]; omega
          have h47 : ((r : Int) != 111) = true := by rw [bne_iff_ne]; omega
          clear hc hr hrr hq
          go_wp2
          go_ret
          exact ⟨ret_bool H2.out.symm, below_new w _⟩
      · obtain rfl : k = s0.size := by omega
        have hnx : ∀ ty, (Instr.next (.pointer (some ⟨w.heap.size, 0, none⟩)) true ty).run Try.prog (w.iter s0 s0.size) = _ := fun ty => run_next_end w s0 s0.size ty hp
        have H2 := Lib.hid (okYard_end s0 _ (Nat.le_refl _) H.out ha hb)
        go_wp2
        go_ret
        exact ⟨ret_bool H2.out.symm, below_new w _⟩
  · rw [show decide ((1 : Int) ≤ (s0.size : Int) ∧ (s0.size : Int) ≤ 30) = false from decide_eq_false (by omega)] at HI
    have H := Lib.hid (okYard_len s0 h1)
    go_enter Try.func24, Try.ntmps24
    go_wp2_with (go_at_call 73; refine HI.out.mono ?_; rintro e w' ⟨rfl, rfl⟩)
    go_ret
    exact ⟨ret_bool H.out.symm, Below.refl _ _⟩
end Go.Proofs.Ytfickmbfbmbjcaa
