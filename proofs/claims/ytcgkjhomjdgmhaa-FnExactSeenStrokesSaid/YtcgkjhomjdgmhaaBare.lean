/- Bare fences: what 'spec.stBare', 'impl.bareBoards' and the two BareFence return. No condition. -/
import Derived.Test.YtcgkjhomjdgmhaaFenceB
namespace Go.Proofs.Ytcgkjhomjdgmhaa
open Go.RowKit

theorem ret_str {a b : ByteArray} (h : a = b) : Ending.returned (.string a) = .returned (.string b) := by rw [h]

/-- a fence of k bare boards -/
def bareS (k : Nat) : ByteArray := ⟨Array.replicate k 46⟩
theorem bareS_size (k : Nat) : (bareS k).size = k := by simp [bareS, ByteArray.size]
theorem bareS_list (k : Nat) : (bareS k).data.toList = List.replicate k 46 := by simp [bareS]
theorem bytes_ext {a b : ByteArray} (h : a.data.toList = b.data.toList) : a = b := by
  obtain ⟨⟨a⟩⟩ := a; obtain ⟨⟨b⟩⟩ := b; simp at h; rw [h]
theorem append_list (a b : ByteArray) : (a ++ b).data.toList = a.data.toList ++ b.data.toList := by simp
theorem bareS_succ (k : Nat) : bareS k ++ ⟨#[46]⟩ = bareS (k + 1) := by
  apply bytes_ext; rw [append_list, bareS_list, bareS_list, List.replicate_succ']
theorem repeatL_one_byte (c : UInt8) : ∀ k : Nat, Lib.repeatL [c] k = List.replicate k c
  | 0 => rfl
  | k + 1 => by rw [Lib.repeatL, repeatL_one_byte c k, List.replicate_succ]; rfl
theorem bareS_repeat (k : Nat) : (⟨(Lib.repeatL (⟨#[46]⟩ : ByteArray).data.toList k).toArray⟩ : ByteArray) = bareS k := by
  apply bytes_ext; rw [bareS_list]; simp [repeatL_one_byte]

set_option maxHeartbeats 400000 in
theorem stBare_any (n : Nat) (w : World) (hn : n ≤ 20) :
    Calls Try.prog 96 #[.int .i64 n] w fun e w' => e = .returned (.string (bareS n)) ∧ w = w' := by
  go_enter Try.func96, Try.ntmps96
  go_wp2
  go_loop [0, 3] (fun b s => ∃ j : Nat, j ≤ n ∧ b = .int .i64 j ∧ s = .string (bareS (n - j))) (fun b _ => (intOf b).toNat)
  case atStart => exact ⟨n, Nat.le_refl _, rfl, by rw [Nat.sub_self]; rfl⟩
  case round =>
    obtain ⟨j, hj, rfl, rfl⟩ := hrel
    have hz : (bareS (n - j)).size ≤ 20 := by rw [bareS_size]; omega
    by_cases h0 : 0 < j
    · have HS := Lib.hid (bareS_succ (n - j))
      go_wp2
      go_round
      case rel => exact ⟨j - 1, by omega, by go_num, by rw [HS.out]; congr 2; omega⟩
      case measure => simp [intOf]; omega
    · obtain rfl : j = 0 := by omega
      go_wp2
      go_ret
      exact ⟨rfl, rfl⟩

theorem bareBoards_any (n : Nat) (w : World) (hn : n ≤ 20) :
    Calls Try.prog 93 #[.int .i64 n] w fun e w' => e = .returned (.string (bareS n)) ∧ Below w.heap.size w w' := by
  have HR := Lib.hid (bareS_repeat n)
  go_enter Try.func93, Try.ntmps93
  go_wp2_with (go_at_call 112; refine (Try.strings_Repeat ⟨#[46]⟩ n _ (by omega) (by show 1 * n ≤ _; omega)).mono ?_; rintro e w' ⟨rfl, hb⟩)
  go_ret
  exact ⟨ret_str HR.out, hb⟩

theorem specBareFence_any (n : Int) (w : World) :
    Calls Try.prog 52 #[.int .i64 n] w fun e w' =>
      (e = .returned (.tuple (if 1 ≤ n ∧ n ≤ 20 then #[.string (bareS n.toNat), .bool true] else #[.string ⟨#[]⟩, .bool false])) ∧ w = w') := by
  by_cases h : 1 ≤ n ∧ n ≤ 20
  · rw [if_pos h]
    obtain ⟨k, rfl⟩ : ∃ k : Nat, n = k := ⟨n.toNat, by omega⟩
    go_enter Try.func52, Try.ntmps52
    go_wp2_with (first
      | (go_at_call 101; refine (l1In_t _ _ _ _ (by omega)).mono ?_; rintro e w' ⟨rfl, rfl⟩)
      | (go_at_call 96; refine (stBare_any k _ (by omega)).mono ?_; rintro e w' ⟨rfl, rfl⟩))
    go_ret2
    exact ⟨rfl, rfl⟩
  · rw [if_neg h]
    go_enter Try.func52, Try.ntmps52
    go_wp2_with (go_at_call 101; refine (l1In_f _ _ _ _ h).mono ?_; rintro e w' ⟨rfl, rfl⟩)
    go_ret2
    exact ⟨rfl, rfl⟩

theorem implBareFence_any (n : Int) (w : World) :
    Calls Try.prog 51 #[.int .i64 n] w fun e w' =>
      (e = .returned (.tuple (if 1 ≤ n ∧ n ≤ 20 then #[.string (bareS n.toNat), .bool true] else #[.string ⟨#[]⟩, .bool false])) ∧ Below w.heap.size w w') := by
  by_cases h : 1 ≤ n ∧ n ≤ 20
  · rw [if_pos h]
    obtain ⟨k, rfl⟩ : ∃ k : Nat, n = k := ⟨n.toNat, by omega⟩
    obtain ⟨h1, h2⟩ := h
    go_enter Try.func51, Try.ntmps51
    go_wp2_with (go_at_call 93; refine (bareBoards_any k _ (by omega)).mono ?_; rintro e w' ⟨rfl, hb⟩)
    go_ret2
    exact ⟨rfl, hb⟩
  · rw [if_neg h]
    rcases (show n < 1 ∨ 1 ≤ n ∧ 20 < n by omega) with h1 | ⟨h1, h2⟩
    all_goals
      clear h
      go_enter Try.func51, Try.ntmps51
      go_wp2
      go_ret2
      exact ⟨rfl, Below.refl _ _⟩

theorem lawBareFence_walk (n : Int) (w : World) (hn : (Lit.int .i64 n).wf = true) :
    Calls Try.prog 5 #[.int .i64 n] w fun e w' => e = .returned (.bool true) ∧ Below w.heap.size w w' := by
  have HX := Lib.hid hn
  clear hn
  by_cases h : 1 ≤ n ∧ n ≤ 20
  · have S := specBareFence_any n w
    have I := implBareFence_any n w
    rw [if_pos h] at S I
    go_enter Try.func5, Try.ntmps5
    go_wp2_with (first
      | (go_at_call 52; refine S.mono ?_; rintro e w' ⟨rfl, rfl⟩)
      | (go_at_call 51; refine I.mono ?_; rintro e w' ⟨rfl, hb⟩))
    go_ret
    exact ⟨rfl, hb⟩
  · have S := specBareFence_any n w
    have I := implBareFence_any n w
    rw [if_neg h] at S I
    go_enter Try.func5, Try.ntmps5
    go_wp2_with (first
      | (go_at_call 52; refine S.mono ?_; rintro e w' ⟨rfl, rfl⟩)
      | (go_at_call 51; refine I.mono ?_; rintro e w' ⟨rfl, hb⟩))
    go_ret
    exact ⟨rfl, hb⟩
end Go.Proofs.Ytcgkjhomjdgmhaa
