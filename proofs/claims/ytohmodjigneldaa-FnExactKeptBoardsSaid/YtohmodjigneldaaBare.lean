/- Bare fences: what 'spec.stBare', 'impl.bareBoards' and the two BareFence return. No condition. -/
import Derived.Test.YtohmodjigneldaaFenceB
import Derived.Lib.Repeat
namespace Go.Proofs.Ytohmodjigneldaa
open Go.RowKit

theorem ret_str {a b : ByteArray} (h : a = b) : Ending.returned (.string a) = .returned (.string b) := by rw [h]

/-- a fence of k bare boards -/
def bareS (k : Nat) : ByteArray := ⟨Array.replicate k 46⟩
theorem bareS_size (k : Nat) : (bareS k).size = k := by simp [bareS, ByteArray.size]
theorem bareS_list (k : Nat) : (bareS k).data.toList = List.replicate k 46 := by simp [bareS]
theorem bytes_ext {a b : ByteArray} (h : a.data.toList = b.data.toList) : a = b := by
  obtain ⟨⟨a⟩⟩ := a; obtain ⟨⟨b⟩⟩ := b; simp at h; rw [h]
theorem append_list (a b : ByteArray) : (a ++ b).data.toList = a.data.toList ++ b.data.toList := by simp
theorem bareS_succ (k : Nat) : bareS k ++ ⟨#[46]⟩ = bareS (k + 1) := by
  apply bytes_ext; rw [append_list, bareS_list, bareS_list, List.replicate_succ']
theorem repeatL_one_byte (c : UInt8) : ∀ k : Nat, Lib.repeatL [c] k = List.replicate k c
  | 0 => rfl
  | k + 1 => by rw [Lib.repeatL, repeatL_one_byte c k, List.replicate_succ]; rfl
theorem bareS_repeat (k : Nat) : (⟨(Lib.repeatL (⟨#[46]⟩ : ByteArray).data.toList k).toArray⟩ : ByteArray) = bareS k := by
  apply bytes_ext; rw [bareS_list]; simp [repeatL_one_byte]

set_option maxHeartbeats 400000 in
theorem stBare_any (n : Nat) (w : World) (hn : n ≤ 20) :
    Calls Try.prog 23 #[.int .i64 n] w fun e w' => e = .returned (.string (bareS n)) ∧ w = w' := by
  go_enter Try.func23, Try.ntmps23
  go_wp2
  go_loop [0, 3] (fun b s => ∃ j : Nat, j ≤ n ∧ b = .int .i64 j ∧ s = .string (bareS (n - j))) (fun b _ => (intOf b).toNat)
  case atStart => exact ⟨n, Nat.le_refl _, rfl, by rw [Nat.sub_self]; rfl⟩
  case round =>
    obtain ⟨j, hj, rfl, rfl⟩ := hrel
    have hz : (bareS (n - j)).size ≤ 20 := by rw [bareS_size]; omega
    by_cases h0 : 0 < j
    · have HS := Lib.hid (bareS_succ (n - j))
      go_wp2
      go_round
      case rel => exact ⟨j - 1, by omega, by go_num, by rw [HS.out]; congr 2; omega⟩
      case measure => simp [intOf]; omega
    · obtain rfl : j = 0 := by omega
      go_wp2
      go_ret
      exact ⟨rfl, rfl⟩

theorem bareBoards_any (n : Nat) (w : World) (hn : n ≤ 20) :
    Calls Try.prog 25 #[.int .i64 n] w fun e w' => e = .returned (.string (bareS n)) ∧ Below w.heap.size w w' := by
  have HR := Lib.hid (bareS_repeat n)
  go_enter Try.func25, Try.ntmps25
  go_wp2_with (go_at_call 41; refine (Try.strings_Repeat ⟨#[46]⟩ n _ (by omega) (by show 1 * n ≤ _; omega)).mono ?_; rintro e w' ⟨rfl, hb⟩)
  go_ret
  exact ⟨ret_str HR.out, hb⟩

end Go.Proofs.Ytohmodjigneldaa
