/- slices.BinarySearch of increasing numbers. No condition but the list's length. -/
import Derived.Test.YtbocdhibimcobaaGates
import Derived.Test.YtbocdhibimcobaaShelf
namespace Go.Proofs.Ytbocdhibimcobaa
open Go.RowKit

theorem incF_sorted {n : Int} : ∀ {L : List Int} {lo : Int}, incF n lo L = true → L.Pairwise (· ≤ ·)
  | [], _, _ => List.Pairwise.nil
  | x :: L, lo, h => by
    have h' : (decide (lo ≤ x ∧ x < n) && incF n (x + 1) L) = true := h
    rw [Bool.and_eq_true] at h'
    rw [List.pairwise_cons]
    exact ⟨fun y hy => by have := incF_mem h'.2 y hy; omega, incF_sorted h'.2⟩
/-- how many are less -/
def lessN (L : List Int) (x : Int) : Nat := L.countP (· < x)
theorem lessN_le (L : List Int) (x : Int) : lessN L x ≤ L.length := List.countP_le_length
theorem binS_any (A : Option Addr) (c : Nat) (L : List Int) (x : Int) (w : World) (hl : L.length ≤ 1048576) (hs : L.Pairwise (· ≤ ·)) (h : IntSl w A L) :
    Calls Try.prog 78 #[.slice A L.length c, .int .i64 x] w fun e w' => e = .returned (.tuple #[.int .i64 (lessN L x : Nat), .bool (decide (x ∈ L))]) ∧ ∃ q, w' = w.drewN q := by
  rcases Nat.eq_zero_or_pos L.length with h0 | h0
  · obtain rfl : L = [] := List.eq_nil_of_length_eq_zero h0
    refine (Try.slices_BinarySearch_int_empty A c x w).mono ?_
    rintro e w' ⟨rfl, rfl⟩
    exact ⟨rfl, 0, rfl⟩
  · obtain ⟨g, off, rfl, -, hat⟩ := h.some h0
    refine (Try.slices_BinarySearch_int g off L.length c L x w (Nat.le_refl _) (by omega) (fun j hj => by rw [hat j hj, getD_lt L j hj]) (by rw [List.take_length]; exact hs)).mono ?_
    rintro e w' ⟨rfl, q, rfl⟩
    rw [List.take_length]
    refine ⟨?_, q, rfl⟩
    have e2 : L.contains x = decide (x ∈ L) := by rw [Bool.eq_iff_iff, List.contains_iff_mem, decide_eq_true_iff]
    rw [e2]
    rfl
end Go.Proofs.Ytbocdhibimcobaa
