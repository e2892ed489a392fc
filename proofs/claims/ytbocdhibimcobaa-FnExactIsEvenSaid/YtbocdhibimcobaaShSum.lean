/- Sums of numbers: 'spec.shSum'. No condition but the numbers' sizes. -/
import Derived.Test.YtbocdhibimcobaaSum0
namespace Go.Proofs.Ytbocdhibimcobaa
open Go.RowKit

set_option maxHeartbeats 1000000 in
theorem shSum_any (A : Option Addr) (c : Nat) (L : List Int) (M : Int) (w : World) (hl : L.length ≤ 1048576) (hM : 0 ≤ M) (hb : (L.length : Int) * M ≤ 4611686018427387904) (hx : ∀ x ∈ L, 0 ≤ x ∧ x ≤ M) (h : IntSl w A L) :
    Calls Try.prog 61 #[.slice A L.length c] w fun e w' => e = .returned (.int .i64 L.sum) ∧ w = w' := by
  rcases Nat.eq_zero_or_pos L.length with h0 | h0
  · obtain rfl : L = [] := List.eq_nil_of_length_eq_zero h0
    clear h h0 hl hx hb
    go_enter Try.func61, Try.ntmps61
    go_wp2
    refine wp_loop_rounds 1 ?_
    rw [rounds_succ]
    go_wp2
    go_ret
    exact ⟨rfl, rfl⟩
  · obtain ⟨g, off, rfl, -, hat⟩ := h.some h0
    have HAT := Lib.hid hat
    have HX := Lib.hid fun k => sum_take_bound hM hx k
    clear hat h hx
    go_enter Try.func61, Try.ntmps61
    go_wp2
    go_loop [3, 5, 8] (fun s _ i => ∃ k : Nat, k ≤ L.length ∧ i = .int .i64 k ∧ s = .int .i64 (L.take k).sum) (fun _ _ i => L.length - (intOf i).toNat)
    case atStart => exact ⟨0, Nat.zero_le _, rfl, rfl⟩
    case round =>
      obtain ⟨k, hk, rfl, rfl⟩ := hrel
      by_cases hlt : k < L.length
      · have c1 := HAT.out k hlt
        have HS := Lib.hid (sum_take_succ hlt)
        obtain ⟨b1, b2⟩ := HX.out (k + 1)
        rw [HS.out] at b1 b2
        go_wp2
        go_round
        case rel => exact ⟨k + 1, by omega, by go_num, by rw [HS.out]⟩
        case measure => simp [intOf]; omega
      · obtain rfl : k = L.length := by omega
        go_wp2
        go_ret
        exact ⟨rfl, rfl⟩

end Go.Proofs.Ytbocdhibimcobaa
