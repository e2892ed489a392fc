/- Lists of numbers of the call's own whose capacity is less than their block's: marked, held and compared. No condition but the lists' lengths. -/
import Derived.Test.YtbocdhibimcobaaMem
namespace Go.Proofs.Ytbocdhibimcobaa
open Go.RowKit

theorem eqInts_cap {e1 e2 : TypeId} {b1 b2 : Nat} {A1 : Option Addr} {c1 c1' : Nat} {v2 : Value} {zs : List Int} {w : World} (hm : zs.length ≤ 1048576) (h1 : OwnInts w b1 e1 (.slice A1 zs.length c1') zs) (h2 : OwnInts w b2 e2 v2 zs) :
    Calls Try.prog 21 #[.slice A1 zs.length c1, v2] w fun e w' => e = .returned (.bool true) ∧ Below w.heap.size w w' := by
  obtain ⟨A2, c2, rfl⟩ := h2.len
  exact eqInts_sl A1 A2 c1 c2 zs w hm (IntSl.of_own h1) (IntSl.of_own h2)

set_option maxHeartbeats 400000 in
theorem markInts_cap (e0 : TypeId) (b n c c' : Nat) (A : Option Addr) (zs : List Int) (w : World) (k : Nat) (hk : k ≤ 8388608) (hn : n ≤ 1048576) (hz : zs.length = n) (h1 : w.ownsRow b e0 1 (.slice A n c') n (zs.map (Value.int .i64))) :
    Calls Try.prog 24 #[.slice A n c, .int .i64 k] w fun e w' => e = .returned (.int .i64 ((k + n : Nat) : Int)) ∧ w'.ownsRow b e0 1 (.slice A n c') n (marksI k n) ∧ w.grownBy w' (Value.slice A n c').ownBlock := by
  have hM : Marked w b e0 (.slice A n c') n k 0 w := ⟨_, h1, fun i hi => absurd hi (Nat.not_lt_zero _), fun i hi => ⟨_, getElem?_ints zs i (by omega)⟩, World.grownBy.refl _ _⟩
  rcases Nat.eq_zero_or_pos n with h0 | h0
  · subst h0
    have HA := Lib.hid hM.all
    clear h1 hM hz
    go_enter Try.func24, Try.ntmps24
    go_wp2
    refine wp_loop_rounds 1 ?_
    rw [rounds_succ]
    go_wp2
    go_ret
    exact ⟨rfl, HA.out⟩
  · obtain ⟨g1, c1, hv, -, hg1⟩ := own_some h1 h0
    injection hv with hA _ hc
    subst hA hc
    have HM := Lib.hid hM
    clear h1 hM hz
    go_enter Try.func24, Try.ntmps24
    go_wp2
    go_loopw [1, 5] (fun m i wr => ∃ j : Nat, j ≤ n ∧ i = .int .i64 j ∧ m = .int .i64 ((k + j : Nat) : Int) ∧ Marked w b e0 (.slice (some ⟨g1, 0, none⟩) n c') n k j wr) (fun _ i _ => n - (intOf i).toNat)
    case atStart => exact ⟨0, Nat.zero_le _, rfl, rfl, HM.out⟩
    case round =>
      obtain ⟨j, hj, rfl, rfl, hm⟩ := hrel
      by_cases hlt : j < n
      · obtain ⟨⟨u, hu⟩, hf⟩ := hm.cell hlt
        have HS := Lib.hid (hm.step hlt)
        clear hm
        go_wp2
        go_roundw
        case rel => exact ⟨j + 1, by omega, by go_num, by go_num, HS.out⟩
        case measure => simp [intOf]; omega
      · obtain rfl : j = n := by omega
        have HA := Lib.hid hm.all
        clear hm
        go_wp2
        go_ret
        exact ⟨rfl, HA.out⟩
set_option maxHeartbeats 400000 in
theorem heldInts_cap (e0 : TypeId) (b n c c' : Nat) (A : Option Addr) (w : World) (k : Nat) (hk : k ≤ 8388608) (hn : n ≤ 1048576) (h1 : w.ownsRow b e0 1 (.slice A n c') n (marksI k n)) :
    Calls Try.prog 25 #[.slice A n c, .int .i64 k] w fun e w' => e = .returned (.int .i64 ((k + n : Nat) : Int)) ∧ w = w' := by
  rcases Nat.eq_zero_or_pos n with h0 | h0
  · subst h0
    clear h1
    go_enter Try.func25, Try.ntmps25
    go_wp2
    refine wp_loop_rounds 1 ?_
    rw [rounds_succ]
    go_wp2
    go_ret
    exact ⟨rfl, rfl⟩
  · obtain ⟨g1, c1, hv, -, hg1⟩ := own_some h1 h0
    injection hv with hA _ hc
    subst hA hc
    have H1 : Hid (∀ j, j < n → w.cell? ⟨g1, j, none⟩ = some (.int .i64 ((k + j : Nat) : Int))) := Lib.hid fun j hj => by rw [h1.cellAt j (by omega), marksI_at k n j hj]
    clear h1
    go_enter Try.func25, Try.ntmps25
    go_wp2
    go_loop [1, 5] (fun m i => ∃ j : Nat, j ≤ n ∧ i = .int .i64 j ∧ m = .int .i64 ((k + j : Nat) : Int)) (fun _ i => n - (intOf i).toNat)
    case atStart => exact ⟨0, Nat.zero_le _, rfl, rfl⟩
    case round =>
      obtain ⟨j, hj, rfl, rfl⟩ := hrel
      by_cases hlt : j < n
      · have hc := H1.out j hlt
        go_wp2
        go_round
        case rel => exact ⟨j + 1, by omega, by go_num, by go_num⟩
        case measure => simp [intOf]; omega
      · obtain rfl : j = n := by omega
        go_wp2
        go_ret
        exact ⟨rfl, rfl⟩
end Go.Proofs.Ytbocdhibimcobaa
