/- As in Ints, but the block may be of any type (a slice of an array). -/
import Derived.Test.YtohmodjigneldaaNeedless3
namespace Go.Proofs.Ytohmodjigneldaa
open Go.RowKit

set_option maxHeartbeats 400000 in
theorem eqIntsE_same (e1 e2 : TypeId) (b1 b2 : Nat) (v1 v2 : Value) (zs : List Int) (w : World) (h1 : w.ownsRow b1 e1 1 v1 zs.length (zs.map (Value.int .i64))) (h2 : w.ownsRow b2 e2 1 v2 zs.length (zs.map (Value.int .i64))) :
    Calls Try.prog 18 #[v1, v2] w fun e w' => e = .returned (.bool true) ∧ Below w.heap.size w w' := by
  have hm := own_le h1
  unfold maxLen at hm
  rcases Nat.eq_zero_or_pos zs.length with h0 | h0
  · obtain ⟨A1, c1, rfl⟩ := own_any h1
    obtain ⟨A2, c2, rfl⟩ := own_any h2
    rw [h0]
    clear h1 h2 h0 hm
    go_enter Try.func18, Try.ntmps18
    go_wp2
    refine wp_loop_rounds 1 ?_
    rw [rounds_succ]
    go_wp2
    go_ret
    exact ⟨rfl, Below.refl _ _⟩
  · obtain ⟨g1, c1, rfl, -, hg1⟩ := own_some h1 h0
    obtain ⟨g2, c2, rfl, -, hg2⟩ := own_some h2 h0
    have H1 : Hid (∀ k (hk : k < zs.length), w.cell? ⟨g1, k, none⟩ = some (.int .i64 zs[k])) := Lib.hid fun k hk => by rw [h1.cellAt k (by omega), getElem?_ints zs k hk]
    have H2 : Hid (∀ k (hk : k < zs.length), w.cell? ⟨g2, k, none⟩ = some (.int .i64 zs[k])) := Lib.hid fun k hk => by rw [h2.cellAt k (by omega), getElem?_ints zs k hk]
    clear h1 h2
    go_enter Try.func18, Try.ntmps18
    go_wp2
    go_loopw [5] (fun i wr => ∃ k d : Nat, k ≤ zs.length ∧ i = .int .i64 k ∧ wr = w.drewN d) (fun i _ => zs.length - (intOf i).toNat)
    case atStart => exact ⟨0, 0, Nat.zero_le _, rfl, rfl⟩
    case round =>
      obtain ⟨k, d, hk, rfl, rfl⟩ := hrel
      by_cases hlt : k < zs.length
      · have e1 := H1.out k hlt
        have e2 := H2.out k hlt
        have hk0 : (0 : Int) ≤ (k : Int) := by omega
        have hk1 : (k : Int) < (zs.length : Int) := by omega
        go_wp2
        go_quiet (fail)
        go_wp2
        go_roundw
        case rel => exact ⟨k + 1, _, by omega, by go_num, rfl⟩
        case measure => simp [intOf]; omega
      · go_wp2
        go_ret
        exact ⟨rfl, below_drewN (Below.refl _ _) _⟩

set_option maxHeartbeats 400000 in
theorem markIntsE_any (e0 : TypeId) (b n : Nat) (v : Value) (zs : List Int) (w : World) (k : Nat) (hk : k ≤ 1048576) (hn : n ≤ 1048576) (hz : zs.length = n) (h1 : w.ownsRow b e0 1 v n (zs.map (Value.int .i64))) :
    Calls Try.prog 19 #[v, .int .i64 k] w fun e w' => e = .returned (.int .i64 ((k + n : Nat) : Int)) ∧ w'.ownsRow b e0 1 v n (marksI k n) ∧ w.grownBy w' v.ownBlock := by
  have hM : Marked w b e0 v n k 0 w := ⟨_, h1, fun i hi => absurd hi (Nat.not_lt_zero _), fun i hi => ⟨_, getElem?_ints zs i (by omega)⟩, World.grownBy.refl _ _⟩
  rcases Nat.eq_zero_or_pos n with h0 | h0
  · subst h0
    have HA := Lib.hid hM.all
    obtain ⟨A1, c1, rfl⟩ := own_any h1
    clear h1 hM hz
    go_enter Try.func19, Try.ntmps19
    go_wp2
    refine wp_loop_rounds 1 ?_
    rw [rounds_succ]
    go_wp2
    go_ret
    exact ⟨rfl, HA.out⟩
  · obtain ⟨g1, c1, rfl, -, hg1⟩ := own_some h1 h0
    have HM := Lib.hid hM
    clear h1 hM hz
    go_enter Try.func19, Try.ntmps19
    go_wp2
    go_loopw [1, 5] (fun m i wr => ∃ j : Nat, j ≤ n ∧ i = .int .i64 j ∧ m = .int .i64 ((k + j : Nat) : Int) ∧ Marked w b e0 (.slice (some ⟨g1, 0, none⟩) n c1) n k j wr) (fun _ i _ => n - (intOf i).toNat)
    case atStart => exact ⟨0, Nat.zero_le _, rfl, rfl, HM.out⟩
    case round =>
      obtain ⟨j, hj, rfl, rfl, hm⟩ := hrel
      by_cases hlt : j < n
      · obtain ⟨⟨u, hu⟩, hf⟩ := hm.cell hlt
        have HS := Lib.hid (hm.step hlt)
        clear hm
        go_wp2
        go_roundw
        case rel => exact ⟨j + 1, by omega, by go_num, by go_num, HS.out⟩
        case measure => simp [intOf]; omega
      · obtain rfl : j = n := by omega
        have HA := Lib.hid hm.all
        clear hm
        go_wp2
        go_ret
        exact ⟨rfl, HA.out⟩

set_option maxHeartbeats 400000 in
theorem heldIntsE_any (e0 : TypeId) (b n : Nat) (v : Value) (w : World) (k : Nat) (hk : k ≤ 1048576) (hn : n ≤ 1048576) (h1 : w.ownsRow b e0 1 v n (marksI k n)) :
    Calls Try.prog 20 #[v, .int .i64 k] w fun e w' => e = .returned (.int .i64 ((k + n : Nat) : Int)) ∧ w = w' := by
  rcases Nat.eq_zero_or_pos n with h0 | h0
  · subst h0
    obtain ⟨A1, c1, rfl⟩ := own_any h1
    clear h1
    go_enter Try.func20, Try.ntmps20
    go_wp2
    refine wp_loop_rounds 1 ?_
    rw [rounds_succ]
    go_wp2
    go_ret
    exact ⟨rfl, rfl⟩
  · obtain ⟨g1, c1, rfl, -, hg1⟩ := own_some h1 h0
    have H1 : Hid (∀ j, j < n → w.cell? ⟨g1, j, none⟩ = some (.int .i64 ((k + j : Nat) : Int))) := Lib.hid fun j hj => by rw [h1.cellAt j (by omega), marksI_at k n j hj]
    clear h1
    go_enter Try.func20, Try.ntmps20
    go_wp2
    go_loop [1, 5] (fun m i => ∃ j : Nat, j ≤ n ∧ i = .int .i64 j ∧ m = .int .i64 ((k + j : Nat) : Int)) (fun _ i => n - (intOf i).toNat)
    case atStart => exact ⟨0, Nat.zero_le _, rfl, rfl⟩
    case round =>
      obtain ⟨j, hj, rfl, rfl⟩ := hrel
      by_cases hlt : j < n
      · have hc := H1.out j hlt
        go_wp2
        go_round
        case rel => exact ⟨j + 1, by omega, by go_num, by go_num⟩
        case measure => simp [intOf]; omega
      · obtain rfl : j = n := by omega
        go_wp2
        go_ret
        exact ⟨rfl, rfl⟩
end Go.Proofs.Ytohmodjigneldaa
