/- slices.Index and slices.Contains of numbers: the first place. No condition but the list's length. -/
import Derived.Test.YtbocdhibimcobaaGateMath
namespace Go.Proofs.Ytbocdhibimcobaa
open Go.RowKit

/-- the first place of a number, or -1 -/
def idxZ (R : List Int) (b : Int) : Int := if b ∈ R then (R.idxOf b : Int) else -1
theorem idxZ_no {R : List Int} {b : Int} (h : ¬ b ∈ R) : idxZ R b = -1 := by unfold idxZ; rw [if_neg h]
theorem idxZ_yes {R : List Int} {b : Int} (h : b ∈ R) : idxZ R b = (R.idxOf b : Int) := by unfold idxZ; rw [if_pos h]
theorem idxZ_hit {R : List Int} {k : Nat} (hk : k < R.length) (hn : R[k] ∉ R.take k) : idxZ R R[k] = (k : Int) := by
  rw [idxZ_yes (List.getElem_mem hk), idxOf_at hk hn rfl]
theorem idxZ_nonneg (R : List Int) (b : Int) : (0 ≤ idxZ R b) ↔ b ∈ R := by
  unfold idxZ
  split
  · next h => exact ⟨fun _ => h, fun _ => by omega⟩
  · next h => exact ⟨fun h2 => absurd h2 (by decide), fun h2 => absurd h2 h⟩

set_option maxHeartbeats 1000000 in
theorem slIdx_any (A : Option Addr) (c : Nat) (R : List Int) (b : Int) (w : World) (hm : R.length ≤ 1048576) (h : IntSl w A R) :
    Calls Try.prog 65 #[.slice A R.length c, .int .i64 b] w fun e w' => e = .returned (.int .i64 (idxZ R b)) ∧ w = w' := by
  rcases Nat.eq_zero_or_pos R.length with h0 | h0
  · obtain rfl : R = [] := List.eq_nil_of_length_eq_zero h0
    clear h h0 hm
    go_enter Try.func65, Try.ntmps65
    go_wp2
    refine wp_loop_rounds 1 ?_
    rw [rounds_succ]
    go_wp2
    go_ret
    exact ⟨rfl, rfl⟩
  · obtain ⟨g, off, rfl, -, hat⟩ := h.some h0
    have HAT := Lib.hid hat
    clear hat h
    go_enter Try.func65, Try.ntmps65
    go_wp2
    go_loop [5, 8] (fun _ i => ∃ k : Nat, k ≤ R.length ∧ i = .int .i64 k ∧ Hid (b ∉ R.take k)) (fun _ i => R.length - (intOf i).toNat)
    case atStart => exact ⟨0, Nat.zero_le _, rfl, Lib.hid (by simp)⟩
    case round =>
      obtain ⟨k, hk, rfl, HN⟩ := hrel
      by_cases hlt : k < R.length
      · have c1 := HAT.out k hlt
        have HT : Hid (b ≠ R[k] → b ∉ R.take (k + 1)) := Lib.hid fun hne => by
          rw [List.take_succ_eq_append_getElem hlt, List.mem_append, List.mem_singleton]
          exact fun h => h.elim HN.out hne
        have HV0 : Hid (b = R[k] → idxZ R b = (k : Int)) := Lib.hid fun he => by
          have hn := HN.out
          subst he
          exact idxZ_hit hlt hn
        obtain ⟨x, hx⟩ : ∃ x, x = R[k] := ⟨_, rfl⟩
        rw [← hx] at c1 HT HV0
        have hk0 : (0 : Int) ≤ (k : Int) := by omega
        clear hx
        by_cases he : b = x
        · have HV := Lib.hid (HV0.out he)
          have hb : (b == x) = true := by rw [beq_iff_eq]; exact he
          subst he
          clear hb HV0
          go_wp2
          go_ret
          exact ⟨ret_int HV.out.symm, rfl⟩
        · have hb : (b == x) = false := by rw [beq_eq_false_iff_ne]; exact he
          have HV := Lib.hid (HT.out he)
          clear he HT HV0
          go_wp2
          go_round
          case rel => exact ⟨k + 1, by omega, by go_num, HV⟩
          case measure => simp [intOf]; omega
      · obtain rfl : k = R.length := by omega
        rw [List.take_length] at HN
        have HV := Lib.hid (idxZ_no HN.out)
        go_wp2
        go_ret
        exact ⟨ret_int HV.out.symm, rfl⟩
theorem hasInt_any (A : Option Addr) (c : Nat) (R : List Int) (b : Int) (w : World) (hm : R.length ≤ 1048576) (h : IntSl w A R) :
    Calls Try.prog 55 #[.slice A R.length c, .int .i64 b] w fun e w' => e = .returned (.bool (decide (b ∈ R))) ∧ w = w' := by
  have HI := Lib.hid (slIdx_any A c R b w hm h)
  have HX := Lib.hid (idxZ_nonneg R b)
  obtain ⟨x, hx⟩ : ∃ x, x = idxZ R b := ⟨_, rfl⟩
  rw [← hx] at HI HX
  clear hx
  go_enter Try.func55, Try.ntmps55
  go_wp2_with fail
  refine HI.out.mono ?_
  rintro e w1 ⟨rfl, rfl⟩
  clear HI
  go_wp2
  go_ret
  exact ⟨ret_bool (decide_eq_decide.2 HX.out), rfl⟩
end Go.Proofs.Ytbocdhibimcobaa
