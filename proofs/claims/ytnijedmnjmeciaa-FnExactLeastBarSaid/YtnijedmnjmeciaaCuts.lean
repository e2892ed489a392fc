/- RestsOfCut of the program. No condition but the lists' lengths. -/
import Derived.Test.YtnijedmnjmeciaaCutMath
import Derived.StillTailTactics
namespace Go.Proofs.Ytnijedmnjmeciaa
open Go.RowKit

set_option maxHeartbeats 1000000 in
theorem slIndex_any (A : Option Addr) (c : Nat) (R : List Int) (b : Int) (w : World) (hm : R.length ≤ 1048576) (h : IntSl w A R) :
    Calls Try.prog 26 #[.slice A R.length c, .int .i64 b] w fun e w' => (∃ x : Int, e = .returned (.int .i64 x) ∧ (0 ≤ x ↔ b ∈ R)) ∧ w = w' := by
  rcases Nat.eq_zero_or_pos R.length with h0 | h0
  · obtain rfl : R = [] := List.eq_nil_of_length_eq_zero h0
    clear h h0 hm
    go_enter Try.func26, Try.ntmps26
    go_wp2
    refine wp_loop_rounds 1 ?_
    rw [rounds_succ]
    go_wp2
    go_ret
    exact ⟨⟨-1, rfl, by simp⟩, rfl⟩
  · obtain ⟨g, off, rfl, -, hat⟩ := h.some h0
    have HAT := Lib.hid hat
    clear hat h
    go_enter Try.func26, Try.ntmps26
    go_wp2
    go_loop [5, 8] (fun _ i => ∃ k : Nat, k ≤ R.length ∧ i = .int .i64 k ∧ Hid (b ∉ R.take k)) (fun _ i => R.length - (intOf i).toNat)
    case atStart => exact ⟨0, Nat.zero_le _, rfl, Lib.hid (by simp)⟩
    case round =>
      obtain ⟨k, hk, rfl, HN⟩ := hrel
      by_cases hlt : k < R.length
      · have c1 := HAT.out k hlt
        have HM : Hid (R[k] ∈ R) := Lib.hid (List.getElem_mem hlt)
        have HT : Hid (b ≠ R[k] → b ∉ R.take (k + 1)) := Lib.hid fun hne => by
          rw [List.take_succ_eq_append_getElem hlt, List.mem_append, List.mem_singleton]
          exact fun h => h.elim HN.out hne
        obtain ⟨x, hx⟩ : ∃ x, x = R[k] := ⟨_, rfl⟩
        rw [← hx] at c1 HM HT
        have hk0 : (0 : Int) ≤ (k : Int) := by omega
        clear hx
        by_cases he : b = x
        · have hb : (b == x) = true := by rw [beq_iff_eq]; exact he
          have HV : Hid (0 ≤ (k : Int) ↔ b ∈ R) := Lib.hid ⟨fun _ => by rw [he]; exact HM.out, fun _ => hk0⟩
          have HB := Lib.hid hb
          subst he
          clear hb
          go_wp2
          go_ret
          exact ⟨⟨_, rfl, HV.out⟩, rfl⟩
        · have hb : (b == x) = false := by rw [beq_eq_false_iff_ne]; exact he
          have HV := Lib.hid (HT.out he)
          clear he HT HM
          go_wp2
          go_round
          case rel => exact ⟨k + 1, by omega, by go_num, HV⟩
          case measure => simp [intOf]; omega
      · obtain rfl : k = R.length := by omega
        rw [List.take_length] at HN
        go_wp2
        go_ret
        exact ⟨⟨-1, rfl, ⟨fun h => absurd h (by decide), fun h => absurd h HN.out⟩⟩, rfl⟩
theorem contains_any (A : Option Addr) (c : Nat) (R : List Int) (b : Int) (w : World) (hm : R.length ≤ 1048576) (h : IntSl w A R) :
    Calls Try.prog 22 #[.slice A R.length c, .int .i64 b] w fun e w' => e = .returned (.bool (decide (b ∈ R))) ∧ w = w' := by
  have HI := Lib.hid (slIndex_any A c R b w hm h)
  go_enter Try.func22, Try.ntmps22
  go_wp2_with fail
  refine HI.out.mono ?_
  rintro e w1 ⟨⟨x, rfl, hx⟩, rfl⟩
  have HX := Lib.hid hx
  clear hx HI
  go_wp2
  go_ret
  exact ⟨ret_bool (decide_eq_decide.2 HX.out), rfl⟩
theorem restA_lit (F : Nat → Int) : restA F = #[.int .i64 (F 0), .int .i64 (F 1), .int .i64 (F 2), .int .i64 (F 3), .int .i64 (F 4), .int .i64 (F 5), .int .i64 (F 6), .int .i64 (F 7)] := rfl

end Go.Proofs.Ytnijedmnjmeciaa
