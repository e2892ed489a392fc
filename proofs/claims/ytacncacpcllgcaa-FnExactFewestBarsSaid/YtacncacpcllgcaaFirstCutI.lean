/- FirstCut of the program: the least number of bars that is long enough in all. No condition but the lists' lengths. -/
import Derived.Test.YtacncacpcllgcaaFirstCutP
import Derived.Test.YtacncacpcllgcaaFewLaws
import Derived.Test.YtacncacpcllgcaaSum0
namespace Go.Proofs.Ytacncacpcllgcaa
open Go.RowKit

set_option maxHeartbeats 1000000 in
theorem enough_any (g2 : Nat) (A0 : Option Addr) (c0 : Nat) (L : List Int) (A : Option Addr) (c : Nat) (R : List Int) (w : World) (hL : L.length ≤ 8) (hR : R.length ≤ 8) (hl : ∀ x ∈ L, 0 ≤ x ∧ x ≤ 1000) (hr : ∀ x ∈ R, 0 ≤ x ∧ x ≤ 1000) (k2 : w.cell? ⟨g2, 0, none⟩ = some (.slice A0 L.length c0)) (h0 : IntSl w A0 L) (h1 : IntSl w A R) :
    Calls Try.prog 97 #[.slice A R.length c, .pointer (some ⟨g2, 0, none⟩)] w fun e w' => e = .returned (.bool (decide (L.sum ≤ R.sum))) ∧ ∃ d, w' = w.drewN d := by
  have HSL : Hid (∀ n, Calls Try.prog 98 #[.slice A0 L.length c0] (w.drewN n) fun e w' => e = .returned (.int .i64 L.sum) ∧ w' = w.drewN n) := Lib.hid fun n =>
    (sumOf_any A0 c0 L 1000 (w.drewN n) (by omega) (by decide) (by omega) hl (h0.below (drewN_below w n))).mono fun _ _ h => ⟨h.1, h.2.symm⟩
  have HSR : Hid (∀ n, Calls Try.prog 98 #[.slice A R.length c] (w.drewN n) fun e w' => e = .returned (.int .i64 R.sum) ∧ w' = w.drewN n) := Lib.hid fun n =>
    (sumOf_any A c R 1000 (w.drewN n) (by omega) (by decide) (by omega) hr (h1.below (drewN_below w n))).mono fun _ _ h => ⟨h.1, h.2.symm⟩
  clear h0 h1 hl hr hL hR
  go_enter Try.func97, Try.ntmps97
  go_wp2
  go_quiet (first
    | (go_at_call 98; with_reducible exact Calls.quiet_of_same (HSR.out _))
    | (go_at_call 98; with_reducible exact Calls.quiet_of_same (HSL.out _)))
  go_wp2
  go_ret
  exact ⟨rfl, _, rfl⟩
theorem fewR_at {L : List Int} {bar : Int} : ∀ {b : Nat}, 1 ≤ b → b ≤ L.length → (∀ q, 1 ≤ q → q < b → cutM L (List.replicate q bar) = none) → fewR L bar = fewM L bar (L.length - b) b
  | 0, h, _, _ => by omega
  | 1, _, _, _ => rfl
  | b + 2, _, h2, h3 => by
    rw [fewR_at (b := b + 1) (by omega) (by omega) fun q h4 h5 => h3 q h4 (by omega), fewM_none (by omega) (h3 (b + 1) (by omega) (by omega))]
theorem rowL_rep (bar : Int) (b : Nat) : rowL (fun _ => bar) b = List.replicate b bar := by
  unfold rowL
  rw [List.map_const', List.length_range]
theorem rep_sum (bar : Int) : ∀ b : Nat, (List.replicate b bar).sum = (b : Int) * bar
  | 0 => by simp
  | b + 1 => by rw [List.replicate_succ, List.sum_cons, rep_sum bar b, Int.natCast_add, Int.add_mul]; simp [Int.add_comm]
theorem short_none {L : List Int} {bar : Int} (hb : 0 ≤ bar) {b : Nat} (h : ¬ L.sum ≤ (List.replicate b bar).sum) : cutM L (List.replicate b bar) = none :=
  cutM_none.2 fun hc => h (canM_sum (fun y hy => by rw [List.eq_of_mem_replicate hy]; exact hb) hc)
theorem sum_all {L : List Int} {bar : Int} (h : ∀ x ∈ L, x ≤ bar) : L.sum ≤ (List.replicate L.length bar).sum := by
  induction L with
  | nil => exact Int.le_refl _
  | cons x L ih =>
    rw [List.length_cons, List.replicate_succ, List.sum_cons, List.sum_cons]
    have := ih fun z hz => h z (List.mem_cons_of_mem _ hz)
    have := h x (List.mem_cons_self ..)
    omega
theorem cut_full {L : List Int} {bar : Int} (hx : ∀ x ∈ L, x ≤ bar) (h1 : 1 ≤ L.length) (h3 : ∀ q, 1 ≤ q → q < L.length → cutM L (List.replicate q bar) = none) : cutM L (List.replicate L.length bar) = some (upFrom 0 L.length) := by
  refine cutM_own bar L [] hx fun hne => ?_
  rw [List.nil_append]
  rcases Nat.eq_zero_or_pos (L.length - 1) with h | h
  · rw [h]
    cases L with
    | nil => exact absurd rfl hne
    | cons x R =>
      intro ⟨y, M, p, _⟩
      have := p.length_eq
      simp at this
  · exact cutM_none.1 (h3 _ h (by omega))
end Go.Proofs.Ytacncacpcllgcaa
