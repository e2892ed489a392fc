/- slices.Grow and slices.Concat of two lists of stretches. No condition but the lengths. -/
import Derived.Test.YtfickmbfbmbjcaaSound
import Derived.Lib.AppendZerosOnto
namespace Go.Proofs.Ytfickmbfbmbjcaa
open Go.RowKit

theorem under_st : Try.prog.underlying 69 = some (.slice 65) := by kernel_rfl
theorem under_int : Try.prog.underlying 3 = some (.int .i64) := by kernel_rfl
theorem pair_one (P : List (Nat × Nat)) : ∀ u ∈ pairC P, u.oneCell' = true := by
  intro u hu
  unfold pairC at hu
  obtain ⟨x, _, hx⟩ := List.mem_flatMap.1 hu
  simp only [List.mem_cons, List.not_mem_nil, or_false] at hx
  rcases hx with rfl | rfl <;> rfl
theorem pairC_app (P Q : List (Nat × Nat)) : pairC (P ++ Q) = pairC P ++ pairC Q := by unfold pairC; rw [List.flatMap_append]
theorem OwnP.app {w : World} {base : Nat} {v : Value} {P Q : List (Nat × Nat)} (h : w.ownsRow base 65 2 v (P.length + Q.length) (pairC P ++ pairC Q)) : OwnP w base v (P ++ Q) := by
  unfold OwnP
  rw [List.length_append, pairC_app]
  exact h

set_option maxRecDepth 100000 in
set_option maxHeartbeats 4000000 in
theorem growNil_any (n : Nat) (w : World) (hn : n ≤ 1000) :
    Calls Try.prog 127 #[.slice none 0 0, .int .i64 n] w fun e w' => ∃ A c, e = .returned (.slice A 0 c) ∧ OwnP w' w.heap.size (.slice A 0 c) [] ∧ Below w.heap.size w w' := by
  rcases Nat.eq_zero_or_pos n with h0 | h0
  · subst h0
    go_enter Try.func127, Try.ntmps127
    go_wp2
    go_ret
    exact ⟨none, 0, rfl, OwnP.nil _ _, Below.refl _ _⟩
  · obtain ⟨i0, hi, hz0, hz1, hz2⟩ := info_parts info_st
    have hold : (Builtin.firstCells i0.size 0 (.slice none 0 0)).run Try.prog w.drew = .ok ([] : List Value).toArray w.drew := run_firstCells_none w.drew i0.size 0 0 0
    have hrz : ∀ ty, (Builtin.append_ #[69, 3] ty #[.slice none 0 0, .int .i64 (n : Int)]).run Try.prog w = _ := fun ty =>
      Go.Lib.run_append_grow_zeros w 69 3 ty 65 i0 _ .i64 .i64 under_st under_int hi hz0 none 0 0 [] hold n h0 (by rw [hz1]; decide) (by omega) (by omega) (by rw [hz2]; omega)
        (growslice_fits (by omega) (by rw [hz2]; omega))
    have hG1 : 0 + n ≤ grownCap w (0 + n) 0 65 := grownCap_ge w _ _ _
    have hG2 : grownCap w (0 + n) 0 65 ≤ maxLen := grownCap_le_maxLen w (0 + n) 0 65 (by unfold maxLen; omega)
    obtain ⟨G, hG⟩ : ∃ G, G = grownCap w (0 + n) 0 65 := ⟨_, rfl⟩
    rw [← hG] at hrz hG1 hG2
    obtain ⟨cs, hcs⟩ : ∃ cs, cs = ([] : List Value).toArray ++ Builtin.zeroCells (Value.agg #[.int .i64 0, .int .i64 0]).cells n ++ Builtin.zeroCells (Value.agg #[.int .i64 0, .int .i64 0]).cells (G - (0 + n)) := ⟨_, rfl⟩
    rw [← hcs] at hrz
    have hcz : cs.size = G * 2 := by
      rw [hcs, Array.size_append, Array.size_append, size_zeroCells, size_zeroCells]
      show 0 + n * 2 + (G - (0 + n)) * 2 = G * 2
      omega
    have hG3 : G ≤ 9223372036854775807 := by unfold maxLen at hG2; omega
    have HW : Hid (OwnP (w.drew.alloc (.cells cs 65)) w.heap.size (.slice (some ⟨w.heap.size, 0, none⟩) 0 G) []) := Lib.hid ⟨rfl, .inr ⟨w.heap.size, G, cs, rfl, Nat.le_refl _, heap_alloc_new w.drew _, Nat.zero_le _, hG2, hcz, by simp [pairC]⟩⟩
    have HB : Hid (Below w.heap.size w (w.drew.alloc (.cells cs 65))) := Lib.hid ((Below.refl w.heap.size w).drew.alloc (Nat.le_refl _) _)
    clear hold hG hcs hcz hG2
    go_enter Try.func127, Try.ntmps127
    go_wp2_with (at_builtin; refine Go.Lib.wpList_append_run _ rfl _ _ _ _ rfl _ _ rfl rfl _ _ (hrz _) ?_)
    go_ret
    exact ⟨_, _, rfl, HW.out, HB.out⟩
end Go.Proofs.Ytfickmbfbmbjcaa
