/- slices.Grow and slices.Concat of two lists of numbers. No condition but the lengths. -/
import Derived.Test.YtbocdhibimcobaaNums
import Derived.Lib.AppendZerosOnto
namespace Go.Proofs.Ytbocdhibimcobaa
open Go.RowKit

theorem sl_cells {w : World} {ad : Addr} {L : List Int} (h : IntSl w (some ad) L) (j : Nat) (u : Value) (hu : (L.map (Value.int .i64))[j]? = some u) : w.cell? (ad.add j) = some u := by
  have hj : j < L.length := by have := (List.getElem?_eq_some_iff.1 hu).1; simpa using this
  obtain ⟨g, off, e, hg, hat⟩ := h.some (by omega)
  obtain rfl := Option.some.inj e
  rw [getElem?_ints L j hj] at hu
  obtain rfl := Option.some.inj hu
  rw [show (⟨g, off, none⟩ : Addr).add j = ⟨g, off + j, none⟩ by simp [Addr.add]]
  exact hat j hj
theorem own_app {w : World} {base : Nat} {v : Value} {P Q : List Int} (h : w.ownsRow base 3 1 v (P.length + Q.length) (P.map (Value.int .i64) ++ Q.map (Value.int .i64))) : OwnInts w base 3 v (P ++ Q) := by
  unfold OwnInts
  rw [List.length_append, List.map_append]
  exact h
theorem ints_one (P : List Int) : ∀ u ∈ P.map (Value.int .i64), u.oneCell' = true := by
  intro u hu
  obtain ⟨x, _, rfl⟩ := List.mem_map.1 hu
  rfl

set_option maxRecDepth 100000 in
set_option maxHeartbeats 4000000 in
theorem growNilI_any (n : Nat) (w : World) (hn : n ≤ 1000) :
    Calls Try.prog 90 #[.slice none 0 0, .int .i64 n] w fun e w' => ∃ A c, e = .returned (.slice A 0 c) ∧ OwnInts w' w.heap.size 3 (.slice A 0 c) [] ∧ Below w.heap.size w w' := by
  rcases Nat.eq_zero_or_pos n with h0 | h0
  · subst h0
    go_enter Try.func90, Try.ntmps90
    go_wp2
    go_ret
    exact ⟨none, 0, rfl, OwnInts.nil _ _ _, Below.refl _ _⟩
  · obtain ⟨i0, hi, hz0, hz1, hz2⟩ := info_parts info_int
    have hold : (Builtin.firstCells i0.size 0 (.slice none 0 0)).run Try.prog w.drew = .ok ([] : List Value).toArray w.drew := run_firstCells_none w.drew i0.size 0 0 0
    have hrz : ∀ ty, (Builtin.append_ #[22, 3] ty #[.slice none 0 0, .int .i64 (n : Int)]).run Try.prog w = _ := fun ty =>
      Go.Lib.run_append_grow_zeros w 22 3 ty 3 i0 _ .i64 .i64 Try.underlying22 Try.underlying3 hi hz0 none 0 0 [] hold n h0 (by rw [hz1]; decide) (by omega) (by omega) (by rw [hz2]; omega)
        (growslice_fits (by omega) (by rw [hz2]; omega))
    have hG1 : 0 + n ≤ grownCap w (0 + n) 0 3 := grownCap_ge w _ _ _
    have hG2 : grownCap w (0 + n) 0 3 ≤ maxLen := grownCap_le_maxLen w (0 + n) 0 3 (by unfold maxLen; omega)
    obtain ⟨G, hG⟩ : ∃ G, G = grownCap w (0 + n) 0 3 := ⟨_, rfl⟩
    rw [← hG] at hrz hG1 hG2
    obtain ⟨cs, hcs⟩ : ∃ cs, cs = ([] : List Value).toArray ++ Builtin.zeroCells (Value.int .i64 0).cells n ++ Builtin.zeroCells (Value.int .i64 0).cells (G - (0 + n)) := ⟨_, rfl⟩
    rw [← hcs] at hrz
    have hcz : cs.size = G * 1 := by
      rw [hcs, Array.size_append, Array.size_append, size_zeroCells, size_zeroCells]
      show 0 + n * 1 + (G - (0 + n)) * 1 = G * 1
      omega
    have hG3 : G ≤ 9223372036854775807 := by unfold maxLen at hG2; omega
    have HW : Hid (OwnInts (w.drew.alloc (.cells cs 3)) w.heap.size 3 (.slice (some ⟨w.heap.size, 0, none⟩) 0 G) []) := Lib.hid ⟨rfl, .inr ⟨w.heap.size, G, cs, rfl, Nat.le_refl _, heap_alloc_new w.drew _, Nat.zero_le _, hG2, hcz, by simp⟩⟩
    have HB : Hid (Below w.heap.size w (w.drew.alloc (.cells cs 3))) := Lib.hid ((Below.refl w.heap.size w).drew.alloc (Nat.le_refl _) _)
    clear hold hG hcs hcz hG2
    go_enter Try.func90, Try.ntmps90
    go_wp2_with (at_builtin; refine Go.Lib.wpList_append_run _ rfl _ _ _ _ rfl _ _ rfl rfl _ _ (hrz _) ?_)
    go_ret
    exact ⟨_, _, rfl, HW.out, HB.out⟩

/-- what is laid behind so many of two lists -/
def cat2I (P Q : List Int) : Nat → List Int
  | 0 => []
  | 1 => P
  | _ => P ++ Q
set_option maxRecDepth 100000 in
set_option maxHeartbeats 4000000 in
theorem concatI_any (gb : Nat) (ad1 ad2 : Addr) (c1 c2 : Nat) (P1 P2 : List Int) (w : World) (hl1 : P1.length ≤ 100) (hl2 : P2.length ≤ 100) (hgb : gb < w.heap.size)
    (k0 : w.cell? ⟨gb, 0, none⟩ = some (.slice (some ad1) P1.length c1)) (k1 : w.cell? ⟨gb, 1, none⟩ = some (.slice (some ad2) P2.length c2))
    (h1 : ∀ W, Below w.heap.size w W → ∀ j u, (P1.map (Value.int .i64))[j]? = some u → W.cell? (ad1.add j) = some u) (h2 : ∀ W, Below w.heap.size w W → ∀ j u, (P2.map (Value.int .i64))[j]? = some u → W.cell? (ad2.add j) = some u) :
    Calls Try.prog 81 #[.slice (some ⟨gb, 0, none⟩) 2 2] w fun e w' => ∃ v, e = .returned v ∧ OwnInts w' w.heap.size 3 v (P1 ++ P2) ∧ Below w.heap.size w w' := by
  obtain ⟨i0, hi, hz0, hz1, hz2⟩ := info_parts info_int
  have H1 := Lib.hid h1
  have H2 := Lib.hid h2
  have HG := Lib.hid fun W => growNilI_any (P1.length + P2.length) W (by omega)
  have hpl1 : Hid ((P1.map (Value.int .i64)).length = P1.length * 1) := Lib.hid (by simp)
  have hpl2 : Hid ((P2.map (Value.int .i64)).length = P2.length * 1) := Lib.hid (by simp)
  have K0 := Lib.hid k0
  have K1 := Lib.hid k1
  clear h1 h2
  go_enter Try.func81, Try.ntmps81
  go_wp2
  go_loop [3, 11] (fun s i => ∃ j : Nat, j ≤ 2 ∧ i = .int .i64 j ∧ s = .int .i64 ((if j = 0 then 0 else if j = 1 then P1.length else P1.length + P2.length : Nat) : Int)) (fun _ i => 2 - (intOf i).toNat)
  case atStart => exact ⟨0, Nat.zero_le _, rfl, rfl⟩
  case round =>
    obtain ⟨j, hj, rfl, rfl⟩ := hrel
    rcases (show j = 0 ∨ j = 1 ∨ j = 2 by omega) with rfl | rfl | rfl
    · rw [if_pos rfl]
      go_wp2
      go_round
      case rel => exact ⟨1, by omega, rfl, by rw [if_neg (by decide), if_pos rfl]⟩
      case measure => simp [intOf]
    · rw [if_neg (by decide), if_pos rfl]
      go_wp2
      go_round
      case rel => exact ⟨2, by omega, rfl, by rw [if_neg (by decide), if_neg (by decide)]; go_num⟩
      case measure => simp [intOf]
    · rw [if_neg (by decide), if_neg (by decide)]
      have HG' := Lib.hid (HG.out w)
      rw [Int.natCast_add] at HG'
      rw [Int.natCast_add]
      go_wp2_with fail
      refine HG'.out.mono ?_
      rintro e w1 ⟨A, c, rfl, ho, hb⟩
      have HO := Lib.hid ho
      have HB := Lib.hid hb
      clear ho hb HG HG'
      go_wp2
      go_loopw [6, 27] (fun v i wr => ∃ j : Nat, j ≤ 2 ∧ i = .int .i64 j ∧ OwnInts wr w.heap.size 3 v (cat2I P1 P2 j) ∧ Below w.heap.size w wr) (fun _ i _ => 2 - (intOf i).toNat)
      case atStart => exact ⟨0, Nat.zero_le _, rfl, HO.out, HB.out⟩
      case round =>
        clear HO HB
        obtain ⟨j, hj, rfl, ho, hb⟩ := hrel
        have hbs := hb.size
        rcases (show j = 0 ∨ j = 1 ∨ j = 2 by omega) with rfl | rfl | rfl
        · change OwnInts wr w.heap.size _ _ [] at ho
          have HO := Lib.hid ho
          have HB := Lib.hid hb
          have y0 := K0.out
          rw [← (bcell hb).1 gb 0 hgb] at y0
          clear ho hb k0 k1
          go_wp2_with (at_builtin; refine wpList_append_own _ rfl (.tmp 31) (.tmp 32) _ rfl w.heap.size 3 i0 _ 1 8 Try.underlying22 hi hz0 hz1 hz2 rfl (by decide) _ 0 [] rfl HO.out ad1 P1.length c1 (P1.map (Value.int .i64)) rfl hpl1.out (H1.out _ HB.out) (ints_one P1) (by unfold maxLen; omega) (by omega) hbs ?_; intro v' w3 hown' hgrow _)
          have HR : Hid (OwnInts w3 w.heap.size 3 v' (cat2I P1 P2 (0 + 1))) := Lib.hid (by
            have h : w3.ownsRow w.heap.size 3 1 v' (([] : List Int).length + P1.length) (([] : List Int).map (Value.int .i64) ++ P1.map (Value.int .i64)) := hown'
            show OwnInts _ _ _ _ ([] ++ P1)
            exact own_app h)
          have HB3 : Hid (Below w.heap.size w w3) := Lib.hid (HB.out.grown hgrow hbs fun k hk => (World.ownsRow.lt HO.out k hk).1)
          clear hown' hgrow
          go_wp2
          go_roundw
          case rel => exact ⟨0 + 1, by omega, rfl, HR.out, HB3.out⟩
          case measure => simp [intOf]
        · change OwnInts wr w.heap.size _ _ P1 at ho
          have HO := Lib.hid ho
          have HB := Lib.hid hb
          have y0 := K1.out
          rw [← (bcell hb).1 gb 1 hgb] at y0
          clear ho hb k0 k1
          go_wp2_with (at_builtin; refine wpList_append_own _ rfl (.tmp 31) (.tmp 32) _ rfl w.heap.size 3 i0 _ 1 8 Try.underlying22 hi hz0 hz1 hz2 rfl (by decide) _ P1.length (P1.map (Value.int .i64)) rfl HO.out ad2 P2.length c2 (P2.map (Value.int .i64)) rfl hpl2.out (H2.out _ HB.out) (ints_one P2) (by unfold maxLen; omega) (by omega) hbs ?_; intro v' w3 hown' hgrow _)
          have HR : Hid (OwnInts w3 w.heap.size 3 v' (cat2I P1 P2 2)) := Lib.hid (by show OwnInts _ _ _ _ (P1 ++ P2); exact own_app hown')
          have HB3 : Hid (Below w.heap.size w w3) := Lib.hid (HB.out.grown hgrow hbs fun k hk => (World.ownsRow.lt HO.out k hk).1)
          clear hown' hgrow
          go_wp2
          go_roundw
          case rel => exact ⟨2, by omega, rfl, HR.out, HB3.out⟩
          case measure => simp [intOf]
        · change OwnInts wr w.heap.size _ _ (P1 ++ P2) at ho
          have HO := Lib.hid ho
          have HB := Lib.hid hb
          clear ho hb
          go_wp2
          go_ret
          exact ⟨_, rfl, HO.out, HB.out⟩
end Go.Proofs.Ytbocdhibimcobaa
