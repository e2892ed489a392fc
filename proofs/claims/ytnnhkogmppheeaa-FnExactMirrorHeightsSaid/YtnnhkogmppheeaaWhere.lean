/- 'impl.boardsWhere': the boards that a closure picks. No condition but the number of boards. -/
import Derived.Test.YtnnhkogmppheeaaHeights
namespace Go.Proofs.Ytnnhkogmppheeaa
open Go.RowKit

/-- the indices below j that P picks -/
def pickJ (P : Nat → Bool) (j : Nat) : List Int := ((List.range j).filter P).map fun x : Nat => (x : Int)
theorem pickJ_len (P : Nat → Bool) (j : Nat) : (pickJ P j).length ≤ j := by
  unfold pickJ
  rw [List.length_map]
  have := List.length_filter_le P (List.range j)
  rwa [List.length_range] at this
theorem pickJ_yes {P : Nat → Bool} {j : Nat} (h : P j = true) : pickJ P (j + 1) = pickJ P j ++ [(j : Int)] := by
  unfold pickJ; rw [List.range_succ, List.filter_append, List.map_append]; simp [h]
theorem pickJ_no {P : Nat → Bool} {j : Nat} (h : P j = false) : pickJ P (j + 1) = pickJ P j := by
  unfold pickJ; rw [List.range_succ, List.filter_append, List.map_append]; simp [h]
theorem pickJ_congr {P Q : Nat → Bool} {j : Nat} (h : ∀ i, i < j → P i = Q i) : pickJ P j = pickJ Q j := by
  unfold pickJ; rw [List.filter_congr fun i hi => h i (List.mem_range.1 hi)]

set_option maxRecDepth 20000 in
set_option maxHeartbeats 2000000 in
theorem whereUnlike_any (b1 b2 n : Nat) (P : Nat → Bool) (w : World) (hn : n ≤ 300000)
    (hf : ∀ (i : Nat) (W : World), i < n → Below w.heap.size w W → Calls Try.prog 114 #[.int .i64 i, .pointer (some ⟨b1, 0, none⟩), .pointer (some ⟨b2, 0, none⟩)] W fun e w' => e = .returned (.bool (P i)) ∧ Below W.heap.size W w') :
    Calls Try.prog 83 #[.int .i64 n, .func (.func 114) #[] #[.pointer (some ⟨b1, 0, none⟩), .pointer (some ⟨b2, 0, none⟩)]] w fun e w' => ∃ v, e = .returned v ∧ OwnInts w' w.heap.size 3 v (pickJ P n) ∧ Below w.heap.size w w' := by
  obtain ⟨i0, hi, hz0, hz1, hz2⟩ := info_parts info_int
  have HF := Lib.hid hf
  clear hf
  go_enter Try.func83, Try.ntmps83
  go_wp2
  go_loopw [5, 8] (fun v i wr => ∃ k : Nat, k ≤ n ∧ i = .int .i64 k ∧ OwnInts wr w.heap.size 3 v (pickJ P k) ∧ Below w.heap.size w wr) (fun _ i _ => n - (intOf i).toNat)
  case atStart => exact ⟨0, Nat.zero_le _, rfl, OwnInts.nil _ _ _, Below.refl _ _⟩
  case round =>
    obtain ⟨k, hk, rfl, hown, hb⟩ := hrel
    have HO := Lib.hid hown
    clear hown
    by_cases hlt : k < n
    · have HC := Lib.hid (HF.out k wr hlt hb)
      have HB := Lib.hid hb
      cases hp : P k
      · have HN := Lib.hid (pickJ_no hp)
        rw [hp] at HC
        clear hp hb
        go_wp2_with fail
        refine HC.out.mono ?_
        rintro e w1 ⟨rfl, hb1⟩
        have HB1 := Lib.hid hb1
        clear hb1
        go_wp2
        go_roundw
        case rel => exact ⟨k + 1, by omega, by go_num, by rw [HN.out]; exact HO.out.below HB1.out, below_next HB.out HB1.out⟩
        case measure => simp [intOf]; omega
      · have HN := Lib.hid (pickJ_yes hp)
        have hlen := pickJ_len P k
        rw [hp] at HC
        clear hp hb
        go_wp2_with fail
        refine HC.out.mono ?_
        rintro e w1 ⟨rfl, hb1⟩
        have HO1 := Lib.hid (HO.out.below hb1)
        have HB1 := Lib.hid (below_next HB.out hb1)
        have hbs := HB1.out.size
        clear hb1 HO HB
        go_wp2_with (at_builtin; refine wpList_append_own _ rfl (.tmp 14) (.tmp 16) _ rfl w.heap.size 3 i0 _ 1 8 Try.underlying22 hi hz0 hz1 hz2 rfl (by decide) _ (pickJ P k).length ((pickJ P k).map (Value.int .i64)) rfl (World.ownsRow.alloc HO1.out _) ⟨_, 0, none⟩ 1 1 [.int .i64 (k)] rfl rfl (World.news_of_block (cs := #[.int .i64 (k)]) (t := 3) (fr := (0, 0)) (by first | exact heap_alloc_new _ _ | exact heap_new_set _ _ _ _ _)) (by simp [Value.oneCell']) (by unfold maxLen; omega) (by omega) (by simp; omega) ?_; intro v' w3 hown' hgrow _)
        have HR : Hid (OwnInts w3 w.heap.size 3 v' (pickJ P (k + 1))) := Lib.hid (by rw [HN.out]; exact OwnInts.snoc hown')
        have HB3 : Hid (Below w.heap.size w w3) := Lib.hid ((HB1.out.alloc hbs _).grown hgrow (by simp; omega) fun k hk => (World.ownsRow.lt HO1.out k hk).1)
        clear hown' hgrow
        go_wp2
        go_roundw
        case rel => exact ⟨k + 1, by omega, by go_num, HR.out, HB3.out⟩
        case measure => simp [intOf]; omega
    · obtain rfl : k = n := by omega
      go_wp2
      go_ret
      exact ⟨_, rfl, HO.out, hb⟩
set_option maxRecDepth 20000 in
set_option maxHeartbeats 2000000 in
theorem whereSeen_any (b1 b2 n : Nat) (P : Nat → Bool) (w : World) (hn : n ≤ 300000)
    (hf : ∀ (i : Nat) (W : World), i < n → Below w.heap.size w W → Calls Try.prog 101 #[.int .i64 i, .pointer (some ⟨b1, 0, none⟩), .pointer (some ⟨b2, 0, none⟩)] W fun e w' => e = .returned (.bool (P i)) ∧ Below W.heap.size W w') :
    Calls Try.prog 83 #[.int .i64 n, .func (.func 101) #[] #[.pointer (some ⟨b1, 0, none⟩), .pointer (some ⟨b2, 0, none⟩)]] w fun e w' => ∃ v, e = .returned v ∧ OwnInts w' w.heap.size 3 v (pickJ P n) ∧ Below w.heap.size w w' := by
  obtain ⟨i0, hi, hz0, hz1, hz2⟩ := info_parts info_int
  have HF := Lib.hid hf
  clear hf
  go_enter Try.func83, Try.ntmps83
  go_wp2
  go_loopw [5, 8] (fun v i wr => ∃ k : Nat, k ≤ n ∧ i = .int .i64 k ∧ OwnInts wr w.heap.size 3 v (pickJ P k) ∧ Below w.heap.size w wr) (fun _ i _ => n - (intOf i).toNat)
  case atStart => exact ⟨0, Nat.zero_le _, rfl, OwnInts.nil _ _ _, Below.refl _ _⟩
  case round =>
    obtain ⟨k, hk, rfl, hown, hb⟩ := hrel
    have HO := Lib.hid hown
    clear hown
    by_cases hlt : k < n
    · have HC := Lib.hid (HF.out k wr hlt hb)
      have HB := Lib.hid hb
      cases hp : P k
      · have HN := Lib.hid (pickJ_no hp)
        rw [hp] at HC
        clear hp hb
        go_wp2_with fail
        refine HC.out.mono ?_
        rintro e w1 ⟨rfl, hb1⟩
        have HB1 := Lib.hid hb1
        clear hb1
        go_wp2
        go_roundw
        case rel => exact ⟨k + 1, by omega, by go_num, by rw [HN.out]; exact HO.out.below HB1.out, below_next HB.out HB1.out⟩
        case measure => simp [intOf]; omega
      · have HN := Lib.hid (pickJ_yes hp)
        have hlen := pickJ_len P k
        rw [hp] at HC
        clear hp hb
        go_wp2_with fail
        refine HC.out.mono ?_
        rintro e w1 ⟨rfl, hb1⟩
        have HO1 := Lib.hid (HO.out.below hb1)
        have HB1 := Lib.hid (below_next HB.out hb1)
        have hbs := HB1.out.size
        clear hb1 HO HB
        go_wp2_with (at_builtin; refine wpList_append_own _ rfl (.tmp 14) (.tmp 16) _ rfl w.heap.size 3 i0 _ 1 8 Try.underlying22 hi hz0 hz1 hz2 rfl (by decide) _ (pickJ P k).length ((pickJ P k).map (Value.int .i64)) rfl (World.ownsRow.alloc HO1.out _) ⟨_, 0, none⟩ 1 1 [.int .i64 (k)] rfl rfl (World.news_of_block (cs := #[.int .i64 (k)]) (t := 3) (fr := (0, 0)) (by first | exact heap_alloc_new _ _ | exact heap_new_set _ _ _ _ _)) (by simp [Value.oneCell']) (by unfold maxLen; omega) (by omega) (by simp; omega) ?_; intro v' w3 hown' hgrow _)
        have HR : Hid (OwnInts w3 w.heap.size 3 v' (pickJ P (k + 1))) := Lib.hid (by rw [HN.out]; exact OwnInts.snoc hown')
        have HB3 : Hid (Below w.heap.size w w3) := Lib.hid ((HB1.out.alloc hbs _).grown hgrow (by simp; omega) fun k hk => (World.ownsRow.lt HO1.out k hk).1)
        clear hown' hgrow
        go_wp2
        go_roundw
        case rel => exact ⟨k + 1, by omega, by go_num, HR.out, HB3.out⟩
        case measure => simp [intOf]; omega
    · obtain rfl : k = n := by omega
      go_wp2
      go_ret
      exact ⟨_, rfl, HO.out, hb⟩
set_option maxRecDepth 20000 in
set_option maxHeartbeats 2000000 in
theorem whereLeft_any (b1 n : Nat) (P : Nat → Bool) (w : World) (hn : n ≤ 300000)
    (hf : ∀ (i : Nat) (W : World), i < n → Below w.heap.size w W → Calls Try.prog 103 #[.int .i64 i, .pointer (some ⟨b1, 0, none⟩)] W fun e w' => e = .returned (.bool (P i)) ∧ Below W.heap.size W w') :
    Calls Try.prog 83 #[.int .i64 n, .func (.func 103) #[] #[.pointer (some ⟨b1, 0, none⟩)]] w fun e w' => ∃ v, e = .returned v ∧ OwnInts w' w.heap.size 3 v (pickJ P n) ∧ Below w.heap.size w w' := by
  obtain ⟨i0, hi, hz0, hz1, hz2⟩ := info_parts info_int
  have HF := Lib.hid hf
  clear hf
  go_enter Try.func83, Try.ntmps83
  go_wp2
  go_loopw [5, 8] (fun v i wr => ∃ k : Nat, k ≤ n ∧ i = .int .i64 k ∧ OwnInts wr w.heap.size 3 v (pickJ P k) ∧ Below w.heap.size w wr) (fun _ i _ => n - (intOf i).toNat)
  case atStart => exact ⟨0, Nat.zero_le _, rfl, OwnInts.nil _ _ _, Below.refl _ _⟩
  case round =>
    obtain ⟨k, hk, rfl, hown, hb⟩ := hrel
    have HO := Lib.hid hown
    clear hown
    by_cases hlt : k < n
    · have HC := Lib.hid (HF.out k wr hlt hb)
      have HB := Lib.hid hb
      cases hp : P k
      · have HN := Lib.hid (pickJ_no hp)
        rw [hp] at HC
        clear hp hb
        go_wp2_with fail
        refine HC.out.mono ?_
        rintro e w1 ⟨rfl, hb1⟩
        have HB1 := Lib.hid hb1
        clear hb1
        go_wp2
        go_roundw
        case rel => exact ⟨k + 1, by omega, by go_num, by rw [HN.out]; exact HO.out.below HB1.out, below_next HB.out HB1.out⟩
        case measure => simp [intOf]; omega
      · have HN := Lib.hid (pickJ_yes hp)
        have hlen := pickJ_len P k
        rw [hp] at HC
        clear hp hb
        go_wp2_with fail
        refine HC.out.mono ?_
        rintro e w1 ⟨rfl, hb1⟩
        have HO1 := Lib.hid (HO.out.below hb1)
        have HB1 := Lib.hid (below_next HB.out hb1)
        have hbs := HB1.out.size
        clear hb1 HO HB
        go_wp2_with (at_builtin; refine wpList_append_own _ rfl (.tmp 14) (.tmp 16) _ rfl w.heap.size 3 i0 _ 1 8 Try.underlying22 hi hz0 hz1 hz2 rfl (by decide) _ (pickJ P k).length ((pickJ P k).map (Value.int .i64)) rfl (World.ownsRow.alloc HO1.out _) ⟨_, 0, none⟩ 1 1 [.int .i64 (k)] rfl rfl (World.news_of_block (cs := #[.int .i64 (k)]) (t := 3) (fr := (0, 0)) (by first | exact heap_alloc_new _ _ | exact heap_new_set _ _ _ _ _)) (by simp [Value.oneCell']) (by unfold maxLen; omega) (by omega) (by simp; omega) ?_; intro v' w3 hown' hgrow _)
        have HR : Hid (OwnInts w3 w.heap.size 3 v' (pickJ P (k + 1))) := Lib.hid (by rw [HN.out]; exact OwnInts.snoc hown')
        have HB3 : Hid (Below w.heap.size w w3) := Lib.hid ((HB1.out.alloc hbs _).grown hgrow (by simp; omega) fun k hk => (World.ownsRow.lt HO1.out k hk).1)
        clear hown' hgrow
        go_wp2
        go_roundw
        case rel => exact ⟨k + 1, by omega, by go_num, HR.out, HB3.out⟩
        case measure => simp [intOf]; omega
    · obtain rfl : k = n := by omega
      go_wp2
      go_ret
      exact ⟨_, rfl, HO.out, hb⟩
end Go.Proofs.Ytnnhkogmppheeaa
