/- Lists of numbers that the call itself has made: 'laws.eqIntS', 'markIntS', 'heldIntS'. No condition but the lists' lengths. -/
import Derived.Test.YtohmodjigneldaaPaint
namespace Go.Proofs.Ytohmodjigneldaa
open Go.RowKit

theorem info_int : (Try.prog.info? 3).map (fun i => (i.zero, i.size, i.bytes)) = some (some (.int .i64 0), 1, 8) := by kernel_rfl

section
variable {w w' : World} {base n size : Nat} {e : TypeId} {v : Value} {xs : List Value}
theorem own_any (h : w.ownsRow base e size v n xs) : ∃ A c, v = .slice A n c := by
  rcases h.2 with ⟨rfl, rfl⟩ | ⟨g, cap, _, rfl, _⟩
  · exact ⟨_, _, rfl⟩
  · exact ⟨_, _, rfl⟩
theorem own_some (h : w.ownsRow base e size v n xs) (hn : 0 < n) : ∃ g cap, v = .slice (some ⟨g, 0, none⟩) n cap ∧ base ≤ g ∧ g < w.heap.size := by
  rcases h.2 with ⟨rfl, h0⟩ | ⟨g, cap, cur, rfl, hb, hg, _⟩
  · omega
  · exact ⟨g, cap, rfl, hb, (Array.getElem?_eq_some_iff.1 hg).1⟩
theorem own_below (h : w.ownsRow base e size v n xs) (hb : Below w.heap.size w w') : w'.ownsRow base e size v n xs := by
  refine ⟨h.1, ?_⟩
  rcases h.2 with hn | ⟨g, cap, cur, rfl, h1, hg, rest⟩
  · exact .inl hn
  · refine .inr ⟨g, cap, cur, rfl, h1, ?_, rest⟩
    rw [hb.block g (Array.getElem?_eq_some_iff.1 hg).1]
    exact hg
theorem own_le (h : w.ownsRow base e size v n xs) : n ≤ maxLen := by
  rcases h.2 with ⟨_, rfl⟩ | ⟨g, cap, cur, rfl, h1, hg, h2, h3, _⟩
  · exact Nat.zero_le _
  · omega
end

theorem below_drewN {B : Nat} {a w : World} (h : Below B a w) (n : Nat) : Below B a (w.drewN n) := ⟨h.os, h.tape, h.output, h.size, h.block⟩
theorem getElem?_ints (zs : List Int) (k : Nat) (h : k < zs.length) : (zs.map (Value.int .i64))[k]? = some (.int .i64 zs[k]) := by
  rw [List.getElem?_map, List.getElem?_eq_getElem h]; rfl

set_option maxHeartbeats 400000 in
theorem eqInts_same (b1 b2 : Nat) (v1 v2 : Value) (zs : List Int) (w : World) (h1 : w.ownsRow b1 3 1 v1 zs.length (zs.map (Value.int .i64))) (h2 : w.ownsRow b2 3 1 v2 zs.length (zs.map (Value.int .i64))) :
    Calls Try.prog 18 #[v1, v2] w fun e w' => e = .returned (.bool true) ∧ Below w.heap.size w w' := by
  have hm := own_le h1
  unfold maxLen at hm
  rcases Nat.eq_zero_or_pos zs.length with h0 | h0
  · obtain ⟨A1, c1, rfl⟩ := own_any h1
    obtain ⟨A2, c2, rfl⟩ := own_any h2
    rw [h0]
    clear h1 h2 h0 hm
    go_enter Try.func18, Try.ntmps18
    go_wp2
    refine wp_loop_rounds 1 ?_
    rw [rounds_succ]
    go_wp2
    go_ret
    exact ⟨rfl, Below.refl _ _⟩
  · obtain ⟨g1, c1, rfl, -, hg1⟩ := own_some h1 h0
    obtain ⟨g2, c2, rfl, -, hg2⟩ := own_some h2 h0
    have H1 : Hid (∀ k (hk : k < zs.length), w.cell? ⟨g1, k, none⟩ = some (.int .i64 zs[k])) := Lib.hid fun k hk => by rw [h1.cellAt k (by omega), getElem?_ints zs k hk]
    have H2 : Hid (∀ k (hk : k < zs.length), w.cell? ⟨g2, k, none⟩ = some (.int .i64 zs[k])) := Lib.hid fun k hk => by rw [h2.cellAt k (by omega), getElem?_ints zs k hk]
    clear h1 h2
    go_enter Try.func18, Try.ntmps18
    go_wp2
    go_loopw [5] (fun i wr => ∃ k d : Nat, k ≤ zs.length ∧ i = .int .i64 k ∧ wr = w.drewN d) (fun i _ => zs.length - (intOf i).toNat)
    case atStart => exact ⟨0, 0, Nat.zero_le _, rfl, rfl⟩
    case round =>
      obtain ⟨k, d, hk, rfl, rfl⟩ := hrel
      by_cases hlt : k < zs.length
      · have e1 := H1.out k hlt
        have e2 := H2.out k hlt
        have hk0 : (0 : Int) ≤ (k : Int) := by omega
        have hk1 : (k : Int) < (zs.length : Int) := by omega
        go_wp2
        go_quiet (fail)
        go_wp2
        go_roundw
        case rel => exact ⟨k + 1, _, by omega, by go_num, rfl⟩
        case measure => simp [intOf]; omega
      · go_wp2
        go_ret
        exact ⟨rfl, below_drewN (Below.refl _ _) _⟩

/-- the marks k, k + 1, .. -/
def marksI (k n : Nat) : List Value := (List.range n).map fun i => Value.int .i64 ((k + i : Nat) : Int)
theorem marksI_at (k n j : Nat) (h : j < n) : (marksI k n)[j]? = some (.int .i64 ((k + j : Nat) : Int)) := by
  unfold marksI; rw [List.getElem?_map, List.getElem?_range h]; rfl
theorem marksI_of {k n : Nat} {ys : List Value} (hl : ys.length = n) (h : ∀ j, j < n → ys[j]? = some (.int .i64 ((k + j : Nat) : Int))) : ys = marksI k n := by
  apply List.ext_getElem?
  intro j
  by_cases hj : j < n
  · rw [h j hj, marksI_at k n j hj]
  · rw [List.getElem?_eq_none (by omega), List.getElem?_eq_none (by unfold marksI; simp; omega)]
/-- so far marked -/
def Marked (w : World) (base : Nat) (e : TypeId) (v : Value) (n k j : Nat) (wr : World) : Prop :=
  ∃ ys : List Value, wr.ownsRow base e 1 v n ys ∧ (∀ i, i < j → ys[i]? = some (.int .i64 ((k + i : Nat) : Int))) ∧ (∀ i, i < n → ∃ u, ys[i]? = some u) ∧ w.grownBy wr v.ownBlock
theorem grown_trans' {a b c : World} {r : Option Nat} (h : a.grownBy b r) (k : b.grownBy c r) : a.grownBy c r :=
  ⟨k.os.trans h.os, k.tape.trans h.tape, k.output.trans h.output, Nat.le_trans h.size k.size, fun i hi hn => (k.block i (Nat.lt_of_lt_of_le hi h.size) hn).trans (h.block i hi hn)⟩
theorem Marked.step {w wr : World} {base g cap n k j : Nat} {e : TypeId} (h : Marked w base e (.slice (some ⟨g, 0, none⟩) n cap) n k j wr) (hj : j < n) :
    Marked w base e (.slice (some ⟨g, 0, none⟩) n cap) n k (j + 1) (wr.setCell ⟨g, j, none⟩ (.int .i64 ((k + j : Nat) : Int))) := by
  obtain ⟨ys, ho, hm, hs, hg⟩ := h
  have hl : ys.length = n := by have := ho.1; omega
  obtain ⟨ho', hg'⟩ := ho.stored j (.int .i64 ((k + j : Nat) : Int))
  refine ⟨_, ho', fun i hi => ?_, fun i hi => ?_, grown_trans' hg hg'⟩
  · rw [List.getElem?_set]
    by_cases e : j = i
    · subst e; rw [if_pos rfl, if_pos (by omega)]
    · rw [if_neg e]; exact hm i (by omega)
  · rw [List.getElem?_set]
    by_cases e : j = i
    · subst e; rw [if_pos rfl, if_pos (by omega)]; exact ⟨_, rfl⟩
    · rw [if_neg e]; exact hs i hi
theorem Marked.cell {w wr : World} {base g cap n k j : Nat} {e : TypeId} (h : Marked w base e (.slice (some ⟨g, 0, none⟩) n cap) n k j wr) (hj : j < n) :
    (∃ u, wr.cell? ⟨g, j, none⟩ = some u) ∧ wr.frozen? ⟨g, j, none⟩ = false := by
  obtain ⟨ys, ho, hm, hs, hg⟩ := h
  obtain ⟨u, hu⟩ := hs j hj
  exact ⟨⟨u, by rw [ho.cellAt j (by omega), hu]⟩, ho.frozenAt j⟩
theorem Marked.all {w wr : World} {base n k : Nat} {v : Value} {e : TypeId} (h : Marked w base e v n k n wr) : wr.ownsRow base e 1 v n (marksI k n) ∧ w.grownBy wr v.ownBlock := by
  obtain ⟨ys, ho, hm, hs, hg⟩ := h
  have hl : ys.length = n := by have := ho.1; omega
  rw [marksI_of hl hm] at ho
  exact ⟨ho, hg⟩

set_option maxHeartbeats 400000 in
theorem markInts_any (b n : Nat) (v : Value) (zs : List Int) (w : World) (k : Nat) (hk : k ≤ 1048576) (hn : n ≤ 1048576) (hz : zs.length = n) (h1 : w.ownsRow b 3 1 v n (zs.map (Value.int .i64))) :
    Calls Try.prog 19 #[v, .int .i64 k] w fun e w' => e = .returned (.int .i64 ((k + n : Nat) : Int)) ∧ w'.ownsRow b 3 1 v n (marksI k n) ∧ w.grownBy w' v.ownBlock := by
  have hM : Marked w b 3 v n k 0 w := ⟨_, h1, fun i hi => absurd hi (Nat.not_lt_zero _), fun i hi => ⟨_, getElem?_ints zs i (by omega)⟩, World.grownBy.refl _ _⟩
  rcases Nat.eq_zero_or_pos n with h0 | h0
  · subst h0
    have HA := Lib.hid hM.all
    obtain ⟨A1, c1, rfl⟩ := own_any h1
    clear h1 hM hz
    go_enter Try.func19, Try.ntmps19
    go_wp2
    refine wp_loop_rounds 1 ?_
    rw [rounds_succ]
    go_wp2
    go_ret
    exact ⟨rfl, HA.out⟩
  · obtain ⟨g1, c1, rfl, -, hg1⟩ := own_some h1 h0
    have HM := Lib.hid hM
    clear h1 hM hz
    go_enter Try.func19, Try.ntmps19
    go_wp2
    go_loopw [1, 5] (fun m i wr => ∃ j : Nat, j ≤ n ∧ i = .int .i64 j ∧ m = .int .i64 ((k + j : Nat) : Int) ∧ Marked w b 3 (.slice (some ⟨g1, 0, none⟩) n c1) n k j wr) (fun _ i _ => n - (intOf i).toNat)
    case atStart => exact ⟨0, Nat.zero_le _, rfl, rfl, HM.out⟩
    case round =>
      obtain ⟨j, hj, rfl, rfl, hm⟩ := hrel
      by_cases hlt : j < n
      · obtain ⟨⟨u, hu⟩, hf⟩ := hm.cell hlt
        have HS := Lib.hid (hm.step hlt)
        clear hm
        go_wp2
        go_roundw
        case rel => exact ⟨j + 1, by omega, by go_num, by go_num, HS.out⟩
        case measure => simp [intOf]; omega
      · obtain rfl : j = n := by omega
        have HA := Lib.hid hm.all
        clear hm
        go_wp2
        go_ret
        exact ⟨rfl, HA.out⟩

set_option maxHeartbeats 400000 in
theorem heldInts_any (b n : Nat) (v : Value) (w : World) (k : Nat) (hk : k ≤ 1048576) (hn : n ≤ 1048576) (h1 : w.ownsRow b 3 1 v n (marksI k n)) :
    Calls Try.prog 20 #[v, .int .i64 k] w fun e w' => e = .returned (.int .i64 ((k + n : Nat) : Int)) ∧ w = w' := by
  rcases Nat.eq_zero_or_pos n with h0 | h0
  · subst h0
    obtain ⟨A1, c1, rfl⟩ := own_any h1
    clear h1
    go_enter Try.func20, Try.ntmps20
    go_wp2
    refine wp_loop_rounds 1 ?_
    rw [rounds_succ]
    go_wp2
    go_ret
    exact ⟨rfl, rfl⟩
  · obtain ⟨g1, c1, rfl, -, hg1⟩ := own_some h1 h0
    have H1 : Hid (∀ j, j < n → w.cell? ⟨g1, j, none⟩ = some (.int .i64 ((k + j : Nat) : Int))) := Lib.hid fun j hj => by rw [h1.cellAt j (by omega), marksI_at k n j hj]
    clear h1
    go_enter Try.func20, Try.ntmps20
    go_wp2
    go_loop [1, 5] (fun m i => ∃ j : Nat, j ≤ n ∧ i = .int .i64 j ∧ m = .int .i64 ((k + j : Nat) : Int)) (fun _ i => n - (intOf i).toNat)
    case atStart => exact ⟨0, Nat.zero_le _, rfl, rfl⟩
    case round =>
      obtain ⟨j, hj, rfl, rfl⟩ := hrel
      by_cases hlt : j < n
      · have hc := H1.out j hlt
        go_wp2
        go_round
        case rel => exact ⟨j + 1, by omega, by go_num, by go_num⟩
        case measure => simp [intOf]; omega
      · obtain rfl : j = n := by omega
        go_wp2
        go_ret
        exact ⟨rfl, rfl⟩
end Go.Proofs.Ytohmodjigneldaa
