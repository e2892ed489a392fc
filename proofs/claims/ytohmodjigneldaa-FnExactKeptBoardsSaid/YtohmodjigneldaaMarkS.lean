/- Lists of strokes that the call itself has made, written and read back: 'laws.markStrokeS', 'heldStrokeS'. No condition but the lists' lengths. -/
import Derived.Test.YtohmodjigneldaaMarkT
namespace Go.Proofs.Ytohmodjigneldaa
open Go.RowKit

def mkS (k i : Nat) : Strk := ⟨(k : Int) + 3 * (i : Int), (k : Int) + 3 * (i : Int) + 1, markB (k + 3 * i + 2)⟩
def marksS (k n : Nat) : List Strk := (List.range n).map (mkS k)
theorem marksS_len (k n : Nat) : (marksS k n).length = n := by simp [marksS]
theorem marksS_at (k n i : Nat) (h : i < (marksS k n).length) : (marksS k n)[i] = mkS k i := by simp [marksS]
theorem marksS_cells (k n i : Nat) (h : i < n) : (strkCells (marksS k n))[i * 3]? = some (.int .i64 ((k : Int) + 3 * (i : Int))) ∧ (strkCells (marksS k n))[i * 3 + 1]? = some (.int .i64 ((k : Int) + 3 * (i : Int) + 1)) ∧ (strkCells (marksS k n))[i * 3 + 2]? = some (.string (markB (k + 3 * i + 2))) := by
  have := strkCells_at (marksS k n) i (by rw [marksS_len]; exact h)
  rw [marksS_at] at this
  exact this

theorem grown_of_below {a w : World} (h : Below a.heap.size a w) (row : Option Nat) : a.grownBy w row := ⟨h.os, h.tape, h.output, h.size, fun i hi _ => h.block i hi⟩
/-- a row of the call's own whose first c cells have been written anew; nothing else has turned -/
def Part (w : World) (base : Nat) (e : TypeId) (size : Nat) (v : Value) (n : Nat) (xs : List Value) (c : Nat) (wr : World) : Prop :=
  ∃ ys : List Value, wr.ownsRow base e size v n ys ∧ (∀ i, i < c → ys[i]? = xs[i]?) ∧ w.grownBy wr v.ownBlock
section
variable {w wr wr' : World} {base size g cap n c : Nat} {e : TypeId} {v : Value} {xs : List Value}
theorem Part.step (h : Part w base e size (.slice (some ⟨g, 0, none⟩) n cap) n xs c wr) (hc : c < n * size) {u : Value} (hu : xs[c]? = some u) :
    Part w base e size (.slice (some ⟨g, 0, none⟩) n cap) n xs (c + 1) (wr.setCell ⟨g, c, none⟩ u) := by
  obtain ⟨ys, ho, hm, hg⟩ := h
  have hl : ys.length = n * size := ho.1
  obtain ⟨ho', hg'⟩ := ho.stored c u
  refine ⟨_, ho', fun i hi => ?_, grown_trans' hg hg'⟩
  rw [List.getElem?_set]
  by_cases e : c = i
  · subst e; rw [if_pos rfl, if_pos (by omega), hu]
  · rw [if_neg e]; exact hm i (by omega)
theorem Part.cell (h : Part w base e size (.slice (some ⟨g, 0, none⟩) n cap) n xs c wr) (j : Nat) (hj : j < n * size) :
    (∃ u, wr.cell? ⟨g, j, none⟩ = some u) ∧ wr.frozen? ⟨g, j, none⟩ = false := by
  obtain ⟨ys, ho, hm, hg⟩ := h
  have hl : ys.length = n * size := ho.1
  exact ⟨⟨_, by rw [ho.cellAt j hj]; exact List.getElem?_eq_getElem (by omega)⟩, ho.frozenAt j⟩
theorem Part.below (h : Part w base e size v n xs c wr) (hb : Below wr.heap.size wr wr') : Part w base e size v n xs c wr' := by
  obtain ⟨ys, ho, hm, hg⟩ := h
  exact ⟨ys, own_below ho hb, hm, grown_trans' hg (grown_of_below hb _)⟩
theorem Part.all (h : Part w base e size v n xs (n * size) wr) (hx : xs.length = n * size) : wr.ownsRow base e size v n xs ∧ w.grownBy wr v.ownBlock := by
  obtain ⟨ys, ho, hm, hg⟩ := h
  have hl : ys.length = n * size := ho.1
  have : ys = xs := List.ext_getElem? fun i => by
    by_cases hi : i < n * size
    · exact hm i hi
    · rw [List.getElem?_eq_none (by omega), List.getElem?_eq_none (by omega)]
  rw [this] at ho
  exact ⟨ho, hg⟩
end

set_option maxHeartbeats 1000000 in
theorem markStrokes_any (b n : Nat) (v : Value) (xs : List Value) (w : World) (k : Nat) (hk : k ≤ 100) (hn : n ≤ 1048576) (h1 : w.ownsRow b 45 3 v n xs) :
    Calls Try.prog 14 #[v, .int .i64 k] w fun e w' => e = .returned (.int .i64 ((k : Int) + 3 * (n : Int))) ∧ w'.ownsRow b 45 3 v n (strkCells (marksS k n)) ∧ w.grownBy w' v.ownBlock := by
  have hM : Part w b 45 3 v n (strkCells (marksS k n)) 0 w := ⟨_, h1, fun i hi => absurd hi (Nat.not_lt_zero _), World.grownBy.refl _ _⟩
  have hlen : (strkCells (marksS k n)).length = n * 3 := by rw [strkCells_len, marksS_len]
  rcases Nat.eq_zero_or_pos n with h0 | h0
  · subst h0
    have HA := Lib.hid (hM.all hlen)
    obtain ⟨A1, c1, rfl⟩ := own_any h1
    clear h1 hM hlen
    go_enter Try.func14, Try.ntmps14
    go_wp2
    refine wp_loop_rounds 1 ?_
    rw [rounds_succ]
    go_wp2
    go_ret
    exact ⟨rfl, HA.out⟩
  · obtain ⟨g1, c1, rfl, -, hg1⟩ := own_some h1 h0
    have HM := Lib.hid hM
    have HL := Lib.hid hlen
    clear h1 hM hlen
    go_enter Try.func14, Try.ntmps14
    go_wp2
    go_loopw [1, 5] (fun m i wr => ∃ j : Nat, j ≤ n ∧ i = .int .i64 j ∧ m = .int .i64 ((k : Int) + 3 * (j : Int)) ∧ Part w b 45 3 (.slice (some ⟨g1, 0, none⟩) n c1) n (strkCells (marksS k n)) (j * 3) wr) (fun _ i _ => n - (intOf i).toNat)
    case atStart => exact ⟨0, Nat.zero_le _, rfl, rfl, HM.out⟩
    case round =>
      clear HM
      obtain ⟨j, hj, rfl, rfl, hm⟩ := hrel
      have HP := Lib.hid hm
      clear hm
      by_cases hlt : j < n
      · obtain ⟨⟨u1, d1⟩, f1⟩ := HP.out.cell (j * 3) (by omega)
        obtain ⟨⟨u2, d2⟩, f2⟩ := HP.out.cell (j * 3 + 1) (by omega)
        obtain ⟨k1, k2, k3⟩ := marksS_cells k n j hlt
        have HP2 := Lib.hid ((HP.out.step (by omega) k1).step (by omega) k2)
        have HK3 := Lib.hid k3
        clear k1 k2 k3
        have hcall : Hid (∀ W, Calls Try.prog 34 #[.int .i64 ((k : Int) + 3 * (j : Int) + 1 + 1)] W fun e w' => e = .returned (.string (markB (k + 3 * j + 2))) ∧ Below W.heap.size W w') := Lib.hid fun W => markText_any (k + 3 * j + 2) W (by omega)
        go_wp2_with (go_at_call 34; refine (hcall.out _).mono ?_; rintro e w2 ⟨rfl, hb2⟩; have HP3 := Lib.hid (HP2.out.below hb2); obtain ⟨⟨u3, d3⟩, f3⟩ := HP3.out.cell (j * 3 + 2) (by omega))
        go_roundw
        case rel => exact ⟨j + 1, by omega, by go_num, by go_num, by rw [show (j + 1) * 3 = j * 3 + 1 + 1 + 1 by omega]; exact HP3.out.step (by omega) HK3.out⟩
        case measure => simp [intOf]; omega
      · obtain rfl : j = n := by omega
        have HA := Lib.hid (HP.out.all HL.out)
        go_wp2
        go_ret
        exact ⟨rfl, HA.out⟩

set_option maxHeartbeats 1000000 in
theorem heldStrokes_any (b n : Nat) (v : Value) (w : World) (k : Nat) (hk : k ≤ 100) (hn : n ≤ 1048576) (h1 : w.ownsRow b 45 3 v n (strkCells (marksS k n))) :
    Calls Try.prog 15 #[v, .int .i64 k] w fun e w' => e = .returned (.int .i64 ((k : Int) + 3 * (n : Int))) ∧ Below w.heap.size w w' := by
  rcases Nat.eq_zero_or_pos n with h0 | h0
  · subst h0
    obtain ⟨A1, c1, rfl⟩ := own_any h1
    clear h1
    go_enter Try.func15, Try.ntmps15
    go_wp2
    refine wp_loop_rounds 1 ?_
    rw [rounds_succ]
    go_wp2
    go_ret
    exact ⟨by simp, Below.refl _ _⟩
  · obtain ⟨g1, c1, rfl, -, hg1⟩ := own_some h1 h0
    have H1 : Hid (∀ j, j < n → w.cell? ⟨g1, j * 3, none⟩ = some (.int .i64 ((k : Int) + 3 * (j : Int))) ∧ w.cell? ⟨g1, j * 3 + 1, none⟩ = some (.int .i64 ((k : Int) + 3 * (j : Int) + 1)) ∧ w.cell? ⟨g1, j * 3 + 2, none⟩ = some (.string (markB (k + 3 * j + 2)))) := Lib.hid fun j hj => by
      obtain ⟨k1, k2, k3⟩ := marksS_cells k n j hj
      exact ⟨by rw [h1.cellAt _ (by omega), k1], by rw [h1.cellAt _ (by omega), k2], by rw [h1.cellAt _ (by omega), k3]⟩
    clear h1
    go_enter Try.func15, Try.ntmps15
    go_wp2
    go_loopw [1, 5] (fun m i wr => ∃ j : Nat, j ≤ n ∧ i = .int .i64 j ∧ m = .int .i64 ((k : Int) + 3 * (j : Int)) ∧ Below w.heap.size w wr) (fun _ i _ => n - (intOf i).toNat)
    case atStart => exact ⟨0, Nat.zero_le _, rfl, by simp, Below.refl _ _⟩
    case round =>
      obtain ⟨j, hj, rfl, rfl, hb⟩ := hrel
      by_cases hlt : j < n
      · obtain ⟨c1, c2, c3⟩ := H1.out j hlt
        have d1 := (hb.cell (p := ⟨g1, j * 3, none⟩) hg1).trans c1
        have d2 := (hb.cell (p := ⟨g1, j * 3 + 1, none⟩) hg1).trans c2
        have d3 := (hb.cell (p := ⟨g1, j * 3 + 2, none⟩) hg1).trans c3
        clear c1 c2 c3
        have hcall : Hid (∀ W, Calls Try.prog 34 #[.int .i64 ((k : Int) + 3 * (j : Int) + 1 + 1)] W fun e w' => e = .returned (.string (markB (k + 3 * j + 2))) ∧ Below W.heap.size W w') := Lib.hid fun W => markText_any (k + 3 * j + 2) W (by omega)
        have l1 : g1 < wr.heap.size := Nat.lt_of_lt_of_le hg1 hb.size
        have j0 : (0 : Int) ≤ (j : Int) := by omega
        have j1 : (j : Int) < (n : Int) := by omega
        go_wp2
        go_region_held3 (fun x => x.cell? ⟨g1, j * 3 + 2, none⟩ = some (.string (markB (k + 3 * j + 2))))
          (first | go_keep | exact (hcc g1 _ l1).trans d3)
          (first | (go_at_call 34; refine (hcall.out _).mono ?_; rintro e w1 ⟨rfl, hb1⟩; obtain ⟨hcc, hff⟩ := bcell hb1))
        go_wp2
        go_roundw
        case rel => exact ⟨j + 1, by omega, by go_num, by go_num, hb.trans (below_next (Below.refl _ _).drew hb1 |>.mono hb.size)⟩
        case measure => simp [intOf]; omega
      · obtain rfl : j = n := by omega
        go_wp2
        go_ret
        exact ⟨rfl, hb⟩
end Go.Proofs.Ytohmodjigneldaa
