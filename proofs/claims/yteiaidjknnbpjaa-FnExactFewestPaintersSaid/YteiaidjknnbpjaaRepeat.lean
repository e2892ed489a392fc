/- slices.Repeat of one number, and slices.DeleteFunc of a row of the call's own. No condition but the lengths. -/
import Derived.Test.YteiaidjknnbpjaaHandOut
import Derived.Test.YteiaidjknnbpjaaShelf
import Derived.Laws.CopyOwn
namespace Go.Proofs.Yteiaidjknnbpjaa
open Go.RowKit

theorem own_cells {w : World} {base n : Nat} {e : TypeId} {v : Value} {xs : List Value} (h : w.ownsRow base e 1 v n xs) (hn : 0 < n) : ∃ g cap cur, v = .slice (some ⟨g, 0, none⟩) n cap ∧ base ≤ g ∧ w.heap[g]? = some (.cells cur e (0, 0)) ∧ n ≤ cap ∧ cap ≤ maxLen ∧ cur.size = cap ∧ cur.toList.take n = xs := by
  rcases h.2 with ⟨rfl, h0⟩ | ⟨g, cap, cur, h1, h2, h3, h4, h5, h6, h7⟩
  · omega
  · exact ⟨g, cap, cur, h1, h2, h3, h4, h5, by omega, by rw [Nat.mul_one] at h7; exact h7⟩

theorem full_cells {w : World} {base g n : Nat} {e : TypeId} {xs : List Value} (h : w.ownsRow base e 1 (.slice (some ⟨g, 0, none⟩) n n) n xs) : w.heap[g]? = some (.cells xs.toArray e (0, 0)) := by
  have hl := h.1
  rcases h.2 with ⟨hv, h0⟩ | ⟨g', cap, cur, hv, h2, h3, h4, h5, h6, h7⟩
  · cases hv
  · injection hv with a b c
    injection a with a
    injection a with a
    subst a c
    rw [h3]
    have : cur = xs.toArray := by
      rw [← h7]
      apply Array.ext'
      rw [List.take_of_length_le (by rw [Array.length_toList]; omega)]
    rw [this]
theorem cells_full {w : World} {base g n : Nat} {e : TypeId} {xs : List Value} (hb : base ≤ g) (hn : n ≤ maxLen) (hl : xs.length = n) (h : w.heap[g]? = some (.cells xs.toArray e (0, 0))) : w.ownsRow base e 1 (.slice (some ⟨g, 0, none⟩) n n) n xs := by
  refine ⟨by omega, .inr ⟨g, n, xs.toArray, rfl, hb, h, Nat.le_refl _, hn, by simp [hl], ?_⟩⟩
  rw [Nat.mul_one, ← hl]
  simp
/-- a row of k copies of x with zeros behind them -/
def repL (n k : Nat) (x : Int) : List Value := List.replicate k (.int .i64 x) ++ List.replicate (n - k) (.int .i64 0)
theorem repL_len {n k : Nat} {x : Int} (h : k ≤ n) : (repL n k x).length = n := by simp [repL]; omega
theorem repL_splice {n k m : Nat} {x : Int} (h : k + m ≤ n) : splice (repL n k x) k (List.replicate m (.int .i64 x)) = repL n (k + m) x := by
  unfold splice repL
  rw [List.take_append_of_le_length (by simp), List.take_of_length_le (by simp), List.length_replicate, List.drop_append, List.drop_of_length_le (by simp), List.nil_append, List.length_replicate, List.drop_replicate, ← List.append_assoc, List.replicate_append_replicate]
  congr 2
  omega
theorem rep_cell {W : World} {g n k j : Nat} {x : Int} {e : TypeId} (h : W.heap[g]? = some (.cells (repL n k x).toArray e (0, 0))) (hj : j < k) : W.drew.cell? ((⟨g, 0, none⟩ : Addr).add j) = some (.int .i64 x) := by
  have e1 : (⟨g, 0, none⟩ : Addr).add j = ⟨g, j, none⟩ := by
    unfold Addr.add
    split
    · next h0 => subst h0; rfl
    · simp
  rw [e1]
  show W.cell? ⟨g, j, none⟩ = _
  rw [cell_of_row W g j _ e (0, 0) h]
  unfold repL
  simp only [List.getElem?_toArray]
  rw [List.getElem?_append_left (by simpa using hj), List.getElem?_replicate, if_pos hj]
theorem size_int : (Try.prog.info? 3).map (·.size) = some 1 := by kernel_rfl
theorem sub_lt {g c k : Nat} (h : k < c) : subA (some ⟨g, 0, none⟩) k c = some ⟨g, k, none⟩ := by
  unfold subA
  rw [if_neg (by omega), Nat.mul_one]
  show some ((⟨g, 0, none⟩ : Addr).add k) = _
  unfold Addr.add
  split
  · next h0 => subst h0; rfl
  · simp

theorem made_cells {w : World} {base g n : Nat} {e : TypeId} (h : w.ownsRow base e 1 (.slice (some ⟨g, 0, none⟩) n n) n (madeCells (Value.int .i64 0).cells (n * 1)).toList) (x : Int) : w.heap[g]? = some (.cells (repL n 0 x).toArray e (0, 0)) := by
  have em : (madeCells (Value.int .i64 0).cells (n * 1)).toList = repL n 0 x := by
    rw [Nat.mul_one, show (Value.int .i64 0).cells = #[Value.int .i64 0] from rfl, toList_madeCells_one]
    rfl
  rw [em] at h
  exact full_cells h

set_option maxRecDepth 20000 in
set_option maxHeartbeats 2000000 in
theorem slRepeat_any (A : Option Addr) (c : Nat) (x : Int) (n : Nat) (w : World) (h1 : 1 ≤ n) (hn : n ≤ 1048576) (h : IntSl w A [x]) :
    Calls Try.prog 114 #[.slice A 1 c, .int .i64 n] w fun e w' => e = .returned (.slice (some ⟨w.heap.size, 0, none⟩) n n) ∧ OwnInts w' w.heap.size 3 (.slice (some ⟨w.heap.size, 0, none⟩) n n) (List.replicate n x) ∧ Below w.heap.size w w' := by
  obtain ⟨i0, hi, hz0, hz1, hz2⟩ := info_parts info_int
  obtain ⟨g0, o0, rfl, hg0, hat⟩ := h.some (by simp)
  have HC0 : Hid (∀ W, Below w.heap.size w W → W.cell? ⟨g0, o0, none⟩ = some (.int .i64 x)) := Lib.hid fun W hW => hat.below hW hg0 0 (by simp)
  have HM : Hid (∀ W, Calls Try.prog 131 #[.int .u64 1, .int .u64 n] W fun e w' => e = .returned (.tuple #[.int .u64 0, .int .u64 n]) ∧ W = w') := Lib.hid fun W => by
    have := Try.bits_Mul 1 n (by omega) (by omega) W
    rw [Nat.one_mul, Nat.div_eq_of_lt (by omega), Nat.mod_eq_of_lt (by omega)] at this
    exact this.mono fun _ _ h => ⟨h.1, h.2.symm⟩
  clear hat h
  go_enter Try.func114, Try.ntmps114
  go_wp2_with (first
    | (go_at_call 131; refine (HM.out _).mono ?_; rintro e w1 ⟨rfl, rfl⟩)
    | (at_make; refine wpList_make_full _ rfl (.tmp 29) (.tmp 29) _ rfl w.heap.size 3 i0 _ 1 Try.underlying24 hi hz0 hz1 .i64 .i64 _ _ n rfl rfl rfl rfl (by rw [hz2]; omega) (by unfold maxLen; omega) (Nat.le_refl _) ?_; intro w1 hown hgrow; have HG0 := Lib.hid (made_cells hown x); have HB0 := Lib.hid ((Below.refl w.heap.size w).grown hgrow (Nat.le_refl _) (fun k hk => by cases hk)); clear hown hgrow)
    | (refine wpList_copy_splice (by rfl) (.tmp 31) (.tmp 32) _ _ (by rfl) 3 Try.underlying24 size_int _ _ _ _ _ _ (by rfl) (by rfl) w.heap.size 0 (repL n 0 x) 3 HG0.out (List.replicate 1 (.int .i64 x)) (by rw [List.length_replicate]; show 1 = min 1 n; omega) (fun _ => ⟨rfl, _, rfl, fun j v hv => by have hj := (List.getElem?_eq_some_iff.1 hv).1; simp at hj; subst hj; simp at hv; rw [← hv]; exact HC0.out _ HB0.out⟩) (by rw [repL_len (Nat.zero_le _)]; simp; omega) (by simp [Value.oneCell']) w.heap.size w HB0.out (Nat.le_refl _) ?_; intro w2 hg hb2; rw [repL_splice (by omega)] at hg))
  have HB2 := Lib.hid hb2
  clear HB0 HG0 hb2 HC0
  go_loopw [8] (fun u wr => ∃ k : Nat, 1 ≤ k ∧ k ≤ n ∧ u = .int .i64 k ∧ Hid (wr.heap[w.heap.size]? = some (.cells (repL n k x).toArray 3 (0, 0))) ∧ Below w.heap.size w wr) (fun u _ => n - (intOf u).toNat)
  case atStart => exact ⟨1, Nat.le_refl _, h1, rfl, hg, HB2.out⟩
  case round =>
    clear hg HB2
    obtain ⟨k, hk1, hkn, rfl, hg, hb⟩ := hrel
    have HB := Lib.hid hb
    clear hb
    by_cases hlt : k < n
    · have h3 := fun W => cut_l (some ⟨w.heap.size, 0, none⟩) n n k hkn W
      rw [sub_lt hlt] at h3
      have h8 := fun W => cut_h (some ⟨w.heap.size, 0, none⟩) n n k hkn W
      obtain ⟨m, hm, hm2⟩ : ∃ m, m = min k (n - k) ∧ 1 ≤ m := ⟨_, rfl, by omega⟩
      have HM2 := Lib.hid hm
      have hmn : k + m ≤ n := by omega
      have hwr : IntKind.i64.wrap ((k : Int) + (m : Int)) = (k : Int) + (m : Int) := wrap_small _ (by omega) (by omega)
      clear hm
      go_wp2
      go_region_held3 (fun _ => True) (trivial) (first
        | (refine step_copy_splice (by rfl) (.tmp 41) (.tmp 44) _ _ (by rfl) 3 Try.underlying24 size_int _ _ _ _ _ _ (by rfl) (by rfl) w.heap.size k (repL n k x) 3 hg.out (List.replicate m (.int .i64 x)) (by rw [List.length_replicate]; exact HM2.out) (fun _ => ⟨rfl, _, rfl, fun j v hv => by have hj := (List.getElem?_eq_some_iff.1 hv).1; rw [List.length_replicate] at hj; rw [List.getElem?_replicate, if_pos hj] at hv; injection hv with hv; rw [← hv]; exact rep_cell hg.out (Nat.lt_of_lt_of_le hj (by have := HM2.out; omega))⟩) (by rw [repL_len hkn]; simp; omega) (by simp [Value.oneCell']) w.heap.size w HB.out.drew (Nat.le_refl _) ?_; intro w2 hg2 hb2; rw [repL_splice hmn] at hg2))
      go_wp2
      go_roundw
      case rel => exact ⟨k + m, by omega, hmn, by rw [Int.natCast_add], hg2, hb2⟩
      case measure => simp [intOf]; omega
    · obtain rfl : k = n := by omega
      have HV : Hid (OwnInts wr w.heap.size 3 (.slice (some ⟨w.heap.size, 0, none⟩) k k) (List.replicate k x)) := Lib.hid (by
        unfold OwnInts
        rw [List.length_replicate, List.map_replicate]
        refine cells_full (Nat.le_refl _) (by unfold maxLen; omega) (by simp) ?_
        rw [hg.out]
        unfold repL
        rw [Nat.sub_self, List.replicate_zero, List.append_nil])
      go_wp2
      go_ret
      exact ⟨rfl, HV.out, HB.out⟩
end Go.Proofs.Yteiaidjknnbpjaa
