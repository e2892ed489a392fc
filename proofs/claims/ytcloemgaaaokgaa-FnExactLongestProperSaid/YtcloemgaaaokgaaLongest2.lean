/- LongestProper: the two functions, and the law's walk. No condition but the text's length. -/
import Derived.Test.YtcloemgaaaokgaaLongest
namespace Go.Proofs.Ytcloemgaaaokgaa
open Go.RowKit

theorem extract_list (s : ByteArray) (a b : Nat) : (s.extract a b).data.toList = (s.data.toList.drop a).take (b - a) := by simp [ByteArray.data_extract, List.take_drop]
theorem piece_at {s : ByteArray} {a b j : Nat} (h : j < b - a) : (s.extract a b).data.toList[j]? = (s.data.toList.drop a)[j]? := by
  rw [extract_list, List.getElem?_take_of_lt h]
theorem okB0_congr {t u : ByteArray} {j : Nat} (h1 : t.data.toList[j]? = u.data.toList[j]?) (h2 : t.data.toList[j - 1]? = u.data.toList[j - 1]?) : okB0 t j = okB0 u j := by
  unfold okB0; rw [h1, h2]
theorem okB0_piece {s : ByteArray} {a b c j : Nat} (h : j < b - a) (hc : j < c - a) : okB0 (s.extract a b) j = okB0 (s.extract a c) j :=
  okB0_congr ((piece_at h).trans (piece_at hc).symm) ((piece_at (by omega)).trans (piece_at (by omega)).symm)
/-- how many boards go on from one on -/
def runA (s : ByteArray) (a : Nat) : Nat := runT (s.extract a s.size)
theorem runA_le (s : ByteArray) (a : Nat) : runA s a ≤ s.size - a := by
  have := runT_le (s.extract a s.size)
  rw [ByteArray.size_extract] at this
  unfold runA; omega
theorem allT_piece {s : ByteArray} {a b : Nat} (h : a < b) (hb : b ≤ s.size) : allT (s.extract a b) = decide (b - a ≤ runA s a) := by
  have hu : (s.extract a b).size = b - a := by rw [ByteArray.size_extract]; omega
  have ht : (s.extract a s.size).size = s.size - a := by rw [ByteArray.size_extract]; omega
  obtain ⟨p, q⟩ := runT_spec (s.extract a s.size)
  by_cases hle : b - a ≤ runA s a
  · rw [decide_eq_true hle]
    apply allT_yes
    intro i hi
    rw [hu] at hi
    rw [okB0_piece (c := s.size) hi (by omega)]
    exact p i (by unfold runA at hle; omega)
  · rw [decide_eq_false hle]
    have hr : runT (s.extract a s.size) < b - a := by unfold runA at hle; omega
    apply allT_no (k := runT (s.extract a s.size)) (by omega)
    · intro i hi
      rw [okB0_piece (c := s.size) (by omega) (by omega)]
      exact p i hi
    · rw [okB0_piece (c := s.size) (by omega) (by omega)]
      exact q

/-- the longest part that begins before a board: where, and how long -/
def longJ (s : ByteArray) : Nat → Nat × Nat
  | 0 => (0, 0)
  | k + 1 => if (longJ s k).2 < runA s k then (k, runA s k) else longJ s k
def longA (s : ByteArray) (k : Nat) : Nat := (longJ s k).1
def longL (s : ByteArray) (k : Nat) : Nat := (longJ s k).2
theorem long_yes {s : ByteArray} {k : Nat} (h : longL s k < runA s k) : longA s (k + 1) = k ∧ longL s (k + 1) = runA s k := by
  have : longJ s (k + 1) = (k, runA s k) := by rw [longJ]; exact if_pos h
  unfold longA longL; rw [this]; exact ⟨rfl, rfl⟩
theorem long_no {s : ByteArray} {k : Nat} (h : ¬ longL s k < runA s k) : longA s (k + 1) = longA s k ∧ longL s (k + 1) = longL s k := by
  have : longJ s (k + 1) = longJ s k := by rw [longJ]; exact if_neg h
  unfold longA longL; rw [this]; exact ⟨rfl, rfl⟩
theorem long_zero (s : ByteArray) : ∀ k, longL s k = 0 → longA s k = 0
  | 0, _ => rfl
  | k + 1, h => by
    by_cases hl : longL s k < runA s k
    · obtain ⟨_, b⟩ := long_yes hl; omega
    · obtain ⟨a, b⟩ := long_no hl
      rw [a]; exact long_zero s k (by omega)
theorem long_le (s : ByteArray) : ∀ k, longL s k ≤ s.size
  | 0 => Nat.zero_le _
  | k + 1 => by
    by_cases hl : longL s k < runA s k
    · obtain ⟨_, b⟩ := long_yes hl; have := runA_le s k; omega
    · obtain ⟨a, b⟩ := long_no hl
      rw [b]; exact long_le s k
def longOf (s : ByteArray) : Array Value :=
  if okFence s = true ∧ longL s s.size ≠ 0 then #[.int .i64 (longA s s.size), .int .i64 (longL s s.size), .bool true] else #[.int .i64 0, .int .i64 0, .bool false]
theorem longOf_bad {s : ByteArray} (h : okFence s = false) : longOf s = #[.int .i64 0, .int .i64 0, .bool false] := by unfold longOf; rw [if_neg (by rw [h]; simp)]
theorem longOf_none {s : ByteArray} (h : longL s s.size = 0) : longOf s = #[.int .i64 0, .int .i64 0, .bool false] := by unfold longOf; rw [if_neg (by rw [h]; simp)]
theorem longOf_some {s : ByteArray} (h : okFence s = true) (hl : longL s s.size ≠ 0) : longOf s = #[.int .i64 (longA s s.size), .int .i64 (longL s s.size), .bool true] := by unfold longOf; rw [if_pos ⟨h, hl⟩]
theorem ret_tup {a b : Array Value} (h : a = b) : Ending.returned (.tuple a) = .returned (.tuple b) := by rw [h]

set_option maxHeartbeats 1000000 in
theorem implLongest_any (s : ByteArray) (w : World) (hs : s.size ≤ maxLen) :
    Calls Try.prog 55 #[.string s] w fun e w' => e = .returned (.tuple (longOf s)) ∧ Below w.heap.size w w' := by
  cases h : okFence s
  · rw [longOf_bad h]
    have H := Lib.hid h; clear h
    go_enter Try.func55, Try.ntmps55
    go_wp2_with (go_at_call 95; refine (implIsFence_any s _ hs).mono ?_; rintro e w' ⟨rfl, rfl⟩; rw [H.out])
    go_ret3
    exact ⟨rfl, Below.refl _ _⟩
  · obtain ⟨h20a, h20⟩ := okFence_size h
    have H := Lib.hid h; clear h
    go_enter Try.func55, Try.ntmps55
    go_wp2_with (go_at_call 95; refine (implIsFence_any s _ hs).mono ?_; rintro e w' ⟨rfl, rfl⟩; rw [H.out])
    go_loopw [5, 6, 14] (fun a l i wr => ∃ k : Nat, k ≤ s.size ∧ i = .int .i64 k ∧ a = .int .i64 (longA s k) ∧ l = .int .i64 (longL s k) ∧ Below w.heap.size w wr) (fun _ _ i _ => s.size - (intOf i).toNat)
    case atStart => exact ⟨0, Nat.zero_le _, rfl, rfl, rfl, Below.refl _ _⟩
    case round =>
      obtain ⟨k, hk, rfl, rfl, rfl, hb⟩ := hrel
      by_cases hp : k < s.size
      · have k0 : (0 : Int) ≤ (k : Int) := by omega
        have k2 : (k : Int) ≤ (s.size : Int) := by omega
        have hz : (s.extract k s.size).size ≤ 20 := Nat.le_trans (extract_le _ _ _) h20
        by_cases hl : longL s k < runA s k
        · have HN := Lib.hid (long_yes hl)
          have hl' : (longL s k : Int) < (runT (s.extract k s.size) : Int) := by unfold runA at hl; omega
          go_wp2_with (go_at_call 96; refine (properFrom_any (s.extract k s.size) _ hz).mono ?_; rintro e w1 ⟨rfl, hb1⟩)
          go_roundw
          case rel => exact ⟨k + 1, by omega, by go_num, by rw [HN.out.1], by rw [HN.out.2]; rfl, below_next hb hb1⟩
          case measure => simp [intOf]; omega
        · have HN := Lib.hid (long_no hl)
          have hl' : (runT (s.extract k s.size) : Int) ≤ (longL s k : Int) := by unfold runA at hl; omega
          clear hl
          go_wp2_with (go_at_call 96; refine (properFrom_any (s.extract k s.size) _ hz).mono ?_; rintro e w1 ⟨rfl, hb1⟩)
          go_roundw
          case rel => exact ⟨k + 1, by omega, by go_num, by rw [HN.out.1], by rw [HN.out.2], below_next hb hb1⟩
          case measure => simp [intOf]; omega
      · obtain rfl : k = s.size := by omega
        by_cases h0 : longL s s.size = 0
        · have HL := Lib.hid (longOf_none h0)
          have HZ := Lib.hid (long_zero s s.size h0)
          have HY := Lib.hid h0
          clear h0
          rw [HZ.out, HY.out]
          go_wp2
          go_ret3
          exact ⟨ret_tup HL.out.symm, hb⟩
        · have HL := Lib.hid (longOf_some H.out h0)
          have hp0 : decide ((0 : Int) < (longL s s.size : Int)) = true := decide_eq_true (by omega)
          have hp1 : decide (0 < longL s s.size) = true := decide_eq_true (by omega)
          clear h0
          go_wp2
          go_ret3
          exact ⟨ret_tup HL.out.symm, hb⟩

/-- the longest part with those that begin at k and have up to m boards -/
def inA (s : ByteArray) (k m : Nat) : Nat := if longL s k < m then k else longA s k
def inL (s : ByteArray) (k m : Nat) : Nat := if longL s k < m then m else longL s k
theorem in_zero (s : ByteArray) (k : Nat) : inA s k 0 = longA s k ∧ inL s k 0 = longL s k := ⟨if_neg (by omega), if_neg (by omega)⟩
theorem in_up {s : ByteArray} {k m : Nat} (h : longL s k < m + 1) : inL s k m < m + 1 ∧ inA s k (m + 1) = k ∧ inL s k (m + 1) = m + 1 := by
  refine ⟨?_, if_pos h, if_pos h⟩
  unfold inL; split <;> omega
theorem in_same {s : ByteArray} {k m : Nat} (h : ¬ longL s k < m + 1) : m + 1 ≤ inL s k m ∧ inA s k (m + 1) = inA s k m ∧ inL s k (m + 1) = inL s k m := by
  have h' : ¬ longL s k < m := by omega
  unfold inA inL
  rw [if_neg h, if_neg h', if_neg h', if_neg h]
  exact ⟨by omega, rfl, rfl⟩
theorem in_end (s : ByteArray) (k : Nat) : inA s k (runA s k) = longA s (k + 1) ∧ inL s k (runA s k) = longL s (k + 1) := by
  by_cases h : longL s k < runA s k
  · obtain ⟨a, b⟩ := long_yes h
    rw [a, b]; exact ⟨if_pos h, if_pos h⟩
  · obtain ⟨a, b⟩ := long_no h
    rw [a, b]; exact ⟨if_neg h, if_neg h⟩
theorem inL_le (s : ByteArray) (k m : Nat) (h : m ≤ 20) (hs : s.size ≤ 20) : inL s k m ≤ 20 := by
  have := long_le s k
  unfold inL; split <;> omega

set_option maxHeartbeats 1600000 in
theorem specLongest_any (s : ByteArray) (w : World) (hs : s.size ≤ maxLen) :
    Calls Try.prog 54 #[.string s] w fun e w' => e = .returned (.tuple (longOf s)) ∧ Below w.heap.size w w' := by
  cases h : okFence s
  · rw [longOf_bad h]
    have H := Lib.hid h; clear h
    go_enter Try.func54, Try.ntmps54
    go_wp2_with (go_at_call 93; refine (stGood_any s _ hs).mono ?_; rintro e w' ⟨rfl, rfl⟩; rw [H.out])
    go_ret3
    exact ⟨rfl, Below.refl _ _⟩
  · obtain ⟨h20a, h20⟩ := okFence_size h
    have HA := Lib.hid (okFence_at h)
    have H := Lib.hid h; clear h
    go_enter Try.func54, Try.ntmps54
    go_wp2_with (go_at_call 93; refine (stGood_any s _ hs).mono ?_; rintro e w' ⟨rfl, rfl⟩; rw [H.out])
    go_loopw [5, 6] (fun a l wr => ∃ k d : Nat, k ≤ s.size ∧ a = .int .i64 (longA s k) ∧ l = .int .i64 (longL s k) ∧ wr = (w.iter s k).drewN d) (fun _ _ wr => s.size - wr.iterPos w.heap.size)
    case atStart => exact ⟨0, 0, Nat.zero_le _, rfl, rfl, rfl⟩
    case round =>
      obtain ⟨k, d, hk, rfl, rfl, rfl⟩ := hrel
      by_cases hp : k < s.size
      · have h128 := okB_128 (HA.out k hp)
        have hnx : ∀ ty, (Instr.next (.pointer (some ⟨w.heap.size, 0, none⟩)) true ty).run Try.prog ((w.iter s k).drewN d) = .ok (.tuple #[.bool true, .int .i64 k, .int .i32 s[k].toNat]) ((w.iter s (k + 1)).drewN d) := fun ty => run_next_ascii (w.drewN d) s k ty hp h128
        have hR := runA_le s k
        have hlL := long_le s k
        have HZ := Lib.hid (in_zero s k)
        go_wp2
        go_loopw [5, 6, 8] (fun a l t wr => ∃ m d1 : Nat, m ≤ runA s k ∧ t = .int .i64 ((k : Int) + 1 + (m : Int)) ∧ a = .int .i64 (inA s k m) ∧ l = .int .i64 (inL s k m) ∧ wr = (w.iter s (k + 1)).drewN d1) (fun _ _ t _ => s.size + 2 - (intOf t).toNat)
        case atStart => exact ⟨0, d, Nat.zero_le _, by simp, by rw [HZ.out.1], by rw [HZ.out.2], rfl⟩
        case round =>
          obtain ⟨m, d1, hm, rfl, rfl, rfl, rfl⟩ := hrel
          have e2 : ((k : Int) + 1 + (m : Int)).toNat = k + 1 + m := by omega
          have k0 : (0 : Int) ≤ (k : Int) := by omega
          have k3 : (k : Int) ≤ (k : Int) + 1 + (m : Int) := by omega
          by_cases hle : k + 1 + m ≤ s.size
          · have k4 : (k : Int) + 1 + (m : Int) ≤ (s.size : Int) := by omega
            have hz : (s.extract k (k + 1 + m)).size ≤ 20 := Nat.le_trans (extract_le _ _ _) h20
            by_cases hr : m + 1 ≤ runA s k
            · have HP : Hid (allT (s.extract k (k + 1 + m)) = true) := Lib.hid (by rw [allT_piece (by omega) hle]; exact decide_eq_true (by omega))
              have hin := inL_le s k m (by omega) h20
              by_cases hl : longL s k < m + 1
              · have HU := Lib.hid (in_up hl)
                have hgt : (inL s k m : Int) < (k : Int) + 1 + (m : Int) - (k : Int) := by have := HU.out.1; omega
                have HE : Hid ((k : Int) + 1 + (m : Int) - (k : Int) = ((m + 1 : Nat) : Int)) := Lib.hid (by omega)
                clear hl
                go_wp2_with (go_at_call 94; refine (coProper_line _ _ hz).mono ?_; rintro e w1 ⟨rfl, hD⟩; rw [HP.out]; obtain ⟨d2, rfl⟩ := hD)
                go_roundw
                case rel => exact ⟨m + 1, _, hr, by go_num, by rw [HU.out.2.1], by rw [HU.out.2.2, HE.out], rfl⟩
                case measure => simp [intOf]; omega
              · have HU := Lib.hid (in_same hl)
                have hgt : (k : Int) + 1 + (m : Int) - (k : Int) ≤ (inL s k m : Int) := by have := HU.out.1; omega
                clear hl
                go_wp2_with (go_at_call 94; refine (coProper_line _ _ hz).mono ?_; rintro e w1 ⟨rfl, hD⟩; rw [HP.out]; obtain ⟨d2, rfl⟩ := hD)
                go_roundw
                case rel => exact ⟨m + 1, _, hr, by go_num, by rw [HU.out.2.1], by rw [HU.out.2.2], rfl⟩
                case measure => simp [intOf]; omega
            · have HP : Hid (allT (s.extract k (k + 1 + m)) = false) := Lib.hid (by rw [allT_piece (by omega) hle]; exact decide_eq_false (by omega))
              obtain rfl : m = runA s k := by omega
              have HU := Lib.hid (in_end s k)
              go_wp2_with (go_at_call 94; refine (coProper_line _ _ hz).mono ?_; rintro e w1 ⟨rfl, hD⟩; rw [HP.out]; obtain ⟨d2, rfl⟩ := hD)
              go_roundw
              case rel => exact ⟨k + 1, _, by omega, by rw [HU.out.1], by rw [HU.out.2], rfl⟩
              case measure => show s.size - (w.iter s (k + 1)).iterPos w.heap.size < s.size - (w.iter s k).iterPos w.heap.size; simp; omega
          · have k4 : (s.size : Int) < (k : Int) + 1 + (m : Int) := by omega
            obtain rfl : m = runA s k := by omega
            have HU := Lib.hid (in_end s k)
            go_wp2
            go_roundw
            case rel => exact ⟨k + 1, _, by omega, by rw [HU.out.1], by rw [HU.out.2], rfl⟩
            case measure => show s.size - (w.iter s (k + 1)).iterPos w.heap.size < s.size - (w.iter s k).iterPos w.heap.size; simp; omega
      · obtain rfl : k = s.size := by omega
        have hnx : ∀ ty, (Instr.next (.pointer (some ⟨w.heap.size, 0, none⟩)) true ty).run Try.prog ((w.iter s s.size).drewN d) = .ok (.tuple #[.bool false]) ((w.iter s s.size).drewN d) := fun ty => run_next_end (w.drewN d) s s.size ty hp
        by_cases h0 : longL s s.size = 0
        · have HL := Lib.hid (longOf_none h0)
          have HZ := Lib.hid (long_zero s s.size h0)
          have HY := Lib.hid h0
          clear h0
          rw [HZ.out, HY.out]
          go_wp2
          go_ret3
          exact ⟨ret_tup HL.out.symm, below_drewN (below_iter w s _) _⟩
        · have HL := Lib.hid (longOf_some H.out h0)
          have hp0 : ((longL s s.size : Int) == 0) = false := by rw [beq_eq_false_iff_ne]; omega
          clear h0
          go_wp2
          go_ret3
          exact ⟨ret_tup HL.out.symm, below_drewN (below_iter w s _) _⟩

set_option maxHeartbeats 400000 in
theorem lawLongestProper_walk (s : ByteArray) (w : World) (hs : s.size ≤ maxLen) :
    Calls Try.prog 17 #[.string s] w fun e w' => e = .returned (.bool true) ∧ Below w.heap.size w w' := by
  have hs0 := hs
  unfold maxLen at hs
  obtain ⟨p, n, q, hp⟩ : ∃ (p n : Int) (q : Bool), longOf s = #[.int .i64 p, .int .i64 n, .bool q] := by
    unfold longOf; split
    · exact ⟨_, _, _, rfl⟩
    · exact ⟨_, _, _, rfl⟩
  have S := fun W : World => specLongest_any s W hs0
  have I := fun W : World => implLongest_any s W hs0
  rw [hp] at S I
  clear hp
  by_cases h : s.size ≤ 1048576
  · go_enter Try.func17, Try.ntmps17
    go_wp2_with (first
      | (go_at_call 54; refine (S _).mono ?_; rintro e w1 ⟨rfl, hb⟩)
      | (go_at_call 55; refine (I _).mono ?_; rintro e w2 ⟨rfl, hb2⟩))
    go_ret
    exact ⟨rfl, below_next hb hb2⟩
  · go_enter Try.func17, Try.ntmps17
    go_wp2
    go_ret
    exact ⟨rfl, Below.refl _ _⟩
end Go.Proofs.Ytcloemgaaaokgaa
