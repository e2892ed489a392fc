/- LeastTurn: the two functions, and the law's walk. No condition but the text's length. -/
import Derived.Test.YtcloemgaaaokgaaTurn
namespace Go.Proofs.Ytcloemgaaaokgaa
open Go.RowKit

/-- the first of the first k turns, and by how much -/
def leastJ (s : ByteArray) : Nat → ByteArray × Nat
  | 0 => (s, 0)
  | k + 1 => if Op.bytesLess (turnS s k).toList (leastJ s k).1.toList = true then (turnS s k, k) else leastJ s k
def leastB (s : ByteArray) (k : Nat) : ByteArray := (leastJ s k).1
def leastN (s : ByteArray) (k : Nat) : Nat := (leastJ s k).2
theorem least_yes {s : ByteArray} {k : Nat} (h : Op.bytesLess (turnS s k).toList (leastB s k).toList = true) : leastB s (k + 1) = turnS s k ∧ leastN s (k + 1) = k := by
  have : leastJ s (k + 1) = (turnS s k, k) := by rw [leastJ]; exact if_pos h
  unfold leastB leastN; rw [this]; exact ⟨rfl, rfl⟩
theorem least_no {s : ByteArray} {k : Nat} (h : Op.bytesLess (turnS s k).toList (leastB s k).toList = false) : leastB s (k + 1) = leastB s k ∧ leastN s (k + 1) = leastN s k := by
  have : leastJ s (k + 1) = leastJ s k := by rw [leastJ]; exact if_neg (by show ¬ Op.bytesLess _ (leastB s k).toList = true; rw [h]; decide)
  unfold leastB leastN; rw [this]; exact ⟨rfl, rfl⟩
def leastOf (s : ByteArray) : Array Value := if okFenceA s true = true then #[.string (leastB s s.size), .int .i64 (leastN s s.size), .bool true] else #[.string ⟨#[]⟩, .int .i64 0, .bool false]
theorem turn_add (s : ByteArray) (k : Nat) (h : s.size ≤ 20) (W : World) : (Op.stringOp .add (s.extract k s.size) (s.extract 0 k)).run Try.prog W = .ok (.string (turnS s k)) W :=
  run_string_add_sum W (s.extract k s.size) (s.extract 0 k) (by have := extract_le s k s.size; have := extract_le s 0 k; omega)

set_option maxHeartbeats 400000 in
theorem specLeast_any (s : ByteArray) (w : World) (hs : s.size ≤ maxLen) :
    Calls Try.prog 58 #[.string s] w fun e w' => e = .returned (.tuple (leastOf s)) ∧ Below w.heap.size w w' := by
  unfold leastOf
  cases h : okFenceA s true
  · rw [if_neg (by decide)]
    have H := Lib.hid h; clear h
    go_enter Try.func58, Try.ntmps58
    go_wp2_with (go_at_call 86; refine (coFence_any s true _ hs).mono ?_; rintro e w' ⟨rfl, rfl⟩; rw [H.out])
    go_ret3
    exact ⟨rfl, Below.refl _ _⟩
  · rw [if_pos rfl]
    have hf := (okFenceA_parts h).1
    obtain ⟨h20a, h20⟩ := okFence_size hf
    have HA := Lib.hid (okFence_at hf)
    have H := Lib.hid h
    clear h hf
    go_enter Try.func58, Try.ntmps58
    go_wp2_with (go_at_call 86; refine (coFence_any s true _ hs).mono ?_; rintro e w' ⟨rfl, rfl⟩; rw [H.out])
    go_loopw [5, 6] (fun b n w' => ∃ k d : Nat, k ≤ s.size ∧ w' = (w.iter s k).drewN d ∧ b = .string (leastB s k) ∧ n = .int .i64 (leastN s k)) (fun _ _ w' => s.size - w'.iterPos w.heap.size)
    case atStart => exact ⟨0, 0, Nat.zero_le _, rfl, rfl, rfl⟩
    case round =>
      obtain ⟨k, d, hk, rfl, rfl, rfl⟩ := hrel
      by_cases hp : k < s.size
      · have h128 := okB_128 (HA.out k hp)
        have hnx : ∀ ty, (Instr.next (.pointer (some ⟨w.heap.size, 0, none⟩)) true ty).run Try.prog ((w.iter s k).drewN d) = .ok (.tuple #[.bool true, .int .i64 k, .int .i32 s[k].toNat]) ((w.iter s (k + 1)).drewN d) := fun ty => run_next_ascii (w.drewN d) s k ty hp h128
        have k0 : (0 : Int) ≤ (k : Int) := by omega
        have k2 : (k : Int) ≤ (s.size : Int) := by omega
        have e1 := turn_add s k h20
        cases hl : Op.bytesLess (turnS s k).toList (leastB s k).toList
        · have HN := Lib.hid (least_no hl)
          go_wp2
          go_quiet (fail)
          go_wp2
          go_roundw
          case rel => exact ⟨k + 1, _, by omega, rfl, by rw [HN.out.1], by rw [HN.out.2]⟩
          case measure => show s.size - (w.iter s (k + 1)).iterPos w.heap.size < s.size - (w.iter s k).iterPos w.heap.size; simp; omega
        · have HN := Lib.hid (least_yes hl)
          go_wp2
          go_quiet (fail)
          go_wp2
          go_roundw
          case rel => exact ⟨k + 1, _, by omega, rfl, by rw [HN.out.1], by rw [HN.out.2]⟩
          case measure => show s.size - (w.iter s (k + 1)).iterPos w.heap.size < s.size - (w.iter s k).iterPos w.heap.size; simp; omega
      · obtain rfl : k = s.size := by omega
        have hnx : ∀ ty, (Instr.next (.pointer (some ⟨w.heap.size, 0, none⟩)) true ty).run Try.prog ((w.iter s s.size).drewN d) = .ok (.tuple #[.bool false]) ((w.iter s s.size).drewN d) := fun ty => run_next_end (w.drewN d) s s.size ty hp
        go_wp2
        go_ret3
        exact ⟨rfl, below_drewN (below_iter w s _) _⟩

set_option maxHeartbeats 400000 in
theorem implLeast_any (s : ByteArray) (w : World) (hs : s.size ≤ maxLen) :
    Calls Try.prog 59 #[.string s] w fun e w' => e = .returned (.tuple (leastOf s)) ∧ Below w.heap.size w w' := by
  unfold leastOf
  cases h : okFenceA s true
  · rw [if_neg (by decide)]
    have H := Lib.hid h; clear h
    go_enter Try.func59, Try.ntmps59
    go_wp2_with (go_at_call 89; refine (isFenceOf_any s true _ hs).mono ?_; rintro e w' ⟨rfl, rfl⟩; rw [H.out])
    go_ret3
    exact ⟨rfl, Below.refl _ _⟩
  · rw [if_pos rfl]
    have hf := (okFenceA_parts h).1
    obtain ⟨h20a, h20⟩ := okFence_size hf
    have H := Lib.hid h
    clear h hf
    go_enter Try.func59, Try.ntmps59
    go_wp2_with (go_at_call 89; refine (isFenceOf_any s true _ hs).mono ?_; rintro e w' ⟨rfl, rfl⟩; rw [H.out])
    go_loopw [5, 6, 15] (fun b n i w' => ∃ k d : Nat, k ≤ s.size ∧ i = .int .i64 k ∧ w' = w.drewN d ∧ b = .string (leastB s k) ∧ n = .int .i64 (leastN s k)) (fun _ _ i _ => s.size - (intOf i).toNat)
    case atStart => exact ⟨0, 0, Nat.zero_le _, rfl, rfl, rfl, rfl⟩
    case round =>
      obtain ⟨k, d, hk, rfl, rfl, rfl, rfl⟩ := hrel
      by_cases hp : k < s.size
      · have k0 : (0 : Int) ≤ (k : Int) := by omega
        have k2 : (k : Int) ≤ (s.size : Int) := by omega
        have e1 := turn_add s k h20
        cases hl : Op.bytesLess (turnS s k).toList (leastB s k).toList
        · have HN := Lib.hid (least_no hl)
          go_wp2
          go_quiet (fail)
          go_wp2
          go_roundw
          case rel => exact ⟨k + 1, _, by omega, by go_num, rfl, by rw [HN.out.1], by rw [HN.out.2]⟩
          case measure => simp [intOf]; omega
        · have HN := Lib.hid (least_yes hl)
          go_wp2
          go_quiet (fail)
          go_wp2
          go_roundw
          case rel => exact ⟨k + 1, _, by omega, by go_num, rfl, by rw [HN.out.1], by rw [HN.out.2]⟩
          case measure => simp [intOf]; omega
      · obtain rfl : k = s.size := by omega
        go_wp2
        go_ret3
        exact ⟨rfl, below_drewN (Below.refl _ _) _⟩

set_option maxHeartbeats 400000 in
theorem lawLeastTurn_walk (s : ByteArray) (w : World) (hs : s.size ≤ maxLen) :
    Calls Try.prog 19 #[.string s] w fun e w' => e = .returned (.bool true) ∧ Below w.heap.size w w' := by
  have hs0 := hs
  unfold maxLen at hs
  obtain ⟨p, n, q, hp⟩ : ∃ (p : ByteArray) (n : Int) (q : Bool), leastOf s = #[.string p, .int .i64 n, .bool q] := by
    unfold leastOf; split
    · exact ⟨_, _, _, rfl⟩
    · exact ⟨_, _, _, rfl⟩
  have S := fun W : World => specLeast_any s W hs0
  have I := fun W : World => implLeast_any s W hs0
  rw [hp] at S I
  clear hp
  by_cases h : s.size ≤ 1048576
  · go_enter Try.func19, Try.ntmps19
    go_wp2_with (first
      | (go_at_call 58; refine (S _).mono ?_; rintro e w1 ⟨rfl, hb⟩)
      | (go_at_call 59; refine (I _).mono ?_; rintro e w2 ⟨rfl, hb2⟩))
    go_ret
    exact ⟨rfl, below_next hb hb2⟩
  · go_enter Try.func19, Try.ntmps19
    go_wp2
    go_ret
    exact ⟨rfl, Below.refl _ _⟩
end Go.Proofs.Ytcloemgaaaokgaa
