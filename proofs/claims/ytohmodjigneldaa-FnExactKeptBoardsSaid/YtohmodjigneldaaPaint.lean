/- PaintStroke: what 'spec.stPaint' and 'impl.painted' return, the two functions, and the law's walk. No condition but the texts' lengths. -/
import Derived.Test.YtohmodjigneldaaStroke2
import Derived.RegionTactic
import Derived.Deep.RegionHeld3
import Derived.Deep.DeepFit
namespace Go.Proofs.Ytohmodjigneldaa
open Go.RowKit

/-- so many copies of a text -/
def repC (c : ByteArray) (k : Nat) : ByteArray := ⟨(Lib.repeatL c.data.toList k).toArray⟩
theorem repeatL_comm (l : List UInt8) : ∀ k, Lib.repeatL l k ++ l = l ++ Lib.repeatL l k
  | 0 => by simp [Lib.repeatL]
  | k + 1 => by rw [Lib.repeatL, List.append_assoc, repeatL_comm l k]
theorem repC_zero (c : ByteArray) : repC c 0 = ⟨#[]⟩ := rfl
theorem repC_succ (c : ByteArray) (k : Nat) : repC c k ++ c = repC c (k + 1) := by
  apply bytes_ext; rw [append_list]; show Lib.repeatL c.data.toList k ++ c.data.toList = Lib.repeatL c.data.toList (k + 1); rw [repeatL_comm]; rfl
theorem repC_size (c : ByteArray) (k : Nat) : (repC c k).size = k * c.size := by
  show (Lib.repeatL c.data.toList k).toArray.size = _
  rw [List.size_toArray, Lib.repeatL_length]; rfl
theorem bytes_assoc (a b c : ByteArray) : a ++ b ++ c = a ++ (b ++ c) := by apply bytes_ext; simp
theorem bytes_nil (a : ByteArray) : a ++ ⟨#[]⟩ = a := by apply bytes_ext; simp
/-- a fence behind a stroke -/
def paintS (s : ByteArray) (f t : Nat) (c : ByteArray) : ByteArray := s.extract 0 f ++ repC c (t + 1 - f) ++ s.extract (t + 1) s.size
theorem paint_step (s c : ByteArray) (f k : Nat) : s.extract 0 f ++ repC c k ++ c = s.extract 0 f ++ repC c (k + 1) := by
  rw [bytes_assoc, repC_succ]
theorem extract_le (s : ByteArray) (a b : Nat) : (s.extract a b).size ≤ s.size := by rw [ByteArray.size_extract]; omega
theorem isCol_size1 {c : ByteArray} (h : isCol c = true) : c.size = 1 := by
  rcases Nat.decEq c.size 1 with h1 | h1
  · rw [isCol_size h1] at h; cases h
  · exact h1
theorem okStroke_iff {n : Nat} {f t : Int} {c : ByteArray} (h : okStroke n f t c = true) : 0 ≤ f ∧ f ≤ t ∧ t < n ∧ isCol c = true := by
  unfold okStroke at h
  rw [Bool.and_eq_true, decide_eq_true_iff] at h
  exact ⟨h.1.1, h.1.2.1, h.1.2.2, h.2⟩

set_option maxHeartbeats 1000000 in
theorem stPaint_any (s : ByteArray) (f t : Nat) (c : ByteArray) (w : World) (hs : s.size ≤ 20) (hc : c.size ≤ 1) (h1 : f ≤ t) (h2 : t < s.size) :
    Calls Try.prog 50 #[.string s, .agg #[.int .i64 f, .int .i64 t, .string c]] w fun e w' => e = .returned (.string (paintS s f t c)) ∧ Below w.heap.size w w' := by
  go_enter Try.func50, Try.ntmps50
  go_wp2
  go_loop [5, 6] (fun o i => ∃ k : Nat, k ≤ t + 1 - f ∧ i = .int .i64 ((f + k : Nat) : Int) ∧ o = .string (s.extract 0 f ++ repC c k)) (fun _ i => t + 1 - (intOf i).toNat)
  case atStart => exact ⟨0, Nat.zero_le _, rfl, by rw [repC_zero, bytes_nil]⟩
  case round =>
    obtain ⟨k, hk, rfl, rfl⟩ := hrel
    have hz : (s.extract 0 f ++ repC c k).size ≤ 41 := by
      rw [ByteArray.size_append, repC_size]
      have := extract_le s 0 f
      have := Nat.mul_le_mul hk hc
      omega
    have hz2 : (s.extract (t + 1) s.size).size ≤ 20 := Nat.le_trans (extract_le _ _ _) hs
    by_cases h0 : f + k ≤ t
    · have HS := Lib.hid (paint_step s c f k)
      go_wp2
      go_round
      case rel => exact ⟨k + 1, by omega, by go_num, by rw [HS.out]⟩
      case measure => simp [intOf]; omega
    · obtain rfl : k = t + 1 - f := by omega
      go_wp2
      go_ret
      exact ⟨rfl, below_new _ _⟩

theorem repeat_any (c : ByteArray) (k : Nat) (w : World) (hk : k ≤ 9223372036854775807) (h : c.size * k ≤ 140737488355328) :
    Calls Try.prog 41 #[.string c, .int .i64 k] w fun e w' => e = .returned (.string (repC c k)) ∧ Below w.heap.size w w' := Try.strings_Repeat c k w hk h

set_option maxHeartbeats 1000000 in
theorem painted_any (s : ByteArray) (f t : Nat) (c : ByteArray) (w : World) (hs : s.size ≤ 20) (hc : c.size ≤ 1) (h1 : f ≤ t) (h2 : t < s.size) :
    Calls Try.prog 32 #[.string s, .agg #[.int .i64 f, .int .i64 t, .string c]] w fun e w' => e = .returned (.string (paintS s f t c)) ∧ Below w.heap.size w w' := by
  have hz2 : (s.extract (t + 1) s.size).size ≤ 20 := Nat.le_trans (extract_le _ _ _) hs
  have hz1 : (s.extract 0 f).size ≤ 20 := Nat.le_trans (extract_le _ _ _) hs
  have hz3 : (repC c (t + 1 - f)).size ≤ 20 := by
    rw [repC_size]
    have := Nat.mul_le_mul (show t + 1 - f ≤ 20 by omega) hc
    omega
  have hmul : c.size * (t + 1 - f) ≤ 140737488355328 := by
    have := Nat.mul_le_mul hc (show t + 1 - f ≤ 20 by omega)
    omega
  have HC : Hid ((t : Int) - (f : Int) + 1 = ((t + 1 - f : Nat) : Int)) := Lib.hid (by omega)
  have hf0 : (0 : Int) ≤ (f : Int) := by omega
  have hf1 : (f : Int) ≤ (s.size : Int) := by omega
  have ht0 : (0 : Int) ≤ (t : Int) + 1 := by omega
  have ht1 : (t : Int) + 1 ≤ (s.size : Int) := by omega
  have q1 : IntKind.i64.wrap ((t : Int) - (f : Int)) = (t : Int) - (f : Int) := IntWalk.i64_in _ (by omega)
  have q2 : IntKind.i64.wrap ((t : Int) - (f : Int) + 1) = (t : Int) - (f : Int) + 1 := IntWalk.i64_in _ (by omega)
  have q3 : IntKind.i64.wrap ((t : Int) + 1) = (t : Int) + 1 := IntWalk.i64_in _ (by omega)
  have q4 : ((t : Int) + 1).toNat = t + 1 := by omega
  have e1 := fun W : World => run_string_add_sum (P := Try.prog) W (s.extract 0 f) (repC c (t + 1 - f)) (by omega)
  have e2 := fun W : World => run_string_add_sum (P := Try.prog) W (s.extract 0 f ++ repC c (t + 1 - f)) (s.extract (t + 1) s.size) (by rw [ByteArray.size_append]; omega)
  go_enter Try.func32, Try.ntmps32
  go_wp2
  go_region_held3 (fun x => x.cell? ⟨w.heap.size, 0, none⟩ = some (.int .i64 f) ∧ x.cell? ⟨w.heap.size, 1, none⟩ = some (.int .i64 t) ∧ x.cell? ⟨w.heap.size, 2, none⟩ = some (.string c))
    (go_keep)
    (first | (go_at_call 41; rw [HC.out]; refine (repeat_any c (t + 1 - f) _ (by omega) hmul).mono ?_; rintro e w1 ⟨rfl, hb⟩; obtain ⟨hcc, hff⟩ := bcell hb))
  go_wp2
  go_ret
  exact ⟨rfl, below_next (below_new w _).drew hb⟩

/-- what both functions return -/
def paintOf (s : ByteArray) (f t : Int) (c : ByteArray) : Array Value :=
  if (okFence s && okStroke s.size f t c) = true then #[.string (paintS s f.toNat t.toNat c), .bool true] else #[.string ⟨#[]⟩, .bool false]
theorem paintOf_no {s : ByteArray} {f t : Int} {c : ByteArray} (h : (okFence s && okStroke s.size f t c) = false) : paintOf s f t c = #[.string ⟨#[]⟩, .bool false] := by
  unfold paintOf; rw [if_neg (by rw [h]; decide)]
theorem paintOf_yes {s : ByteArray} {f t : Nat} {c : ByteArray} (h : (okFence s && okStroke s.size f t c) = true) : paintOf s f t c = #[.string (paintS s f t c), .bool true] := by
  unfold paintOf; rw [if_pos h]; simp

end Go.Proofs.Ytohmodjigneldaa
