/- PaintStroke: what 'spec.stPaint' and 'impl.painted' return, the two functions, and the law's walk. No condition but the texts' lengths. -/
import Derived.Test.YtnijedmnjmeciaaDoorStroke2
import Derived.RegionTactic
import Derived.Deep.RegionHeld3
import Derived.Deep.DeepFit
namespace Go.Proofs.YtnijedmnjmeciaaDoor
open Go.RowKit

/-- so many copies of a text -/
def repC (c : ByteArray) (k : Nat) : ByteArray := ⟨(Lib.repeatL c.data.toList k).toArray⟩
theorem repeatL_comm (l : List UInt8) : ∀ k, Lib.repeatL l k ++ l = l ++ Lib.repeatL l k
  | 0 => by simp [Lib.repeatL]
  | k + 1 => by rw [Lib.repeatL, List.append_assoc, repeatL_comm l k]
theorem repC_zero (c : ByteArray) : repC c 0 = ⟨#[]⟩ := rfl
theorem repC_succ (c : ByteArray) (k : Nat) : repC c k ++ c = repC c (k + 1) := by
  apply bytes_ext; rw [append_list]; show Lib.repeatL c.data.toList k ++ c.data.toList = Lib.repeatL c.data.toList (k + 1); rw [repeatL_comm]; rfl
theorem repC_size (c : ByteArray) (k : Nat) : (repC c k).size = k * c.size := by
  show (Lib.repeatL c.data.toList k).toArray.size = _
  rw [List.size_toArray, Lib.repeatL_length]; rfl
theorem bytes_assoc (a b c : ByteArray) : a ++ b ++ c = a ++ (b ++ c) := by apply bytes_ext; simp
theorem bytes_nil (a : ByteArray) : a ++ ⟨#[]⟩ = a := by apply bytes_ext; simp
/-- a fence behind a stroke -/
def paintS (s : ByteArray) (f t : Nat) (c : ByteArray) : ByteArray := s.extract 0 f ++ repC c (t + 1 - f) ++ s.extract (t + 1) s.size
theorem paint_step (s c : ByteArray) (f k : Nat) : s.extract 0 f ++ repC c k ++ c = s.extract 0 f ++ repC c (k + 1) := by
  rw [bytes_assoc, repC_succ]
theorem extract_le (s : ByteArray) (a b : Nat) : (s.extract a b).size ≤ s.size := by rw [ByteArray.size_extract]; omega
theorem isCol_size1 {c : ByteArray} (h : isCol c = true) : c.size = 1 := by
  rcases Nat.decEq c.size 1 with h1 | h1
  · rw [isCol_size h1] at h; cases h
  · exact h1
theorem okStroke_iff {n : Nat} {f t : Int} {c : ByteArray} (h : okStroke n f t c = true) : 0 ≤ f ∧ f ≤ t ∧ t < n ∧ isCol c = true := by
  unfold okStroke at h
  rw [Bool.and_eq_true, decide_eq_true_iff] at h
  exact ⟨h.1.1, h.1.2.1, h.1.2.2, h.2⟩

/-- what both functions return -/
def paintOf (s : ByteArray) (f t : Int) (c : ByteArray) : Array Value :=
  if (okFence s && okStroke s.size f t c) = true then #[.string (paintS s f.toNat t.toNat c), .bool true] else #[.string ⟨#[]⟩, .bool false]
theorem paintOf_no {s : ByteArray} {f t : Int} {c : ByteArray} (h : (okFence s && okStroke s.size f t c) = false) : paintOf s f t c = #[.string ⟨#[]⟩, .bool false] := by
  unfold paintOf; rw [if_neg (by rw [h]; decide)]
theorem paintOf_yes {s : ByteArray} {f t : Nat} {c : ByteArray} (h : (okFence s && okStroke s.size f t c) = true) : paintOf s f t c = #[.string (paintS s f t c), .bool true] := by
  unfold paintOf; rw [if_pos h]; simp

end Go.Proofs.YtnijedmnjmeciaaDoor
