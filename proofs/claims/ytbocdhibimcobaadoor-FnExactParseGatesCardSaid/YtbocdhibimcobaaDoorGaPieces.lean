/- The pieces of a text, as the model reads them. No condition. -/
import Derived.Test.YtbocdhibimcobaaDoorSplit
namespace Go.Proofs.YtbocdhibimcobaaDoor.Ga
open Go.RowKit

def readS (p : ByteArray) : Int := readL p.data.toList
def readP (s : ByteArray) : List Int := (pieces s 124).map readS
theorem pieces_len (s : ByteArray) : 1 ≤ (pieces s 124).length ∧ (pieces s 124).length ≤ s.size + 1 := by
  unfold pieces
  rw [List.length_append]
  have := spl_len s 124 s.size
  simp
  omega
theorem pieces_at {s : ByteArray} {k : Nat} (h : k < (pieces s 124).length) : ((pieces s 124).map Value.string)[k]? = some (.string (pieces s 124)[k]) := by
  rw [List.getElem?_map, List.getElem?_eq_getElem h]; rfl
theorem readP_succ {s : ByteArray} {k : Nat} (h : k < (pieces s 124).length) : (readP s).take (k + 1) = (readP s).take k ++ [readS (pieces s 124)[k]] := by
  have h' : k < (readP s).length := by unfold readP; rw [List.length_map]; exact h
  rw [List.take_succ_eq_append_getElem h']
  simp [readP]
theorem extract_le (s : ByteArray) (i j : Nat) : (s.extract i j).size ≤ s.size := by
  rw [ByteArray.size_extract]; omega
theorem spl_size (s : ByteArray) (b : UInt8) (k : Nat) : ∀ p ∈ (spl s b k).1, p.size ≤ s.size := by
  induction k with
  | zero => intro p hp; cases hp
  | succ k ih =>
    unfold spl
    split
    · intro p hp
      rcases List.mem_append.1 hp with h | h
      · exact ih p h
      · rw [List.mem_singleton.1 h]; exact extract_le _ _ _
    · exact ih
theorem pieces_size (s : ByteArray) : ∀ p ∈ pieces s 124, p.size ≤ s.size := by
  intro p hp
  rcases List.mem_append.1 hp with h | h
  · exact spl_size _ _ _ p h
  · rw [List.mem_singleton.1 h]; exact extract_le _ _ _

theorem ret_vb {v : Value} {a b : Bool} (h : a = b) : Ending.returned (.tuple #[v, .bool a]) = .returned (.tuple #[v, .bool b]) := by rw [h]

end Go.Proofs.YtbocdhibimcobaaDoor.Ga
