/- A list of numbers written as a text, by the model. No condition but the numbers' sizes. -/
import Derived.Test.YtbocdhibimcobaaDoorNum
import Derived.Test.YtbocdhibimcobaaDoorNums
import Derived.Lib.Join
import Derived.Lib.ItoaLen
namespace Go.Proofs.YtbocdhibimcobaaDoor.Ga
open Go.RowKit

/-- numbers of 64 bits, and not many -/
def Few (L : List Int) : Prop := 1 ≤ L.length ∧ L.length ≤ 1000 ∧ ∀ x ∈ L, -9223372036854775808 ≤ x ∧ x ≤ 9223372036854775807
theorem itoa_num {x : Int} (h : 0 ≤ x) : Lib.itoa x = Lib.decDigits x.toNat := by unfold Lib.itoa; rw [if_neg (by omega)]
def numB (x : Int) : ByteArray := ⟨(Lib.itoa x).toArray⟩
def txtL (L : List Int) : List UInt8 := Lib.join (L.map Lib.itoa) [124]
def txt (L : List Int) : ByteArray := ⟨(txtL L).toArray⟩
theorem numB_list (x : Int) : (numB x).data.toList = Lib.itoa x := by simp [numB]
theorem txt_list (L : List Int) : (txt L).data.toList = txtL L := by simp [txt]
theorem join_snoc (xs : List (List UInt8)) (x sep : List UInt8) (h : xs ≠ []) : Lib.join (xs ++ [x]) sep = Lib.join xs sep ++ sep ++ x := by
  cases xs with
  | nil => exact absurd rfl h
  | cons a r =>
    rw [List.cons_append, Lib.join_cons, Lib.join_cons]
    simp [Lib.joinTail]
theorem txt_nil : txt ([] : List Int) = ⟨#[]⟩ := rfl
theorem txt_zero (L : List Int) : txt (L.take 0) = ⟨#[]⟩ := rfl
theorem txt_one {L : List Int} (h : 0 < L.length) : txt (L.take 1) = ⟨#[]⟩ ++ numB L[0] := by
  have e : L.take 1 = [L[0]] := by rw [List.take_succ_eq_append_getElem h]; rfl
  apply bytes_ext
  rw [append_list, txt_list, numB_list, e]
  simp [txtL, Lib.join_one]
theorem txt_succ {L : List Int} {k : Nat} (h : k < L.length) (h0 : 0 < k) : txt (L.take (k + 1)) = txt (L.take k) ++ ⟨#[124]⟩ ++ numB L[k] := by
  have e : L.take (k + 1) = L.take k ++ [L[k]] := List.take_succ_eq_append_getElem h
  apply bytes_ext
  rw [append_list, append_list, txt_list, txt_list, numB_list, e]
  unfold txtL
  rw [List.map_append, List.map_cons, List.map_nil, join_snoc]
  intro hn
  have := congrArg List.length hn
  rw [List.length_map, List.length_take, List.length_nil] at this
  omega
theorem numB_size {x : Int} (h : -9223372036854775808 ≤ x ∧ x ≤ 9223372036854775807) : (numB x).size ≤ 100000 := by
  have h1 := Lib.itoa_length_le x h.1 h.2
  have h2 : (numB x).size = (Lib.itoa x).length := by show (Lib.itoa x).toArray.size = _; simp
  rw [h2]; omega
theorem txt_size {L : List Int} (hx : ∀ x ∈ L, -9223372036854775808 ≤ x ∧ x ≤ 9223372036854775807) (k : Nat) (hk : k ≤ L.length) : (txt (L.take k)).size ≤ k * 100001 := by
  induction k with
  | zero => exact Nat.zero_le _
  | succ k ih =>
    have i := ih (by omega)
    have hn := numB_size (hx L[k] (List.getElem_mem (by omega)))
    rcases Nat.eq_zero_or_pos k with h0 | h0
    · subst h0
      rw [txt_one (by omega), ByteArray.size_append]
      have : (⟨#[]⟩ : ByteArray).size = 0 := rfl
      omega
    · rw [txt_succ (by omega) h0, ByteArray.size_append, ByteArray.size_append]
      have : (⟨#[124]⟩ : ByteArray).size = 1 := rfl
      omega
theorem num_int {x : Int} (h : 0 ≤ x ∧ x ≤ 99999) (w : World) :
    Calls Tryd.prog 49 #[.int .i64 x] w fun e w' => e = .returned (.string (numB x)) ∧ Below w.heap.size w w' := by
  have e : x = ((x.toNat : Nat) : Int) := by omega
  have := num_any x.toNat w (by omega)
  rw [← e] at this
  have e2 : (⟨(Lib.decDigits x.toNat).toArray⟩ : ByteArray) = numB x := by unfold numB; rw [itoa_num h.1]
  rw [e2] at this
  exact this

end Go.Proofs.YtbocdhibimcobaaDoor.Ga
