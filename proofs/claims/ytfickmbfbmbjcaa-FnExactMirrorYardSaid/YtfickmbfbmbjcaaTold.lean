/- A text told from the right: 'impl.toldFromRight' on texts of bytes below 128. No condition but the text's length. -/
import Derived.Test.YtfickmbfbmbjcaaBase
import Derived.Laws.RangeAny
namespace Go.Proofs.Ytfickmbfbmbjcaa
open Go.RowKit

theorem bytes_eq {a b : ByteArray} (h : a.data.toList = b.data.toList) : a = b := by
  obtain ⟨⟨a⟩⟩ := a; obtain ⟨⟨b⟩⟩ := b; simp at h; rw [h]
theorem bytes_app (a b : ByteArray) : (a ++ b).data.toList = a.data.toList ++ b.data.toList := by simp
theorem encode_ascii (c : UInt8) (h : c.toNat < 128) : Utf8.encode (c.toNat : Int) = ⟨#[c]⟩ := by
  have g : ∀ n : Fin 128, Utf8.encode (((UInt8.ofNat n.val).toNat : Nat) : Int) = ⟨#[UInt8.ofNat n.val]⟩ := by decide +kernel
  have := g ⟨c.toNat, h⟩
  simpa using this
/-- the first k boards told from the right -/
def mirS (s : ByteArray) (k : Nat) : ByteArray := ⟨(s.data.toList.take k).reverse.toArray⟩
theorem mirS_list (s : ByteArray) (k : Nat) : (mirS s k).data.toList = (s.data.toList.take k).reverse := by simp [mirS]
theorem mirS_size (s : ByteArray) (k : Nat) : (mirS s k).size ≤ k := by
  show (s.data.toList.take k).reverse.toArray.size ≤ k
  simp; omega
theorem mirS_succ (s : ByteArray) (k : Nat) (h : k < s.size) : (⟨#[s[k]]⟩ : ByteArray) ++ mirS s k = mirS s (k + 1) := by
  apply bytes_eq
  rw [bytes_app, mirS_list, mirS_list, List.take_succ_eq_append_getElem (by simpa using h), List.reverse_append]
  rfl
/-- the boards behind the first k, told from the right -/
def mirB (s : ByteArray) (k : Nat) : ByteArray := ⟨(s.data.toList.drop k).reverse.toArray⟩
theorem mirB_list (s : ByteArray) (k : Nat) : (mirB s k).data.toList = (s.data.toList.drop k).reverse := by simp [mirB]
theorem mirB_size (s : ByteArray) (k : Nat) : (mirB s k).size ≤ s.size := by
  show (s.data.toList.drop k).reverse.toArray.size ≤ _
  simp
theorem mirB_succ (s : ByteArray) (k : Nat) (h : k < s.size) : mirB s (k + 1) ++ s.extract k (k + 1) = mirB s k := by
  apply bytes_eq
  have e := List.drop_eq_getElem_cons (l := s.data.toList) (i := k) (by simpa using h)
  rw [bytes_app, mirB_list, mirB_list, show (s.extract k (k + 1)).data.toList = (s.data.toList.drop k).take 1 by simp [ByteArray.data_extract, List.take_drop], e, List.reverse_cons]
  rfl
theorem mirB_zero (s : ByteArray) : mirB s 0 = mirS s s.size := by
  apply bytes_eq; rw [mirB_list, mirS_list, List.drop_zero, List.take_of_length_le (by simp)]
theorem mirB_end (s : ByteArray) : mirB s s.size = ⟨#[]⟩ := by
  apply bytes_eq; rw [mirB_list]; simp

set_option maxHeartbeats 400000 in
theorem told_any (s : ByteArray) (w : World) (hs : s.size ≤ 30) (ha : ∀ (k : Nat) (h : k < s.size), s[k].toNat < 128) :
    Calls Try.prog 108 #[.string s] w fun e w' => e = .returned (.string (mirS s s.size)) ∧ Below w.heap.size w w' := by
  have HA := Lib.hid ha
  clear ha
  go_enter Try.func108, Try.ntmps108
  go_wp2
  go_loopw [3] (fun o w' => ∃ k : Nat, k ≤ s.size ∧ w' = w.iter s k ∧ o = .string (mirS s k)) (fun _ w' => s.size - w'.iterPos w.heap.size)
  case atStart => exact ⟨0, Nat.zero_le _, rfl, rfl⟩
  case round =>
    obtain ⟨k, hk, rfl, rfl⟩ := hrel
    by_cases hp : k < s.size
    · have h128 := HA.out k hp
      have hnx : ∀ ty, (Instr.next (.pointer (some ⟨w.heap.size, 0, none⟩)) true ty).run Try.prog (w.iter s k) = _ := fun ty => run_next_ascii w s k ty hp h128
      have hen := encode_ascii s[k] h128
      have hz : (mirS s k).size ≤ 30 := Nat.le_trans (mirS_size s k) (by omega)
      have HS := Lib.hid (mirS_succ s k hp)
      go_wp2
      go_roundw
      case rel => exact ⟨k + 1, by omega, rfl, by rw [HS.out]⟩
      case measure => simp; omega
    · obtain rfl : k = s.size := by omega
      have hnx : ∀ ty, (Instr.next (.pointer (some ⟨w.heap.size, 0, none⟩)) true ty).run Try.prog (w.iter s s.size) = _ := fun ty => run_next_end w s s.size ty hp
      go_wp2
      go_ret
      exact ⟨rfl, (Below.refl _ _).alloc (Nat.le_refl _) _⟩
end Go.Proofs.Ytfickmbfbmbjcaa
