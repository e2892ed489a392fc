/- MirrorFence: the two functions, and the law's walk. No condition but the text's length. -/
import Derived.Test.YtcgkjhomjdgmhaaJoin
namespace Go.Proofs.Ytcgkjhomjdgmhaa
open Go.RowKit

theorem ret_sb {a b : ByteArray} {x : Bool} (h : a = b) : Ending.returned (.tuple #[.string a, .bool x]) = .returned (.tuple #[.string b, .bool x]) := by rw [h]
theorem encode_ascii (c : UInt8) (h : c.toNat < 128) : Utf8.encode (c.toNat : Int) = ⟨#[c]⟩ := by
  have g : ∀ n : Fin 128, Utf8.encode (((UInt8.ofNat n.val).toNat : Nat) : Int) = ⟨#[UInt8.ofNat n.val]⟩ := by decide +kernel
  have := g ⟨c.toNat, h⟩
  simpa using this
/-- the first k boards told from the right -/
def mirS (s : ByteArray) (k : Nat) : ByteArray := ⟨(s.data.toList.take k).reverse.toArray⟩
theorem mirS_list (s : ByteArray) (k : Nat) : (mirS s k).data.toList = (s.data.toList.take k).reverse := by simp [mirS]
theorem mirS_size (s : ByteArray) (k : Nat) : (mirS s k).size ≤ k := by
  show (s.data.toList.take k).reverse.toArray.size ≤ k
  simp; omega
theorem mirS_succ (s : ByteArray) (k : Nat) (h : k < s.size) : (⟨#[s[k]]⟩ : ByteArray) ++ mirS s k = mirS s (k + 1) := by
  apply bytes_ext
  rw [append_list, mirS_list, mirS_list, List.take_succ_eq_append_getElem (by simpa using h), List.reverse_append]
  rfl
/-- the boards behind the first k, told from the right -/
def mirB (s : ByteArray) (k : Nat) : ByteArray := ⟨(s.data.toList.drop k).reverse.toArray⟩
theorem mirB_list (s : ByteArray) (k : Nat) : (mirB s k).data.toList = (s.data.toList.drop k).reverse := by simp [mirB]
theorem mirB_size (s : ByteArray) (k : Nat) : (mirB s k).size ≤ s.size := by
  show (s.data.toList.drop k).reverse.toArray.size ≤ _
  simp
theorem mirB_succ (s : ByteArray) (k : Nat) (h : k < s.size) : mirB s (k + 1) ++ s.extract k (k + 1) = mirB s k := by
  apply bytes_ext
  have e := List.drop_eq_getElem_cons (l := s.data.toList) (i := k) (by simpa using h)
  rw [append_list, mirB_list, mirB_list, show (s.extract k (k + 1)).data.toList = (s.data.toList.drop k).take 1 by simp [ByteArray.data_extract, List.take_drop], e, List.reverse_cons]
  rfl
theorem mirB_zero (s : ByteArray) : mirB s 0 = mirS s s.size := by
  apply bytes_ext; rw [mirB_list, mirS_list, List.drop_zero, List.take_of_length_le (by simp)]
theorem mirB_end (s : ByteArray) : mirB s s.size = ⟨#[]⟩ := by
  apply bytes_ext; rw [mirB_list]; simp

theorem okFence_at {s : ByteArray} (h : okFence s = true) (k : Nat) (hk : k < s.size) : okB s[k] = true := by
  unfold okFence at h
  rw [Bool.and_eq_true, List.all_eq_true] at h
  exact h.2 _ (by show s.data[k] ∈ s.data.toList; simp)
theorem okB_128 {c : UInt8} (h : okB c = true) : c.toNat < 128 := by
  unfold okB at h; have := of_decide_eq_true h; omega

set_option maxHeartbeats 400000 in
theorem specMirror_any (s : ByteArray) (w : World) (hs : s.size ≤ maxLen) :
    Calls Try.prog 79 #[.string s] w fun e w' => e = .returned (.tuple (if okFence s = true then #[.string (mirS s s.size), .bool true] else #[.string ⟨#[]⟩, .bool false])) ∧ w = w' := by
  cases h : okFence s
  · rw [if_neg (by decide)]
    have H := Lib.hid h; clear h
    go_enter Try.func79, Try.ntmps79
    go_wp2_with (go_at_call 95; refine (stGood_any s _ hs).mono ?_; rintro e w' ⟨rfl, rfl⟩; rw [H.out])
    go_ret2
    exact ⟨rfl, rfl⟩
  · rw [if_pos rfl]
    obtain ⟨s1, s20⟩ := okFence_size h
    have H := Lib.hid h; clear h
    go_enter Try.func79, Try.ntmps79
    go_wp2_with (go_at_call 95; refine (stGood_any s _ hs).mono ?_; rintro e w' ⟨rfl, rfl⟩; rw [H.out])
    go_loop [4, 5] (fun o i => ∃ k : Nat, k ≤ s.size ∧ i = .int .i64 ((k : Int) - 1) ∧ o = .string (mirB s k)) (fun _ i => (intOf i + 1).toNat)
    case atStart => exact ⟨s.size, Nat.le_refl _, rfl, by rw [mirB_end]⟩
    case round =>
      obtain ⟨k, hk, rfl, rfl⟩ := hrel
      by_cases h0 : 1 ≤ k
      · obtain ⟨j, rfl⟩ : ∃ j, k = j + 1 := ⟨k - 1, by omega⟩
        have hz : (mirB s (j + 1)).size ≤ 20 := Nat.le_trans (mirB_size _ _) s20
        have hz2 : (s.extract j (j + 1)).size ≤ 20 := Nat.le_trans (extract_le _ _ _) s20
        have HS := Lib.hid (mirB_succ s j (by omega))
        have e1 : ((j + 1 : Nat) : Int) - 1 = (j : Int) := by omega
        rw [e1]
        clear e1
        go_wp2
        go_round
        case rel => exact ⟨j, by omega, rfl, by rw [HS.out]⟩
        case measure => simp [intOf]
      · obtain rfl : k = 0 := by omega
        have HZ := Lib.hid (mirB_zero s)
        rw [show ((0 : Nat) : Int) - 1 = -1 from rfl]
        go_wp2
        go_ret2
        exact ⟨ret_sb HZ.out, rfl⟩

set_option maxHeartbeats 400000 in
theorem implMirror_any (s : ByteArray) (w : World) (hs : s.size ≤ maxLen) :
    Calls Try.prog 38 #[.string s] w fun e w' => e = .returned (.tuple (if okFence s = true then #[.string (mirS s s.size), .bool true] else #[.string ⟨#[]⟩, .bool false])) ∧ Below w.heap.size w w' := by
  cases h : okFence s
  · rw [if_neg (by decide)]
    have H := Lib.hid h; clear h
    go_enter Try.func38, Try.ntmps38
    go_wp2_with (go_at_call 56; refine (implIsFence_any s _ hs).mono ?_; rintro e w' ⟨rfl, rfl⟩; rw [H.out])
    go_ret2
    exact ⟨rfl, Below.refl _ _⟩
  · rw [if_pos rfl]
    obtain ⟨s1, s20⟩ := okFence_size h
    have HA := Lib.hid (okFence_at h)
    have H := Lib.hid h; clear h
    go_enter Try.func38, Try.ntmps38
    go_wp2_with (go_at_call 56; refine (implIsFence_any s _ hs).mono ?_; rintro e w' ⟨rfl, rfl⟩; rw [H.out])
    go_loopw [4] (fun o w' => ∃ k : Nat, k ≤ s.size ∧ w' = w.iter s k ∧ o = .string (mirS s k)) (fun _ w' => s.size - w'.iterPos w.heap.size)
    case atStart => exact ⟨0, Nat.zero_le _, rfl, rfl⟩
    case round =>
      obtain ⟨k, hk, rfl, rfl⟩ := hrel
      by_cases hp : k < s.size
      · have h128 := okB_128 (HA.out k hp)
        have hnx : ∀ ty, (Instr.next (.pointer (some ⟨w.heap.size, 0, none⟩)) true ty).run Try.prog (w.iter s k) = _ := fun ty => run_next_ascii w s k ty hp h128
        have hen := encode_ascii s[k] h128
        have hz : (mirS s k).size ≤ 20 := Nat.le_trans (mirS_size s k) (by omega)
        have HS := Lib.hid (mirS_succ s k hp)
        go_wp2
        go_roundw
        case rel => exact ⟨k + 1, by omega, rfl, by rw [HS.out]⟩
        case measure => simp; omega
      · obtain rfl : k = s.size := by omega
        have hnx : ∀ ty, (Instr.next (.pointer (some ⟨w.heap.size, 0, none⟩)) true ty).run Try.prog (w.iter s s.size) = _ := fun ty => run_next_end w s s.size ty hp
        go_wp2
        go_ret2
        exact ⟨rfl, below_new w _⟩

set_option maxHeartbeats 400000 in
theorem lawMirrorFence_walk (s : ByteArray) (w : World) (hs : s.size ≤ maxLen) :
    Calls Try.prog 21 #[.string s] w fun e w' => e = .returned (.bool true) ∧ Below w.heap.size w w' := by
  have hs0 := hs
  unfold maxLen at hs
  obtain ⟨p, q, hp⟩ : ∃ (p : ByteArray) (q : Bool), (if okFence s = true then #[.string (mirS s s.size), .bool true] else #[.string ⟨#[]⟩, .bool false] : Array Value) = #[.string p, .bool q] := by
    split
    · exact ⟨_, _, rfl⟩
    · exact ⟨_, _, rfl⟩
  have S := fun W : World => specMirror_any s W hs0
  have I := fun W : World => implMirror_any s W hs0
  rw [hp] at S I
  clear hp
  by_cases h : s.size ≤ 1048576
  · go_enter Try.func21, Try.ntmps21
    go_wp2_with (first
      | (go_at_call 79; refine (S _).mono ?_; rintro e w1 ⟨rfl, rfl⟩)
      | (go_at_call 38; refine (I _).mono ?_; rintro e w1 ⟨rfl, hb⟩))
    go_ret
    exact ⟨rfl, hb⟩
  · go_enter Try.func21, Try.ntmps21
    go_wp2
    go_ret
    exact ⟨rfl, Below.refl _ _⟩
end Go.Proofs.Ytcgkjhomjdgmhaa
