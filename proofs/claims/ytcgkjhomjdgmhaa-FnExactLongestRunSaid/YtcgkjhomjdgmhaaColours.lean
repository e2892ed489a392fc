/- ColoursOf: the two functions, and the law's walk. No condition but the text's length. -/
import Derived.Test.YtcgkjhomjdgmhaaMirror
namespace Go.Proofs.Ytcgkjhomjdgmhaa
open Go.RowKit

/-- is a board of the fence so coloured? -/
def hasB (s : ByteArray) (c : UInt8) : Bool := decide (c ∈ s.data.toList)
theorem idx_has (c : UInt8) : ∀ l : List UInt8, (0 ≤ Lib.indexByte l c) ↔ c ∈ l
  | [] => by simp [Lib.indexByte]
  | b :: l => by
    have ih := idx_has c l
    have hg := Lib.indexByte_ge l c
    unfold Lib.indexByte
    by_cases hb : b = c
    · subst hb; simp
    · rw [if_neg (by simpa using hb)]
      have hne : ¬ c = b := fun e => hb e.symm
      simp only [List.mem_cons, hne, false_or, ← ih]
      split
      · rename_i hx
        have : Lib.indexByte l c = -1 := by simpa using hx
        omega
      · rename_i hx
        have : ¬ Lib.indexByte l c = -1 := by simpa using hx
        omega
theorem hasRune_any (s : ByteArray) (v : UInt8) (w : World) (h : v.toNat < 128) :
    Calls Try.prog 99 #[.string s, .int .i32 (v.toNat : Int)] w fun e w' => e = .returned (.bool (hasB s v)) ∧ w = w' :=
  (Try.strings_ContainsRune_ascii s (v.toNat : Int) w (by omega) (by omega)).mono fun e w' ⟨he, hw⟩ => ⟨by
    rw [he]; unfold hasB
    have : ((v.toNat : Int).toNat.toUInt8) = v := by simp
    rw [this]
    exact congrArg (fun x => Ending.returned (Value.bool x)) (decide_eq_decide.2 (idx_has v _)), hw.symm⟩

/-- the colours one after the other -/
def colN (k : Nat) : UInt8 := UInt8.ofNat (97 + k)
theorem colN_nat (k : Nat) (h : k ≤ 5) : (colN k).toNat = 97 + k := by
  unfold colN; simp; omega
def colsL (s : ByteArray) : Nat → List UInt8
  | 0 => []
  | k + 1 => colsL s k ++ if hasB s (colN k) = true then [colN k] else []
def colsS (s : ByteArray) (k : Nat) : ByteArray := ⟨(colsL s k).toArray⟩
theorem colsL_len (s : ByteArray) : ∀ k, (colsL s k).length ≤ k
  | 0 => Nat.le_refl _
  | k + 1 => by
    have := colsL_len s k
    unfold colsL
    rw [List.length_append]
    split <;> simp <;> omega
theorem colsS_size (s : ByteArray) (k : Nat) : (colsS s k).size ≤ k := colsL_len s k
theorem colsS_yes {s : ByteArray} {k : Nat} (h : hasB s (colN k) = true) : colsS s k ++ ⟨#[colN k]⟩ = colsS s (k + 1) := by
  apply bytes_ext; rw [append_list]; simp [colsS, colsL, h]
theorem colsS_no {s : ByteArray} {k : Nat} (h : hasB s (colN k) = false) : colsS s k = colsS s (k + 1) := by
  apply bytes_ext; simp [colsS, colsL, h]
def abcde : ByteArray := ⟨#[97, 98, 99, 100, 101]⟩
theorem abcde_at (k : Nat) (h : k < abcde.size) : abcde[k] = colN k := by
  have g : ∀ j : Fin 5, abcde[j.val]'(j.isLt) = colN j.val := by decide +kernel
  exact g ⟨k, h⟩

set_option maxHeartbeats 400000 in
theorem implColours_any (s : ByteArray) (w : World) (hs : s.size ≤ maxLen) :
    Calls Try.prog 48 #[.string s] w fun e w' => e = .returned (.tuple (if okFence s = true then #[.string (colsS s 5), .bool true] else #[.string ⟨#[]⟩, .bool false])) ∧ Below w.heap.size w w' := by
  cases h : okFence s
  · rw [if_neg (by decide)]
    have H := Lib.hid h; clear h
    go_enter Try.func48, Try.ntmps48
    go_wp2_with (go_at_call 56; refine (implIsFence_any s _ hs).mono ?_; rintro e w' ⟨rfl, rfl⟩; rw [H.out])
    go_ret2
    exact ⟨rfl, Below.refl _ _⟩
  · rw [if_pos rfl]
    have H := Lib.hid h; clear h
    go_enter Try.func48, Try.ntmps48
    go_wp2_with (go_at_call 56; refine (implIsFence_any s _ hs).mono ?_; rintro e w' ⟨rfl, rfl⟩; rw [H.out])
    go_loopw [4] (fun o w' => ∃ k : Nat, k ≤ abcde.size ∧ w' = w.iter abcde k ∧ o = .string (colsS s k)) (fun _ w' => abcde.size - w'.iterPos w.heap.size)
    case atStart => exact ⟨0, Nat.zero_le _, rfl, rfl⟩
    case round =>
      obtain ⟨k, hk, rfl, rfl⟩ := hrel
      by_cases hp : k < abcde.size
      · have hv := abcde_at k hp
        have h5 : k < 5 := hp
        have hcn := colN_nat k (by omega)
        have hnx0 := fun ty => run_next_ascii (P := Try.prog) w abcde k ty hp (by rw [hv]; omega)
        rw [hv] at hnx0
        have hnx : ∀ ty, (Instr.next (.pointer (some ⟨w.heap.size, 0, none⟩)) true ty).run Try.prog (w.iter abcde k) = _ := hnx0
        clear hnx0 hv
        have h128 : (colN k).toNat < 128 := by omega
        have hen := encode_ascii (colN k) h128
        have hz : (colsS s k).size ≤ 5 := Nat.le_trans (colsS_size s k) (by omega)
        clear hcn
        cases hh : hasB s (colN k)
        · have HS := Lib.hid (colsS_no hh)
          have HH := Lib.hid hh; clear hh
          go_wp2_with (go_at_call 99; refine (hasRune_any s (colN k) _ h128).mono ?_; rintro e w' ⟨rfl, rfl⟩; rw [HH.out])
          go_roundw
          case rel => exact ⟨k + 1, by omega, rfl, by rw [HS.out]⟩
          case measure => simp; omega
        · have HS := Lib.hid (colsS_yes hh)
          have HH := Lib.hid hh; clear hh
          go_wp2_with (go_at_call 99; refine (hasRune_any s (colN k) _ h128).mono ?_; rintro e w' ⟨rfl, rfl⟩; rw [HH.out])
          go_roundw
          case rel => exact ⟨k + 1, by omega, rfl, by rw [HS.out]⟩
          case measure => simp; omega
      · obtain rfl : k = abcde.size := by omega
        have hnx : ∀ ty, (Instr.next (.pointer (some ⟨w.heap.size, 0, none⟩)) true ty).run Try.prog (w.iter abcde abcde.size) = _ := fun ty => run_next_end w abcde abcde.size ty hp
        go_wp2
        go_ret2
        exact ⟨rfl, below_new w _⟩

theorem mem_take_succ (s : ByteArray) (k : Nat) (h : k < s.size) (c : UInt8) : c ∈ s.data.toList.take (k + 1) ↔ c ∈ s.data.toList.take k ∨ c = s[k] := by
  rw [List.take_succ_eq_append_getElem (by simpa using h), List.mem_append]
  simp
  rfl
theorem hasB_at {s : ByteArray} {k : Nat} (h : k < s.size) {c : UInt8} (hc : s[k] = c) : hasB s c = true := by
  unfold hasB; rw [decide_eq_true_iff, ← hc]; show s.data[k] ∈ s.data.toList; simp
theorem hasB_none {s : ByteArray} {k : Nat} (h : s.size ≤ k) {c : UInt8} (hc : ¬ c ∈ s.data.toList.take k) : hasB s c = false := by
  rw [List.take_of_length_le (by simpa using h)] at hc
  unfold hasB; rw [decide_eq_false_iff_not]; exact hc
theorem extract_one {s : ByteArray} {k : Nat} (h : k < s.size) : s.extract k (k + 1) = ⟨#[s[k]]⟩ := by
  apply bytes_ext
  rw [show (s.extract k (k + 1)).data.toList = (s.data.toList.drop k).take 1 by simp [ByteArray.data_extract, List.take_drop]]
  rw [List.drop_eq_getElem_cons (by simpa using h)]
  simp; rfl

set_option maxHeartbeats 1000000 in
theorem specColours_any (s : ByteArray) (w : World) (hs : s.size ≤ maxLen) :
    Calls Try.prog 49 #[.string s] w fun e w' => e = .returned (.tuple (if okFence s = true then #[.string (colsS s 5), .bool true] else #[.string ⟨#[]⟩, .bool false])) ∧ w = w' := by
  cases h : okFence s
  · rw [if_neg (by decide)]
    have H := Lib.hid h; clear h
    go_enter Try.func49, Try.ntmps49
    go_wp2_with (go_at_call 95; refine (stGood_any s _ hs).mono ?_; rintro e w' ⟨rfl, rfl⟩; rw [H.out])
    go_ret2
    exact ⟨rfl, rfl⟩
  · rw [if_pos rfl]
    obtain ⟨s1, s20⟩ := okFence_size h
    have H := Lib.hid h; clear h
    go_enter Try.func49, Try.ntmps49
    go_wp2_with (go_at_call 95; refine (stGood_any s _ hs).mono ?_; rintro e w' ⟨rfl, rfl⟩; rw [H.out])
    go_loop [4, 5] (fun o c => ∃ k : Nat, k ≤ 5 ∧ c = .int .u8 ((97 + k : Nat) : Int) ∧ o = .string (colsS s k)) (fun _ c => 102 - (intOf c).toNat)
    case atStart => exact ⟨0, Nat.zero_le _, rfl, rfl⟩
    case round =>
      obtain ⟨k, hk, rfl, rfl⟩ := hrel
      by_cases h5 : k < 5
      · have hcn := Lib.hid (colN_nat k (by omega))
        have hz : (colsS s k).size ≤ 5 := Nat.le_trans (colsS_size s k) (by omega)
        go_wp2
        go_loop [4, 6] (fun o i => ∃ j : Nat, j ≤ s.size ∧ i = .int .i64 j ∧ o = .string (colsS s k) ∧ ¬ colN k ∈ s.data.toList.take j) (fun _ i => s.size - (intOf i).toNat)
        case atStart => exact ⟨0, Nat.zero_le _, rfl, rfl, by simp⟩
        case round =>
          obtain ⟨j, hj, rfl, rfl, hno⟩ := hrel
          have HN := Lib.hid hno; clear hno
          by_cases hlt : j < s.size
          · have hze : (s.extract j (j + 1)).size ≤ 20 := Nat.le_trans (extract_le _ _ _) s20
            by_cases he : (s[j].toNat : Int) = ((97 + k : Nat) : Int)
            · have hb : ((s[j].toNat : Int) == ((97 + k : Nat) : Int)) = true := by simpa using he
              have HV : Hid (s[j] = colN k) := Lib.hid (UInt8.toNat_inj.1 (by rw [hcn.out]; omega))
              have HS : Hid (colsS s k ++ s.extract j (j + 1) = colsS s (k + 1)) := Lib.hid (by rw [extract_one hlt, HV.out]; exact colsS_yes (hasB_at hlt HV.out))
              clear he
              go_wp2
              go_round
              case rel => exact ⟨k + 1, by omega, by go_num, by rw [HS.out]⟩
              case measure => simp [intOf]; omega
            · have hb : ((s[j].toNat : Int) == ((97 + k : Nat) : Int)) = false := by simpa using he
              have H2 : Hid (¬ colN k ∈ s.data.toList.take (j + 1)) := Lib.hid (by
                rw [mem_take_succ s j hlt]
                rintro (h | h)
                · exact HN.out h
                · apply he; rw [← h, hcn.out])
              clear he
              go_wp2
              go_round
              case rel => exact ⟨j + 1, by omega, by go_num, rfl, H2.out⟩
              case measure => simp [intOf]; omega
          · have HS := Lib.hid (colsS_no (hasB_none (by omega) HN.out))
            go_wp2
            go_round
            case rel => exact ⟨k + 1, by omega, by go_num, by rw [HS.out]⟩
            case measure => simp [intOf]; omega
      · obtain rfl : k = 5 := by omega
        go_wp2
        go_ret2
        exact ⟨rfl, rfl⟩

set_option maxHeartbeats 400000 in
theorem lawColoursOf_walk (s : ByteArray) (w : World) (hs : s.size ≤ maxLen) :
    Calls Try.prog 20 #[.string s] w fun e w' => e = .returned (.bool true) ∧ Below w.heap.size w w' := by
  have hs0 := hs
  unfold maxLen at hs
  obtain ⟨p, q, hp⟩ : ∃ (p : ByteArray) (q : Bool), (if okFence s = true then #[.string (colsS s 5), .bool true] else #[.string ⟨#[]⟩, .bool false] : Array Value) = #[.string p, .bool q] := by
    split
    · exact ⟨_, _, rfl⟩
    · exact ⟨_, _, rfl⟩
  have S := fun W : World => specColours_any s W hs0
  have I := fun W : World => implColours_any s W hs0
  rw [hp] at S I
  clear hp
  by_cases h : s.size ≤ 1048576
  · go_enter Try.func20, Try.ntmps20
    go_wp2_with (first
      | (go_at_call 49; refine (S _).mono ?_; rintro e w1 ⟨rfl, rfl⟩)
      | (go_at_call 48; refine (I _).mono ?_; rintro e w1 ⟨rfl, hb⟩))
    go_ret
    exact ⟨rfl, hb⟩
  · go_enter Try.func20, Try.ntmps20
    go_wp2
    go_ret
    exact ⟨rfl, Below.refl _ _⟩
end Go.Proofs.Ytcgkjhomjdgmhaa
