/- 'laws.markText': the letter m and a number's digits. No condition but the bound in the statement. -/
import Derived.Test.YtohmodjigneldaaStrkList
import Derived.Laws.BytesString
import Derived.Laws.Cells
namespace Go.Proofs.Ytohmodjigneldaa
open Go.RowKit

/-- a number's last digit -/
def digC (k : Nat) : UInt8 := UInt8.ofNat (48 + k % 10)
/-- a number's digits, none for 0 -/
def digL (k : Nat) : List UInt8 := if _h : k = 0 then [] else digL (k / 10) ++ [digC k]
termination_by k
decreasing_by omega
theorem digL_zero : digL 0 = [] := by rw [digL]; rfl
theorem digL_pos {k : Nat} (h : 0 < k) : digL k = digL (k / 10) ++ [digC k] := by
  rw [digL, dif_neg (by omega)]
theorem digL_len : ∀ k, (digL k).length ≤ k
  | 0 => by rw [digL_zero]; exact Nat.le_refl _
  | k + 1 => by
    rw [digL_pos (by omega), List.length_append]
    have := digL_len ((k + 1) / 10)
    simp; omega
def markB (k : Nat) : ByteArray := if k = 0 then ⟨#[109, 48]⟩ else ⟨(109 :: digL k).toArray⟩
theorem markB_zero : markB 0 = ⟨#[109, 48]⟩ := rfl
theorem markB_pos {k : Nat} (h : 0 < k) : markB k = ⟨#[109]⟩ ++ ⟨(digL k).toArray⟩ := by
  unfold markB; rw [if_neg (by omega)]; apply bytes_ext; rw [append_list]; simp
/-- digits written so far, before some others -/
def digB (k : Nat) (out : List UInt8) : ByteArray := ⟨(digL k ++ out).toArray⟩
def outB (l : List UInt8) : ByteArray := ⟨l.toArray⟩
theorem outB_size (l : List UInt8) : (outB l).size = l.length := by show l.toArray.size = _; simp
theorem outB_cons (c : UInt8) (l : List UInt8) : (⟨#[c]⟩ : ByteArray) ++ outB l = outB (c :: l) := by apply bytes_ext; rw [append_list]; simp [outB]

theorem one_byte (w : World) (t : TypeId) (x : Int) :
    (convert 59 9 (.slice (some ⟨w.heap.size, 0, none⟩) 1 1)).run Try.prog (w.alloc (.cells #[.int .u8 x] t)) = .ok (.string ⟨#[UInt8.ofNat x.toNat]⟩) (w.alloc (.cells #[.int .u8 x] t)) := by
  rw [run_convert_bytes_string _ _ _ 5 _ _ _ Try.underlying59 Try.underlying5 Try.underlying9]
  rw [run_bytesToString _ _ 1 1 [x]]
  · rfl
  · refine run_loadCells_list _ _ [.int .u8 x] fun j v hv => ?_
    match j, hv with
    | 0, hv =>
      simp at hv
      subst hv
      rw [show (⟨w.heap.size, 0, none⟩ : Addr).add 0 = ⟨w.heap.size, 0, none⟩ from rfl, cell_of_row _ w.heap.size 0 #[.int .u8 x] t (0, 0) (heap_alloc_new w _)]
      rfl
theorem digit_nat (j : Nat) : ((48 : Int) + (j : Int) % 10).toNat = 48 + j % 10 := by omega

set_option maxHeartbeats 1000000 in
set_option maxRecDepth 20000 in
theorem markText_any (k : Nat) (w : World) (hk : k ≤ 9000000) :
    Calls Try.prog 34 #[.int .i64 k] w fun e w' => e = .returned (.string (markB k)) ∧ Below w.heap.size w w' := by
  rcases Nat.eq_zero_or_pos k with h0 | h0
  · subst h0
    go_enter Try.func34, Try.ntmps34
    go_wp2
    go_ret
    exact ⟨rfl, Below.refl _ _⟩
  · have k0 : (0 : Int) < (k : Int) := by omega
    go_enter Try.func34, Try.ntmps34
    go_wp2
    go_loopw [0, 3] (fun u o wr => ∃ (j : Nat) (l : List UInt8), u = .int .i64 j ∧ o = .string (outB l) ∧ digL j ++ l = digL k ∧ j ≤ k ∧ Below w.heap.size w wr) (fun u _ _ => (intOf u).toNat)
    case atStart => exact ⟨k, [], rfl, rfl, by simp, Nat.le_refl _, Below.refl _ _⟩
    case round =>
      obtain ⟨j, l, rfl, rfl, hl, hj, hb⟩ := hrel
      have hlen : l.length ≤ 9000000 := by have := congrArg List.length hl; rw [List.length_append] at this; have := digL_len k; omega
      have hz : (outB l).size ≤ 9000000 := by rw [outB_size]; exact hlen
      have HL := Lib.hid hl
      clear hl
      rcases Nat.eq_zero_or_pos j with hj0 | hj0
      · subst hj0
        have HE : Hid ((⟨#[109]⟩ : ByteArray) ++ outB l = markB k) := Lib.hid (by rw [markB_pos h0, ← HL.out, digL_zero]; rfl)
        go_wp2
        go_ret
        exact ⟨ret_str HE.out, hb⟩
      · have j0 : (0 : Int) < (j : Int) := by omega
        have hconv := one_byte wr 5 (48 + (j : Int) % 10)
        rw [digit_nat, show UInt8.ofNat (48 + j % 10) = digC j from rfl] at hconv
        have HO : Hid ((⟨#[digC j]⟩ : ByteArray) ++ outB l = outB (digC j :: l)) := Lib.hid (outB_cons _ _)
        have HD : Hid (digL (j / 10) ++ (digC j :: l) = digL k) := Lib.hid (by rw [← HL.out, digL_pos hj0, List.append_assoc]; rfl)
        go_wp2
        go_roundw
        case rel => exact ⟨j / 10, digC j :: l, rfl, by rw [HO.out], HD.out, by omega, hb.alloc hb.size _⟩
        case measure => simp [intOf]; omega
end Go.Proofs.Ytohmodjigneldaa
