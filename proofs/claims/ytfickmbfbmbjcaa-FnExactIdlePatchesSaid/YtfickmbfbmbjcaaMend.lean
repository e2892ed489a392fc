/- MendBoards of both sides; stretches of the program. No condition but the text's length. -/
import Derived.Test.YtfickmbfbmbjcaaBreak
import Derived.Test.YtfickmbfbmbjcaaShelf
namespace Go.Proofs.Ytfickmbfbmbjcaa
open Go.RowKit

def repO (n : Nat) : ByteArray := ⟨(List.replicate n (111 : UInt8)).toArray⟩
theorem repO_list (n : Nat) : (repO n).data.toList = List.replicate n 111 := by simp [repO]
theorem repO_size (n : Nat) : (repO n).size = n := by
  show (List.replicate n (111 : UInt8)).toArray.size = n
  simp
theorem repeat_o : ∀ n, Lib.repeatL [111] n = List.replicate n (111 : UInt8)
  | 0 => rfl
  | n + 1 => by rw [Lib.repeatL, repeat_o n]; rfl
theorem repO_succ (n : Nat) : repO n ++ ⟨#[111]⟩ = repO (n + 1) := by
  apply bytes_ext; rw [append_list, repO_list, repO_list, List.replicate_succ']
/-- a yard with the boards a .. b sound -/
def mendS (s : ByteArray) (a b : Nat) : ByteArray := s.extract 0 a ++ repO (b + 1 - a) ++ s.extract (b + 1) s.size
set_option maxRecDepth 20000 in
theorem cells2 (w : World) (a b : Int) (t : TypeId) : (w.alloc (.cells #[.int .i64 a, .int .i64 b] t)).cell? ⟨w.heap.size, 0, none⟩ = some (.int .i64 a) ∧ (w.alloc (.cells #[.int .i64 a, .int .i64 b] t)).cell? ⟨w.heap.size, 1, none⟩ = some (.int .i64 b) := by
  constructor
  · rw [cell_of_row _ w.heap.size 0 _ t (0, 0) (heap_alloc_new w _)]; rfl
  · rw [cell_of_row _ w.heap.size 1 _ t (0, 0) (heap_alloc_new w _)]; rfl

set_option maxHeartbeats 1000000 in
theorem stLong_any (a b : Int) (w : World) (h1 : -1048576 ≤ a) (h2 : a ≤ 1048576) (h3 : -1048576 ≤ b) (h4 : b < 1048576) :
    Calls Try.prog 83 #[.agg #[.int .i64 a, .int .i64 b]] w fun e w' => e = .returned (.int .i64 (b - a + 1)) ∧ Below w.heap.size w w' := by
  go_enter Try.func83, Try.ntmps83
  go_wp2
  go_ret
  exact ⟨rfl, below_new w _⟩

set_option maxHeartbeats 1000000 in
theorem stIsIn_any (a b : Int) (s : ByteArray) (w : World) (hs : s.size ≤ maxLen) :
    Calls Try.prog 106 #[.agg #[.int .i64 a, .int .i64 b], .string s] w fun e w' => e = .returned (.bool (decide (0 ≤ a ∧ a ≤ b ∧ b < s.size))) ∧ Below w.heap.size w w' := by
  unfold maxLen at hs
  by_cases h1 : 0 ≤ a
  · by_cases h2 : a ≤ b
    · by_cases h3 : b < (s.size : Int)
      · rw [decide_eq_true (show 0 ≤ a ∧ a ≤ b ∧ b < (s.size : Int) from ⟨h1, h2, h3⟩)]
        go_enter Try.func106, Try.ntmps106
        go_wp2
        go_ret
        exact ⟨rfl, below_new w _⟩
      · rw [decide_eq_false (show ¬ (0 ≤ a ∧ a ≤ b ∧ b < (s.size : Int)) from fun h => h3 h.2.2)]
        go_enter Try.func106, Try.ntmps106
        go_wp2
        go_ret
        exact ⟨rfl, below_new w _⟩
    · rw [decide_eq_false (show ¬ (0 ≤ a ∧ a ≤ b ∧ b < (s.size : Int)) from fun h => h2 h.2.1)]
      go_enter Try.func106, Try.ntmps106
      go_wp2
      go_ret
      exact ⟨rfl, below_new w _⟩
  · rw [decide_eq_false (show ¬ (0 ≤ a ∧ a ≤ b ∧ b < (s.size : Int)) from fun h => h1 h.1)]
    go_enter Try.func106, Try.ntmps106
    go_wp2
    go_ret
    exact ⟨rfl, below_new w _⟩

set_option maxHeartbeats 4000000 in
theorem mended_any (s : ByteArray) (a b : Nat) (w : World) (hab : a ≤ b) (hb : b < s.size) (hz : s.size ≤ 30) :
    Calls Try.prog 107 #[.string s, .agg #[.int .i64 a, .int .i64 b]] w fun e w' => e = .returned (.string (mendS s a b)) ∧ Below w.heap.size w w' := by
  have h1 := ext_le s 0 a
  have h2 := ext_le s (b + 1) s.size
  have a0 : (0 : Int) ≤ (a : Int) := by omega
  have a1 : (a : Int) ≤ (s.size : Int) := by omega
  have b0 : (0 : Int) ≤ (b : Int) + 1 := by omega
  have b1 : (b : Int) + 1 ≤ (s.size : Int) := by omega
  have e1 : ((b : Int) + 1).toNat = b + 1 := by omega
  obtain ⟨n, hn⟩ : ∃ n, n = b + 1 - a := ⟨_, rfl⟩
  have hn1 : n ≤ 30 := by omega
  have hrs := repO_size n
  have hc1 : ¬ 9223372036854775807 < min a s.size + n := by omega
  have hc2 : ¬ 9223372036854775807 < min a s.size + n + (s.size - (b + 1)) := by omega
  have hwr : IntKind.i64.wrap ((b : Int) + 1) = (b : Int) + 1 := IntWalk.i64_in _ (by omega)
  have HL := Lib.hid fun W => stLong_any a b W (by omega) (by omega) (by omega) (by omega)
  rw [show (b : Int) - (a : Int) + 1 = (n : Int) by omega] at HL
  have HR : Hid (∀ W, Calls Try.prog 79 #[.string ⟨#[111]⟩, .int .i64 n] W fun e w' => e = .returned (.string (repO n)) ∧ Below W.heap.size W w') := Lib.hid fun W => by
    have h := Try.strings_Repeat ⟨#[111]⟩ n W (by omega) (by show 1 * n ≤ _; omega)
    rw [show (⟨(Lib.repeatL ((⟨#[111]⟩ : ByteArray).data.toList) n).toArray⟩ : ByteArray) = repO n by unfold repO; rw [← repeat_o]] at h
    exact h
  have HE : Hid (mendS s a b = s.extract 0 a ++ repO n ++ s.extract (b + 1) s.size) := Lib.hid (by unfold mendS; rw [hn])
  clear hn
  have HC := Lib.hid (cells2 w a b 65)
  have HB0 := Lib.hid (below_new w (.cells #[.int .i64 a, .int .i64 b] 65))
  have HK : Hid (∀ W, Below (w.alloc (.cells #[.int .i64 a, .int .i64 b] 65)).heap.size (w.alloc (.cells #[.int .i64 a, .int .i64 b] 65)) W → W.cell? ⟨w.heap.size, 0, none⟩ = some (.int .i64 a) ∧ W.cell? ⟨w.heap.size, 1, none⟩ = some (.int .i64 b)) := Lib.hid fun W h => ⟨by rw [(bcell h).1 w.heap.size 0 (by simp)]; exact HC.out.1, by rw [(bcell h).1 w.heap.size 1 (by simp)]; exact HC.out.2⟩
  go_enter Try.func107, Try.ntmps107
  go_wp2
  go_region_held3 (fun x => x.cell? ⟨w.heap.size, 0, none⟩ = some (.int .i64 a) ∧ x.cell? ⟨w.heap.size, 1, none⟩ = some (.int .i64 b))
    (first | go_keep | exact HC.out | exact HK.out _ HB1.out | exact HK.out _ HB2.out)
    (first
      | (go_at_call 83; refine (HL.out _).mono ?_; rintro e w1 ⟨rfl, hbx⟩; have HB1 := Lib.hid (below_next (Below.refl _ _).drew hbx); clear hbx)
      | (go_at_call 79; refine (HR.out _).mono ?_; rintro e w2 ⟨rfl, hbx⟩; have HB2 := Lib.hid (below_next HB1.out hbx); clear hbx))
  go_wp2
  go_ret
  exact ⟨ret_str HE.out.symm, below_nextN HB0.out HB0.out.size HB2.out⟩
end Go.Proofs.Ytfickmbfbmbjcaa
