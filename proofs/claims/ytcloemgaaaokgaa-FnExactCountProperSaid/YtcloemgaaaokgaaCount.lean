/- CountProper: the two functions, and the law's walk. No condition. -/
import Derived.Test.YtcloemgaaaokgaaEnds
import Derived.Test.YtcloemgaaaokgaaTurn
namespace Go.Proofs.Ytcloemgaaaokgaa
open Go.RowKit

/-- a fence of k bare boards -/
def bareS (k : Nat) : ByteArray := ⟨Array.replicate k 46⟩
theorem bareS_size (k : Nat) : (bareS k).size = k := by simp [bareS, ByteArray.size]
theorem bareS_list (k : Nat) : (bareS k).data.toList = List.replicate k 46 := by simp [bareS]
theorem bareS_at (n k : Nat) (h : k < (bareS n).size) : (bareS n)[k] = 46 := by
  show (Array.replicate n (46 : UInt8))[k]'(by simpa [bareS, ByteArray.size] using h) = 46
  simp
theorem bareS_succ (k : Nat) : bareS k ++ ⟨#[46]⟩ = bareS (k + 1) := by
  apply bytes_ext; rw [append_list, bareS_list, bareS_list, List.replicate_succ']

set_option maxHeartbeats 400000 in
theorem coBare_any (n : Nat) (w : World) (hn : n ≤ 20) :
    Calls Try.prog 62 #[.int .i64 n] w fun e w' => e = .returned (.string (bareS n)) ∧ w = w' := by
  go_enter Try.func62, Try.ntmps62
  go_wp2
  go_loop [0, 3] (fun b s => ∃ j : Nat, j ≤ n ∧ b = .int .i64 j ∧ s = .string (bareS (n - j))) (fun b _ => (intOf b).toNat)
  case atStart => exact ⟨n, Nat.le_refl _, rfl, by rw [Nat.sub_self]; rfl⟩
  case round =>
    obtain ⟨j, hj, rfl, rfl⟩ := hrel
    have hz : (bareS (n - j)).size ≤ 20 := by rw [bareS_size]; omega
    by_cases h0 : 0 < j
    · have HS := Lib.hid (bareS_succ (n - j))
      go_wp2
      go_round
      case rel => exact ⟨j - 1, by omega, by go_num, by rw [HS.out]; congr 2; omega⟩
      case measure => simp [intOf]; omega
    · obtain rfl : j = 0 := by omega
      go_wp2
      go_ret
      exact ⟨rfl, rfl⟩

/-- a number of tints -/
def okTints (q : Int) : Bool := decide (1 ≤ q ∧ q ≤ 5)
theorem coTints_any (q : Int) (w : World) : Calls Try.prog 87 #[.int .i64 q] w fun e w' => e = .returned (.bool (okTints q)) ∧ w = w' := by
  by_cases h : 1 ≤ q ∧ q ≤ 5
  · have H : Hid (okTints q = true) := Lib.hid (decide_eq_true h)
    go_enter Try.func87, Try.ntmps87
    go_wp2_with (go_at_call 97; refine (l1In_t _ _ _ _ h).mono ?_; rintro e w' ⟨rfl, rfl⟩)
    go_ret
    exact ⟨ret_bool H.out.symm, rfl⟩
  · have H : Hid (okTints q = false) := Lib.hid (decide_eq_false h)
    have HH := Lib.hid h
    clear h
    go_enter Try.func87, Try.ntmps87
    go_wp2_with (go_at_call 97; refine (l1In_f _ _ _ _ HH.out).mono ?_; rintro e w' ⟨rfl, rfl⟩)
    go_ret
    exact ⟨ret_bool H.out.symm, rfl⟩
theorem areTints_any (q : Int) (w : World) : Calls Try.prog 64 #[.int .i64 q] w fun e w' => e = .returned (.bool (okTints q)) ∧ w = w' := by
  by_cases h1 : 1 ≤ q
  · by_cases h2 : q ≤ 5
    · have H : Hid (okTints q = true) := Lib.hid (decide_eq_true ⟨h1, h2⟩)
      go_enter Try.func64, Try.ntmps64
      go_wp2
      go_ret
      exact ⟨ret_bool H.out.symm, rfl⟩
    · have H : Hid (okTints q = false) := Lib.hid (decide_eq_false fun h => h2 h.2)
      go_enter Try.func64, Try.ntmps64
      go_wp2
      go_ret
      exact ⟨ret_bool H.out.symm, rfl⟩
  · have H : Hid (okTints q = false) := Lib.hid (decide_eq_false fun h => h1 h.1)
    go_enter Try.func64, Try.ntmps64
    go_wp2
    go_ret
    exact ⟨ret_bool H.out.symm, rfl⟩
theorem coAsked_any (n q : Int) (around : Bool) (w : World) :
    Calls Try.prog 60 #[.int .i64 n, .int .i64 q, .bool around] w fun e w' => e = .returned (.bool (okSize n around && okTints q)) ∧ w = w' := by
  cases h : okSize n around
  · have H := Lib.hid h; clear h
    go_enter Try.func60, Try.ntmps60
    go_wp2_with (go_at_call 98; refine (coSize_any _ _ _).mono ?_; rintro e w' ⟨rfl, rfl⟩; rw [H.out])
    go_ret
    exact ⟨rfl, rfl⟩
  · have H := Lib.hid h; clear h
    go_enter Try.func60, Try.ntmps60
    go_wp2_with (first
      | (go_at_call 98; refine (coSize_any _ _ _).mono ?_; rintro e w' ⟨rfl, rfl⟩; rw [H.out])
      | (go_at_call 87; refine (coTints_any _ _).mono ?_; rintro e w' ⟨rfl, rfl⟩))
    go_ret
    exact ⟨rfl, rfl⟩

/-- how many proper fences -/
def countV (n q : Nat) (around : Bool) : Int := if around = true then ringV q n else lineV q n
theorem altV_bd (q m : Nat) (hq : q ≤ 5) (hm : m ≤ 19) : 0 ≤ altV q (m + 1) ∧ altV q (m + 1) ≤ 476837158203125 ∨ q = 0 := by
  rcases Nat.eq_zero_or_pos q with h | h
  · exact .inr h
  · left
    rw [← ends_ring q 0 m h]
    exact sumTo_bd' q hq _ _ m q (by omega) (by omega)
theorem lineV_bd (q m : Nat) (hq : q ≤ 5) (hm : m ≤ 19) : 0 ≤ lineV q (m + 1) ∧ lineV q (m + 1) ≤ 476837158203125 := by
  rw [← ends_line q m]
  exact sumTo_bd' q hq _ _ m q (by omega) (by omega)
/-- a number times another one, behind a name -/
def mulV (a : Nat) (b : Int) : Int := a * b
theorem mulV_succ (a : Nat) (b : Int) : mulV a b + b = mulV (a + 1) b := by unfold mulV; rw [Int.natCast_add, Int.add_mul]; simp
theorem mulV_bd {a : Nat} {b : Int} (ha : a ≤ 5) (h0 : 0 ≤ b) (hb : b ≤ 476837158203125) : 0 ≤ mulV a b ∧ mulV a b ≤ 2384185791015625 := by
  unfold mulV
  have h5 : a = 0 ∨ a = 1 ∨ a = 2 ∨ a = 3 ∨ a = 4 ∨ a = 5 := by omega
  rcases h5 with rfl | rfl | rfl | rfl | rfl | rfl <;> constructor <;> omega

set_option maxHeartbeats 1000000 in
theorem coFrom_bare (n q : Nat) (around : Bool) (w : World) (h1 : 1 ≤ n) (h20 : n ≤ 20) (hr : around = true → 3 ≤ n) (hq1 : 1 ≤ q) (hq : q ≤ 5) :
    Calls Try.prog 61 #[.string (bareS n), .int .i64 q, .bool around, .int .i64 0] w fun e w' => e = .returned (.int .i64 (countV n q around)) ∧ Below w.heap.size w w' := by
  have hs := bareS_size n
  have HA := Lib.hid (bareS_at n)
  cases around
  · have hc : ∀ W : World, Calls Try.prog 99 #[.string (bareS n), .int .i64 q, .int .i64 0, .int .i64 (-1), .int .i64 (-1)] W fun e w' => e = .returned (.int .i64 (lineV q n)) ∧ Below W.heap.size W w' := fun W => by
      have := coEnds_bare (bareS n) q 0 (-1) (-1) W (by omega) HA.out hq (by omega)
      rw [ends_line, show (bareS n).size - 1 - 0 + 1 = n by omega] at this
      exact this
    have HC := Lib.hid hc
    clear hc hs HA hr
    go_enter Try.func61, Try.ntmps61
    go_wp2_with (go_at_call 99; refine (HC.out _).mono ?_; rintro e w1 ⟨rfl, hb⟩)
    go_ret
    exact ⟨rfl, hb⟩
  · have h3 := hr rfl
    have hcall : ∀ (t : Nat) (W : World), t < q → Calls Try.prog 99 #[.string (bareS n), .int .i64 q, .int .i64 1, .int .i64 t, .int .i64 t] W fun e w' => e = .returned (.int .i64 (altV q (n - 1))) ∧ Below W.heap.size W w' := by
      intro t W ht
      have := coEnds_bare (bareS n) q 1 t t W (by omega) HA.out hq (by omega)
      rw [ends_ring q t _ ht, show (bareS n).size - 1 - 1 + 1 = n - 1 by omega] at this
      exact this
    have HC := Lib.hid hcall
    have hb0 : 0 ≤ altV q (n - 1) ∧ altV q (n - 1) ≤ 476837158203125 := by
      rcases altV_bd q (n - 2) hq (by omega) with h | h
      · rw [show n - 2 + 1 = n - 1 by omega] at h; exact h
      · omega
    have HL : Hid (∀ h : 0 < (bareS n).size, (bareS n)[0] = 46) := Lib.hid fun h => HA.out 0 h
    have hlt0 : 0 < (bareS n).size := by omega
    have HCA := Lib.hid fun (t : Int) W => coAllows_bare (bareS n) 0 t W hlt0 (HL.out hlt0)
    clear hcall hs HA hr HL hlt0
    obtain ⟨b1, b2⟩ := hb0
    go_enter Try.func61, Try.ntmps61
    go_wp2
    go_loopw [10, 11] (fun u t wr => ∃ j : Nat, j ≤ q ∧ t = .int .i64 j ∧ u = .int .i64 (mulV j (altV q (n - 1))) ∧ Below w.heap.size w wr) (fun _ t _ => q - (intOf t).toNat)
    case atStart => exact ⟨0, Nat.zero_le _, rfl, by simp [mulV], Below.refl _ _⟩
    case round =>
      obtain ⟨j, hj, rfl, rfl, hb⟩ := hrel
      by_cases hlt : j < q
      · have HM := Lib.hid (mulV_succ j (altV q (n - 1)))
        obtain ⟨m1, m2⟩ := mulV_bd (a := j) (by omega) b1 b2
        go_wp2_with (first
          | (go_at_call 100; refine (HCA.out _ _).mono ?_; rintro e w' ⟨rfl, rfl⟩)
          | (go_at_call 99; refine (HC.out j _ hlt).mono ?_; rintro e w1 ⟨rfl, hb1⟩))
        go_roundw
        case rel => exact ⟨j + 1, by omega, by go_num, by rw [HM.out], below_next hb hb1⟩
        case measure => simp [intOf]; omega
      · obtain rfl : j = q := by omega
        go_wp2
        go_ret
        exact ⟨rfl, hb⟩
end Go.Proofs.Ytcloemgaaaokgaa
