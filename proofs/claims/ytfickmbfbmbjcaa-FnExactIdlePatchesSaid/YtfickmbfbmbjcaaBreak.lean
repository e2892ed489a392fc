/- BreakBoard of both sides. No condition but the text's length. -/
import Derived.Test.YtfickmbfbmbjcaaBrok
namespace Go.Proofs.Ytfickmbfbmbjcaa
open Go.RowKit

/-- a yard with a board broken -/
def brkS (s : ByteArray) (k : Nat) : ByteArray := s.extract 0 k ++ ⟨#[120]⟩ ++ s.extract (k + 1) s.size
theorem ext_le (s : ByteArray) (a b : Nat) : (s.extract a b).size ≤ s.size := by rw [ByteArray.size_extract]; omega

set_option maxHeartbeats 1000000 in
theorem withBroken_any (s : ByteArray) (k : Nat) (w : World) (hk : k < s.size) (hz : s.size ≤ 30) :
    Calls Try.prog 80 #[.string s, .int .i64 k] w fun e w' => e = .returned (.string (brkS s k)) ∧ ∃ d, w' = w.drewN d := by
  have h1 := ext_le s 0 k
  have h2 := ext_le s (k + 1) s.size
  have k0 : (0 : Int) ≤ (k : Int) := by omega
  have k1 : (k : Int) ≤ (s.size : Int) := by omega
  have k2 : (k : Int) + 1 ≤ (s.size : Int) := by omega
  have k3 : (0 : Int) ≤ (k : Int) + 1 := by omega
  have e2 : ((k : Int) + 1).toNat = k + 1 := by omega
  go_enter Try.func80, Try.ntmps80
  go_wp2
  go_quiet (fail)
  go_wp2
  go_ret
  exact ⟨rfl, _, rfl⟩
set_option maxHeartbeats 1000000 in
theorem reBreak_any (s : ByteArray) (k : Nat) (w : World) (hk : k < s.size) (hz : s.size ≤ 30) :
    Calls Try.prog 105 #[.string s, .int .i64 k] w fun e w' => e = .returned (.string (brkS s k)) ∧ ∃ d, w' = w.drewN d := by
  have h1 := ext_le s 0 k
  have h2 := ext_le s (k + 1) s.size
  have k0 : (0 : Int) ≤ (k : Int) := by omega
  have k1 : (k : Int) ≤ (s.size : Int) := by omega
  have k2 : (k : Int) + 1 ≤ (s.size : Int) := by omega
  have k3 : (0 : Int) ≤ (k : Int) + 1 := by omega
  have e2 : ((k : Int) + 1).toNat = k + 1 := by omega
  go_enter Try.func105, Try.ntmps105
  go_wp2
  go_quiet (fail)
  go_wp2
  go_ret
  exact ⟨rfl, _, rfl⟩

/-- a yard's board -/
def okBd (s : ByteArray) (a : Int) : Bool := okYard s && decide (0 ≤ a ∧ a < s.size)
def okBrk (s : ByteArray) (a : Int) : Bool := okBd s a && !isX s a.toNat
def brkR2 (s : ByteArray) (a : Int) : ByteArray := if okBrk s a = true then brkS s a.toNat else ⟨#[]⟩
theorem okBd_at {s : ByteArray} {a : Int} (h : okBd s a = true) : okYard s = true ∧ 0 ≤ a ∧ a < s.size := by
  unfold okBd at h
  rw [Bool.and_eq_true, decide_eq_true_iff] at h
  exact h

set_option maxHeartbeats 1000000 in
theorem reBoard_any (s : ByteArray) (a : Int) (w : World) (hs : s.size ≤ maxLen) :
    Calls Try.prog 104 #[.string s, .int .i64 a] w fun e w' => e = .returned (.bool (okBd s a)) ∧ w = w' := by
  unfold okBd
  cases h : okYard s
  · have H := Lib.hid h; clear h
    go_enter Try.func104, Try.ntmps104
    go_wp2_with (go_at_call 72; refine (reGood_any s _ hs).mono ?_; rintro e w' ⟨rfl, rfl⟩; rw [H.out])
    go_ret
    exact ⟨rfl, rfl⟩
  · have hz := okYard_size h
    have H := Lib.hid h; clear h
    have HI := Lib.hid (l1In_any a 0 ((s.size : Int) - 1) w)
    have e1 : decide (0 ≤ a ∧ a ≤ (s.size : Int) - 1) = decide (0 ≤ a ∧ a < (s.size : Int)) := by
      rw [decide_eq_decide]; omega
    rw [e1] at HI
    clear e1
    obtain ⟨b, hb⟩ : ∃ b, b = decide (0 ≤ a ∧ a < (s.size : Int)) := ⟨_, rfl⟩
    rw [← hb] at HI ⊢
    clear hb
    go_enter Try.func104, Try.ntmps104
    go_wp2_with (first
      | (go_at_call 72; refine (reGood_any s _ hs).mono ?_; rintro e w' ⟨rfl, rfl⟩; rw [H.out])
      | (go_at_call 75; refine HI.out.mono ?_; rintro e w' ⟨rfl, rfl⟩))
    go_ret
    exact ⟨rfl, rfl⟩

theorem ret_sb2 {a b : ByteArray} {x y : Bool} (h : a = b) (h2 : x = y) : Ending.returned (.tuple #[.string a, .bool x]) = .returned (.tuple #[.string b, .bool y]) := by rw [h, h2]
set_option maxHeartbeats 1000000 in
theorem specBreakBoard_any (s0 : ByteArray) (a1 : Int) (w : World) (hs : s0.size ≤ maxLen) (_ : (Lit.int .i64 a1).wf = true) :
    Calls Try.prog 62 #[.string s0, .int .i64 a1] w fun e w' => e = .returned (.tuple #[.string (brkR2 s0 a1), .bool (okBrk s0 a1)]) ∧ Below w.heap.size w w' := by
  have HB := Lib.hid fun W => reBoard_any s0 a1 W hs
  cases h : okBd s0 a1
  · have h1 : okBrk s0 a1 = false := by unfold okBrk; rw [h]; rfl
    have h2 : brkR2 s0 a1 = ⟨#[]⟩ := by unfold brkR2; rw [h1]; rfl
    rw [h1, h2]
    rw [h] at HB
    clear h h1 h2
    go_enter Try.func62, Try.ntmps62
    go_wp2_with (go_at_call 104; refine (HB.out _).mono ?_; rintro e w' ⟨rfl, rfl⟩)
    go_ret2
    exact ⟨rfl, Below.refl _ _⟩
  · obtain ⟨hy, h0, hlt⟩ := okBd_at h
    have hz := okYard_size hy
    obtain ⟨k, rfl⟩ : ∃ k : Nat, a1 = k := ⟨a1.toNat, by omega⟩
    have hk : k < s0.size := by omega
    have e1 : okBrk s0 (k : Int) = !isX s0 k := by unfold okBrk; rw [h, Int.toNat_natCast]; rfl
    have e2 : brkR2 s0 (k : Int) = if (!isX s0 k) = true then brkS s0 k else ⟨#[]⟩ := by unfold brkR2; rw [e1, Int.toNat_natCast]
    rw [e1, e2]
    rw [h] at HB
    clear h e1 e2
    cases hx : isX s0 k
    · have hc := isX_byteN hy hk hx
      have HR := Lib.hid fun W => reBreak_any s0 k W hk hz.2
      rw [if_pos (by rfl)]
      clear hx hy
      go_enter Try.func62, Try.ntmps62
      go_wp2_with (first
        | (go_at_call 104; refine (HB.out _).mono ?_; rintro e w' ⟨rfl, rfl⟩)
        | (go_at_call 105; refine (HR.out _).mono ?_; rintro e w' ⟨rfl, d, rfl⟩))
      go_ret2
      exact ⟨rfl, below_drewN (Below.refl _ _) _⟩
    · have hc := isX_byte hk hx
      rw [if_neg (by decide)]
      clear hx hy
      go_enter Try.func62, Try.ntmps62
      go_wp2_with (go_at_call 104; refine (HB.out _).mono ?_; rintro e w' ⟨rfl, rfl⟩)
      go_ret2
      exact ⟨rfl, Below.refl _ _⟩

set_option maxHeartbeats 1000000 in
theorem implBreakBoard_any (s0 : ByteArray) (a1 : Int) (w : World) (hs : s0.size ≤ maxLen) (_ : (Lit.int .i64 a1).wf = true) :
    Calls Try.prog 63 #[.string s0, .int .i64 a1] w fun e w' => e = .returned (.tuple #[.string (brkR2 s0 a1), .bool (okBrk s0 a1)]) ∧ Below w.heap.size w w' := by
  have HB := Lib.hid fun W => implIsYard_any s0 W hs
  have hs2 := hs
  unfold maxLen at hs2
  cases h : okBd s0 a1
  · have h1 : okBrk s0 a1 = false := by unfold okBrk; rw [h]; rfl
    have h2 : brkR2 s0 a1 = ⟨#[]⟩ := by unfold brkR2; rw [h1]; rfl
    rw [h1, h2]
    clear h1 h2
    cases hy : okYard s0
    · rw [hy] at HB
      clear h hy
      go_enter Try.func63, Try.ntmps63
      go_wp2_with (go_at_call 24; refine (HB.out _).mono ?_; rintro e w1 ⟨rfl, hb1⟩)
      go_ret2
      exact ⟨rfl, hb1⟩
    · rw [hy] at HB
      have hn : ¬ (0 ≤ a1 ∧ a1 < s0.size) := by
        unfold okBd at h; rw [hy] at h; exact of_decide_eq_false h
      clear h hy
      rcases (show a1 < 0 ∨ 0 ≤ a1 ∧ (s0.size : Int) ≤ a1 by omega) with h1 | ⟨h1, h2⟩
      all_goals
        clear hn
        go_enter Try.func63, Try.ntmps63
        go_wp2_with (go_at_call 24; refine (HB.out _).mono ?_; rintro e w1 ⟨rfl, hb1⟩)
        go_ret2
        exact ⟨rfl, hb1⟩
  · obtain ⟨hy, h0, hlt⟩ := okBd_at h
    have hz := okYard_size hy
    obtain ⟨k, rfl⟩ : ∃ k : Nat, a1 = k := ⟨a1.toNat, by omega⟩
    have hk : k < s0.size := by omega
    have e1 : okBrk s0 (k : Int) = !isX s0 k := by unfold okBrk; rw [h, Int.toNat_natCast]; rfl
    have e2 : brkR2 s0 (k : Int) = if (!isX s0 k) = true then brkS s0 k else ⟨#[]⟩ := by unfold brkR2; rw [e1, Int.toNat_natCast]
    rw [e1, e2]
    rw [hy] at HB
    clear h e1 e2
    cases hx : isX s0 k
    · have hc := isX_byteN hy hk hx
      have HR := Lib.hid fun W => withBroken_any s0 k W hk hz.2
      rw [if_pos (by rfl)]
      clear hx hy
      go_enter Try.func63, Try.ntmps63
      go_wp2_with (first
        | (go_at_call 24; refine (HB.out _).mono ?_; rintro e w1 ⟨rfl, hb1⟩)
        | (go_at_call 80; refine (HR.out _).mono ?_; rintro e w' ⟨rfl, d, rfl⟩))
      go_ret2
      exact ⟨rfl, below_drewN hb1 _⟩
    · have hc := isX_byte hk hx
      rw [if_neg (by decide)]
      clear hx hy
      go_enter Try.func63, Try.ntmps63
      go_wp2_with (go_at_call 24; refine (HB.out _).mono ?_; rintro e w1 ⟨rfl, hb1⟩)
      go_ret2
      exact ⟨rfl, hb1⟩
end Go.Proofs.Ytfickmbfbmbjcaa
