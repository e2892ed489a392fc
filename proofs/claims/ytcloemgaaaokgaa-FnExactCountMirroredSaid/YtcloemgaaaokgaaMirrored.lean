/- CountMirrored and CountTurned: the functions, and the laws' walks. No condition. -/
import Derived.Test.YtcloemgaaaokgaaCount2
namespace Go.Proofs.Ytcloemgaaaokgaa
open Go.RowKit

def mirV (n q : Nat) : Int := (lineV q n + (if n % 2 = 1 then lineV q (n / 2 + 1) else 0)) / 2
def mirOf (n q : Int) : Array Value := if (okSize n false && okTints q) = true then #[.int .i64 (mirV n.toNat q.toNat), .bool true] else #[.int .i64 0, .bool false]
theorem mirV_odd {n q : Nat} (h : n % 2 = 1) : mirV n q = (lineV q n + lineV q (n / 2 + 1)) / 2 := by unfold mirV; rw [if_pos h]
theorem mirV_even {n q : Nat} (h : ¬ n % 2 = 1) : mirV n q = lineV q n / 2 := by unfold mirV; rw [if_neg h, Int.add_zero]
theorem lineV_bd' {q n : Nat} (h1 : 1 ≤ n) (hn : n ≤ 20) (hq : q ≤ 5) : 0 ≤ lineV q n ∧ lineV q n ≤ 476837158203125 := by
  have := lineV_bd q (n - 1) hq (by omega)
  rwa [show n - 1 + 1 = n by omega] at this

theorem coFrom_line (n q : Nat) (w : World) (h1 : 1 ≤ n) (h20 : n ≤ 20) (hq1 : 1 ≤ q) (hq : q ≤ 5) :
    Calls Try.prog 61 #[.string (bareS n), .int .i64 q, .bool false, .int .i64 0] w fun e w' => e = .returned (.int .i64 (lineV q n)) ∧ Below w.heap.size w w' :=
  (coFrom_bare n q false w h1 h20 (fun e => by cases e) hq1 hq).mono fun _ _ h => h
theorem coFrom_ring (n q : Nat) (w : World) (h1 : 3 ≤ n) (h20 : n ≤ 20) (hq1 : 1 ≤ q) (hq : q ≤ 5) :
    Calls Try.prog 61 #[.string (bareS n), .int .i64 q, .bool true, .int .i64 0] w fun e w' => e = .returned (.int .i64 (ringV q n)) ∧ Below w.heap.size w w' :=
  (coFrom_bare n q true w (by omega) h20 (fun _ => h1) hq1 hq).mono fun _ _ h => h

set_option maxHeartbeats 1000000 in
theorem specMirrored_any (n q : Int) (w : World) :
    Calls Try.prog 28 #[.int .i64 n, .int .i64 q] w fun e w' => e = .returned (.tuple (mirOf n q)) ∧ Below w.heap.size w w' := by
  unfold mirOf
  cases h : okSize n false && okTints q
  · rw [if_neg (by decide)]
    have H := Lib.hid h; clear h
    go_enter Try.func28, Try.ntmps28
    go_wp2_with (go_at_call 60; refine (coAsked_any _ _ _ _).mono ?_; rintro e w' ⟨rfl, rfl⟩; rw [H.out])
    go_ret2
    exact ⟨rfl, Below.refl _ _⟩
  · rw [if_pos rfl]
    obtain ⟨⟨a1, a2, -⟩, a4, a5⟩ := okAsk_parts h
    have H := Lib.hid h; clear h
    obtain ⟨n, rfl⟩ : ∃ k : Nat, n = k := ⟨n.toNat, by omega⟩
    obtain ⟨q, rfl⟩ : ∃ k : Nat, q = k := ⟨q.toNat, by omega⟩
    simp only [Int.toNat_natCast]
    have HC := Lib.hid fun m (W : World) (h1 : 1 ≤ m) (h2 : m ≤ 20) => coFrom_line m q W h1 h2 (by omega) (by omega)
    obtain ⟨b1, b2⟩ := lineV_bd' (q := q) (n := n) (by omega) (by omega) (by omega)
    by_cases hm : n % 2 = 1
    · obtain ⟨b3, b4⟩ := lineV_bd' (q := q) (n := n / 2 + 1) (by omega) (by omega) (by omega)
      have hmm : ((n : Int) % 2 == 1) = true := by rw [beq_iff_eq]; omega
      have HB : Hid (∀ W, Calls Try.prog 62 #[.int .i64 (((n : Int) + 1) / 2)] W fun e w' => e = .returned (.string (bareS (n / 2 + 1))) ∧ W = w') := Lib.hid fun W => by
        rw [show ((n : Int) + 1) / 2 = ((n / 2 + 1 : Nat) : Int) by omega]; exact coBare_any _ W (by omega)
      have HV := Lib.hid (mirV_odd (q := q) hm)
      clear hm
      go_enter Try.func28, Try.ntmps28
      go_wp2_with (first
        | (go_at_call 60; refine (coAsked_any _ _ _ _).mono ?_; rintro e w' ⟨rfl, rfl⟩; rw [H.out]; have hb := Below.refl w.heap.size w)
        | (go_at_call 62; first | ((with_reducible refine (HB.out _).mono ?_); rintro e w' ⟨rfl, rfl⟩) | ((with_reducible refine (coBare_any n _ (by omega)).mono ?_); rintro e w' ⟨rfl, rfl⟩))
        | (go_at_call 61; first | ((with_reducible refine (HC.out (n / 2 + 1) _ (by omega) (by omega)).mono ?_); rintro e w' ⟨rfl, hb1⟩; have hb := below_next hb hb1) | ((with_reducible refine (HC.out n _ (by omega) (by omega)).mono ?_); rintro e w' ⟨rfl, hb1⟩; have hb := below_next hb hb1)))
      go_ret2
      exact ⟨ret_ib HV.out.symm, hb⟩
    · have hmm : ((n : Int) % 2 == 1) = false := by rw [beq_eq_false_iff_ne]; omega
      have HV := Lib.hid (mirV_even (q := q) hm)
      clear hm
      go_enter Try.func28, Try.ntmps28
      go_wp2_with (first
        | (go_at_call 60; refine (coAsked_any _ _ _ _).mono ?_; rintro e w' ⟨rfl, rfl⟩; rw [H.out])
        | (go_at_call 62; refine (coBare_any n _ (by omega)).mono ?_; rintro e w' ⟨rfl, rfl⟩)
        | (go_at_call 61; refine (HC.out n _ (by omega) (by omega)).mono ?_; rintro e w' ⟨rfl, hb⟩))
      go_ret2
      exact ⟨ret_ib HV.out.symm, hb⟩

set_option maxHeartbeats 1000000 in
theorem implMirrored_any (n q : Int) (w : World) :
    Calls Try.prog 29 #[.int .i64 n, .int .i64 q] w fun e w' => e = .returned (.tuple (mirOf n q)) ∧ w = w' := by
  unfold mirOf
  cases h1 : okSize n false
  · rw [if_neg (by simp)]
    have H := Lib.hid h1; clear h1
    go_enter Try.func29, Try.ntmps29
    go_wp2_with (go_at_call 63; refine (areBoards_any _ _ _).mono ?_; rintro e w' ⟨rfl, rfl⟩; rw [H.out])
    go_ret2
    exact ⟨rfl, rfl⟩
  · cases h2 : okTints q
    · rw [if_neg (by simp)]
      have H := Lib.hid h1; clear h1
      have H2 := Lib.hid h2; clear h2
      go_enter Try.func29, Try.ntmps29
      go_wp2_with (first
        | (go_at_call 63; refine (areBoards_any _ _ _).mono ?_; rintro e w' ⟨rfl, rfl⟩; rw [H.out])
        | (go_at_call 64; refine (areTints_any _ _).mono ?_; rintro e w' ⟨rfl, rfl⟩; rw [H2.out]))
      go_ret2
      exact ⟨rfl, rfl⟩
    · rw [if_pos (by decide)]
      obtain ⟨⟨a1, a2, -⟩, a4, a5⟩ := okAsk_parts (show (okSize n false && okTints q) = true by rw [h1, h2]; rfl)
      have H := Lib.hid h1; clear h1
      have H2 := Lib.hid h2; clear h2
      obtain ⟨n, rfl⟩ : ∃ k : Nat, n = k := ⟨n.toNat, by omega⟩
      obtain ⟨q, rfl⟩ : ∃ k : Nat, q = k := ⟨q.toNat, by omega⟩
      simp only [Int.toNat_natCast]
      obtain ⟨b1, b2⟩ := lineV_bd' (q := q) (n := n) (by omega) (by omega) (by omega)
      by_cases hm : n % 2 = 1
      · obtain ⟨b3, b4⟩ := lineV_bd' (q := q) (n := n / 2 + 1) (by omega) (by omega) (by omega)
        have hmm : ((n : Int) % 2 == 1) = true := by rw [beq_iff_eq]; omega
        have HB : Hid (∀ W, Calls Try.prog 66 #[.int .i64 ((n : Int) / 2 + 1), .int .i64 q] W fun e w' => e = .returned (.int .i64 (lineV q (n / 2 + 1))) ∧ W = w') := Lib.hid fun W => by
          rw [show (n : Int) / 2 + 1 = ((n / 2 + 1 : Nat) : Int) by omega]; exact properInLine_any _ q W (by omega) (by omega) (by omega) (by omega)
        have HV := Lib.hid (mirV_odd (q := q) hm)
        clear hm
        go_enter Try.func29, Try.ntmps29
        go_wp2_with (first
          | (go_at_call 63; refine (areBoards_any _ _ _).mono ?_; rintro e w' ⟨rfl, rfl⟩; rw [H.out])
          | (go_at_call 64; refine (areTints_any _ _).mono ?_; rintro e w' ⟨rfl, rfl⟩; rw [H2.out])
          | (go_at_call 66; first | ((with_reducible refine (HB.out _).mono ?_); rintro e w' ⟨rfl, rfl⟩) | ((with_reducible refine (properInLine_any n q _ (by omega) (by omega) (by omega) (by omega)).mono ?_); rintro e w' ⟨rfl, rfl⟩)))
        go_ret2
        exact ⟨ret_ib HV.out.symm, rfl⟩
      · have hmm : ((n : Int) % 2 == 1) = false := by rw [beq_eq_false_iff_ne]; omega
        have HV := Lib.hid (mirV_even (q := q) hm)
        clear hm
        go_enter Try.func29, Try.ntmps29
        go_wp2_with (first
          | (go_at_call 63; refine (areBoards_any _ _ _).mono ?_; rintro e w' ⟨rfl, rfl⟩; rw [H.out])
          | (go_at_call 64; refine (areTints_any _ _).mono ?_; rintro e w' ⟨rfl, rfl⟩; rw [H2.out])
          | (go_at_call 66; refine (properInLine_any n q _ (by omega) (by omega) (by omega) (by omega)).mono ?_; rintro e w' ⟨rfl, rfl⟩))
        go_ret2
        exact ⟨ret_ib HV.out.symm, rfl⟩

theorem lawCountMirrored_walk (n q : Int) (w : World) (_ : (Lit.int .i64 n).wf = true) (_ : (Lit.int .i64 q).wf = true) :
    Calls Try.prog 7 #[.int .i64 n, .int .i64 q] w fun e w' => e = .returned (.bool true) ∧ Below w.heap.size w w' := by
  obtain ⟨p, x, hp⟩ : ∃ (p : Int) (x : Bool), mirOf n q = #[.int .i64 p, .bool x] := by
    unfold mirOf; split
    · exact ⟨_, _, rfl⟩
    · exact ⟨_, _, rfl⟩
  have S := fun W : World => specMirrored_any n q W
  have I := fun W : World => implMirrored_any n q W
  rw [hp] at S I
  clear hp
  have HS := Lib.hid S
  have HI := Lib.hid I
  clear S I
  go_enter Try.func7, Try.ntmps7
  go_wp2_with (first
    | (go_at_call 28; refine (HS.out _).mono ?_; rintro e w1 ⟨rfl, hb⟩)
    | (go_at_call 29; refine (HI.out _).mono ?_; rintro e w1 ⟨rfl, rfl⟩))
  go_ret
  exact ⟨rfl, hb⟩
end Go.Proofs.Ytcloemgaaaokgaa
