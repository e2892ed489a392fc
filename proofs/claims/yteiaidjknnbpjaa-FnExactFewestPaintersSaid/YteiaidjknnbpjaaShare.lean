/- Shares: IsShare of both sides. No condition but the lists' lengths. -/
import Derived.Test.YteiaidjknnbpjaaSum
namespace Go.Proofs.Yteiaidjknnbpjaa
open Go.RowKit

def okP (p : Int) : Bool := decide (1 ≤ p ∧ p ≤ 5)
def okWP (W : List Int) (p : Int) : Bool := okW W && okP p
/-- a share of so many boards for so many painters -/
def isSh (n : Nat) (p : Int) (S : List Int) : Bool := decide ((S.length : Int) = p) && (allIn 0 n S && decide (S.sum = n))
theorem isSh_len {n : Nat} {p : Int} {S : List Int} (h : ¬ (S.length : Int) = p) : isSh n p S = false := by unfold isSh; rw [decide_eq_false h]; rfl
theorem isSh_no {n : Nat} {p : Int} {S : List Int} (h : allIn 0 n S = false) : isSh n p S = false := by unfold isSh; rw [h, Bool.false_and, Bool.and_false]
theorem isSh_yes {n : Nat} {p : Int} {S : List Int} (h0 : (S.length : Int) = p) (h : allIn 0 n S = true) : isSh n p S = decide (S.sum = n) := by unfold isSh; rw [h, decide_eq_true h0]; rfl
theorem okW_len {L : List Int} (h : okW L = true) : 1 ≤ L.length ∧ L.length ≤ 12 := okNums_len h
theorem okW_mem {L : List Int} (h : okW L = true) : ∀ x ∈ L, 1 ≤ x ∧ x ≤ 100 := fun _ hx => allIn_mem (okNums_all h) hx
theorem okR_len {L : List Int} (h : okR L = true) : 1 ≤ L.length ∧ L.length ≤ 5 := okNums_len h
theorem okR_mem {L : List Int} (h : okR L = true) : ∀ x ∈ L, 1 ≤ x ∧ x ≤ 20 := fun _ hx => allIn_mem (okNums_all h) hx
theorem okWP_w {W : List Int} {p : Int} (h : okWP W p = true) : okW W = true ∧ 1 ≤ p ∧ p ≤ 5 := by
  unfold okWP okP at h
  rw [Bool.and_eq_true, decide_eq_true_iff] at h
  exact ⟨h.1, h.2⟩

theorem arePainters_any (p : Int) (w : World) :
    Calls Try.prog 106 #[.int .i64 p] w fun e w' => e = .returned (.bool (okP p)) ∧ w = w' := by
  by_cases h : 1 ≤ p
  · have HO : Hid (okP p = decide (p ≤ 5)) := Lib.hid (by unfold okP; congr 1; simp [h])
    go_enter Try.func106, Try.ntmps106
    go_wp2
    go_ret
    exact ⟨ret_bool HO.out.symm, rfl⟩
  · have HO : Hid (okP p = false) := Lib.hid (by unfold okP; rw [decide_eq_false (by omega)])
    go_enter Try.func106, Try.ntmps106
    go_wp2
    go_ret
    exact ⟨ret_bool HO.out.symm, rfl⟩
theorem shPainters_any (A : Option Addr) (c : Nat) (L : List Int) (p : Int) (w : World) (l : L.length ≤ 1048576) (h : IntSl w A L) :
    Calls Try.prog 105 #[.slice A L.length c, .int .i64 p] w fun e w' => e = .returned (.bool (okWP L p)) ∧ w = w' := by
  cases hk : okW L
  · have HO : Hid (okWP L p = false) := Lib.hid (by unfold okWP; rw [hk]; rfl)
    have HK := Lib.hid hk; clear hk
    go_enter Try.func105, Try.ntmps105
    go_wp2_with (go_at_call 104; refine (shWidths_any A c L _ l h).mono ?_; rintro e w' ⟨rfl, rfl⟩; rw [HK.out])
    go_ret
    exact ⟨ret_bool HO.out.symm, rfl⟩
  · have HO : Hid (okWP L p = decide (1 ≤ p ∧ p ≤ 5)) := Lib.hid (by unfold okWP; rw [hk]; rfl)
    have HK := Lib.hid hk; clear hk
    go_enter Try.func105, Try.ntmps105
    go_wp2_with (first
      | (go_at_call 104; refine (shWidths_any A c L _ l h).mono ?_; rintro e w' ⟨rfl, rfl⟩; rw [HK.out])
      | (go_at_call 101; refine (l1In_any p 1 5 _).mono ?_; rintro e w' ⟨rfl, rfl⟩; rw [← HO.out]))
    go_ret
    exact ⟨rfl, rfl⟩
set_option maxHeartbeats 1000000 in
theorem shIs_any (A : Option Addr) (c n : Nat) (p : Int) (A2 : Option Addr) (c2 : Nat) (S : List Int) (w : World) (hn : n ≤ 12) (hp : p ≤ 5) (h2 : IntSl w A2 S) (l2 : S.length ≤ 1048576) :
    Calls Try.prog 98 #[.slice A n c, .int .i64 p, .slice A2 S.length c2] w fun e w' => e = .returned (.bool (isSh n p S)) ∧ w = w' := by
  by_cases hl : (S.length : Int) = p
  · subst hl
    cases ha : allIn 0 n S
    · have HO := Lib.hid (isSh_no (p := S.length) ha)
      have HK := Lib.hid ha; clear ha
      go_enter Try.func98, Try.ntmps98
      go_wp2_with (go_at_call 126; refine (l1All_any A2 c2 S 0 n _ l2 h2).mono ?_; rintro e w' ⟨rfl, rfl⟩; rw [HK.out])
      go_ret
      exact ⟨ret_bool HO.out.symm, rfl⟩
    · have HO := Lib.hid (isSh_yes rfl ha)
      have HM : ∀ x ∈ S, 0 ≤ x ∧ x ≤ 12 := fun x hx => by have := allIn_mem ha hx; omega
      have HC := Lib.hid fun W hW => shSum_any A2 c2 S 12 W l2 (by decide) (by omega) HM hW
      have HK := Lib.hid ha; clear ha HM
      have HE : Hid ((S.sum == (n : Int)) = decide (S.sum = n)) := Lib.hid (by rw [Bool.eq_iff_iff, beq_iff_eq, decide_eq_true_iff])
      go_enter Try.func98, Try.ntmps98
      go_wp2_with (first
        | (go_at_call 126; refine (l1All_any A2 c2 S 0 n _ l2 h2).mono ?_; rintro e w' ⟨rfl, rfl⟩; rw [HK.out])
        | (go_at_call 92; refine (HC.out _ h2).mono ?_; rintro e w' ⟨rfl, rfl⟩))
      go_ret
      exact ⟨ret_bool (by rw [HE.out, HO.out]), rfl⟩
  · have HO := Lib.hid (isSh_len (n := n) hl)
    have hb : ((S.length : Int) == p) = false := by rw [beq_eq_false_iff_ne]; exact hl
    go_enter Try.func98, Try.ntmps98
    go_wp2
    go_ret
    exact ⟨ret_bool HO.out.symm, rfl⟩
set_option maxHeartbeats 1000000 in
theorem isSplit_any (n : Nat) (A2 : Option Addr) (c2 : Nat) (S : List Int) (w : World) (hn : n ≤ 12) (hp : S.length ≤ 5) (h2 : IntSl w A2 S) :
    Calls Try.prog 107 #[.int .i64 n, .slice A2 S.length c2] w fun e w' => e = .returned (.bool (allIn 0 n S && decide (S.sum = n))) ∧ w = w' := by
  rcases Nat.eq_zero_or_pos S.length with h0 | h0
  · obtain rfl : S = [] := List.eq_nil_of_length_eq_zero h0
    have HE : Hid (((0 : Int) == (n : Int)) = (allIn 0 n [] && decide (([] : List Int).sum = n))) := Lib.hid (by show ((0 : Int) == (n : Int)) = (true && decide ((0 : Int) = (n : Int))); rw [Bool.true_and, Bool.eq_iff_iff, beq_iff_eq, decide_eq_true_iff])
    have HC := Lib.hid fun W => sumOf_any A2 c2 [] 12 W (Nat.zero_le _) (by decide) (by decide) (fun _ h => nomatch h) (IntSl.nil W A2)
    clear h0 h2 hp
    go_enter Try.func107, Try.ntmps107
    go_wp2
    refine wp_loop_rounds 1 ?_
    rw [rounds_succ]
    go_wp2_with (go_at_call 88; refine (HC.out _).mono ?_; rintro e w' ⟨rfl, rfl⟩)
    go_ret
    exact ⟨ret_bool HE.out, rfl⟩
  · obtain ⟨g, off, rfl, -, hat⟩ := h2.some h0
    have HAT := Lib.hid hat
    have HSL := Lib.hid h2
    clear hat h2
    go_enter Try.func107, Try.ntmps107
    go_wp2
    go_loop [6, 9] (fun _ i => ∃ k : Nat, k ≤ S.length ∧ i = .int .i64 k ∧ allIn 0 n (S.take k) = true) (fun _ i => S.length - (intOf i).toNat)
    case atStart => exact ⟨0, Nat.zero_le _, rfl, rfl⟩
    case round =>
      obtain ⟨k, hk, rfl, hall⟩ := hrel
      have HA := Lib.hid hall
      clear hall
      by_cases hlt : k < S.length
      · have c1 := HAT.out k hlt
        by_cases hlo : S[k] < 0
        · have HN := Lib.hid (allIn_no (lo := 0) (hi := n) hlt (by omega))
          go_wp2
          go_ret
          exact ⟨ret_bool (by rw [HN.out]; rfl), rfl⟩
        · by_cases hhi : (n : Int) < S[k]
          · have HN := Lib.hid (allIn_no (lo := 0) (hi := n) hlt (by omega))
            go_wp2
            go_ret
            exact ⟨ret_bool (by rw [HN.out]; rfl), rfl⟩
          · have HN := Lib.hid (allIn_succ hlt HA.out (by omega))
            go_wp2
            go_round
            case rel => exact ⟨k + 1, by omega, by go_num, HN.out⟩
            case measure => simp [intOf]; omega
      · obtain rfl : k = S.length := by omega
        rw [List.take_length] at HA
        have HM : ∀ x ∈ S, 0 ≤ x ∧ x ≤ 12 := fun x hx => by have := allIn_mem HA.out hx; omega
        have HC := Lib.hid fun W hW => sumOf_any (some ⟨g, off, none⟩) c2 S 12 W (by omega) (by decide) (by omega) HM hW
        have HE : Hid ((S.sum == (n : Int)) = (allIn 0 n S && decide (S.sum = n))) := Lib.hid (by rw [HA.out, Bool.true_and, Bool.eq_iff_iff, beq_iff_eq, decide_eq_true_iff])
        clear HM
        go_wp2_with (go_at_call 88; refine (HC.out _ HSL.out).mono ?_; rintro e w' ⟨rfl, rfl⟩)
        go_ret
        exact ⟨ret_bool HE.out, rfl⟩

theorem specIsShare_any (A0 : Option Addr) (c0 : Nat) (L0 : List Int) (a1 : Int) (A2 : Option Addr) (c2 : Nat) (L2 : List Int) (w : World) (l0 : L0.length ≤ 1048576) (_ : WfL L0) (_ : L0.length ≤ c0) (h0 : IntSl w A0 L0) (_ : (Lit.int .i64 a1).wf = true) (l2 : L2.length ≤ 1048576) (_ : WfL L2) (_ : L2.length ≤ c2) (h2 : IntSl w A2 L2) :
    Calls Try.prog 55 #[.slice A0 L0.length c0, .int .i64 a1, .slice A2 L2.length c2] w fun e w' => e = .returned (.tuple #[.bool (okWP L0 a1 && isSh L0.length a1 L2), .bool (okWP L0 a1)]) ∧ Below w.heap.size w w' := by
  cases hk : okWP L0 a1
  · have HK := Lib.hid hk; clear hk
    go_enter Try.func55, Try.ntmps55
    go_wp2_with (go_at_call 105; refine (shPainters_any A0 c0 L0 a1 _ l0 h0).mono ?_; rintro e w' ⟨rfl, rfl⟩; rw [HK.out])
    go_ret2
    exact ⟨rfl, Below.refl _ _⟩
  · obtain ⟨hw, hp1, hp2⟩ := okWP_w hk
    have hl := okW_len hw
    have HK := Lib.hid hk; clear hk
    have HC := Lib.hid fun W hW => shIs_any A0 c0 L0.length a1 A2 c2 L2 W hl.2 hp2 hW l2
    go_enter Try.func55, Try.ntmps55
    go_wp2_with (first
      | (go_at_call 105; refine (shPainters_any A0 c0 L0 a1 _ l0 h0).mono ?_; rintro e w' ⟨rfl, rfl⟩; rw [HK.out])
      | (go_at_call 98; refine (HC.out _ h2).mono ?_; rintro e w' ⟨rfl, rfl⟩))
    go_ret2
    exact ⟨rfl, Below.refl _ _⟩
theorem implShare_any (A0 : Option Addr) (c0 : Nat) (L0 : List Int) (a1 : Int) (A2 : Option Addr) (c2 : Nat) (L2 : List Int) (w : World) (l0 : L0.length ≤ 1048576) (h0 : IntSl w A0 L0) (l2 : L2.length ≤ 1048576) (h2 : IntSl w A2 L2) :
    Calls Try.prog 56 #[.slice A0 L0.length c0, .int .i64 a1, .slice A2 L2.length c2] w fun e w' => e = .returned (.tuple #[.bool (okWP L0 a1 && isSh L0.length a1 L2), .bool (okWP L0 a1)]) ∧ w = w' := by
  cases hw : okW L0
  · have HO : Hid (okWP L0 a1 = false) := Lib.hid (by unfold okWP; rw [hw]; rfl)
    have HK := Lib.hid hw; clear hw
    rw [HO.out]
    go_enter Try.func56, Try.ntmps56
    go_wp2_with (go_at_call 53; refine (implWidths_any A0 c0 L0 _ l0 h0).mono ?_; rintro e w' ⟨rfl, rfl⟩; rw [HK.out])
    go_ret2
    exact ⟨rfl, rfl⟩
  · cases hp : okP a1
    · have HO : Hid (okWP L0 a1 = false) := Lib.hid (by unfold okWP; rw [hw, hp]; rfl)
      have HK := Lib.hid hw; have HP := Lib.hid hp; clear hw hp
      rw [HO.out]
      go_enter Try.func56, Try.ntmps56
      go_wp2_with (first
        | (go_at_call 53; refine (implWidths_any A0 c0 L0 _ l0 h0).mono ?_; rintro e w' ⟨rfl, rfl⟩; rw [HK.out])
        | (go_at_call 106; refine (arePainters_any a1 _).mono ?_; rintro e w' ⟨rfl, rfl⟩; rw [HP.out]))
      go_ret2
      exact ⟨rfl, rfl⟩
    · have HO : Hid (okWP L0 a1 = true) := Lib.hid (by unfold okWP; rw [hw, hp]; rfl)
      have hl := okW_len hw
      have hp2 : a1 ≤ 5 := (okWP_w HO.out).2.2
      have HK := Lib.hid hw; have HP := Lib.hid hp; clear hw hp
      rw [HO.out]
      by_cases hq : (L2.length : Int) = a1
      · subst hq
        have HE : Hid ((allIn 0 L0.length L2 && decide (L2.sum = L0.length)) = (true && isSh L0.length L2.length L2)) := Lib.hid (by unfold isSh; rw [decide_eq_true rfl]; rfl)
        have HC := Lib.hid fun W hW => isSplit_any L0.length A2 c2 L2 W hl.2 (by omega) hW
        have HB : Hid (((L2.length : Int) == (L2.length : Int)) = true) := Lib.hid (by simp)
        go_enter Try.func56, Try.ntmps56
        go_wp2_with (first
          | (go_at_call 53; refine (implWidths_any A0 c0 L0 _ l0 h0).mono ?_; rintro e w' ⟨rfl, rfl⟩; rw [HK.out])
          | (go_at_call 106; refine (arePainters_any _ _).mono ?_; rintro e w' ⟨rfl, rfl⟩; rw [HP.out])
          | (go_at_call 107; refine (HC.out _ h2).mono ?_; rintro e w' ⟨rfl, rfl⟩; rw [HE.out]))
        go_ret2
        exact ⟨rfl, rfl⟩
      · have HE := Lib.hid (isSh_len (n := L0.length) hq)
        have hb : ((L2.length : Int) == a1) = false := by rw [beq_eq_false_iff_ne]; exact hq
        rw [HE.out]
        go_enter Try.func56, Try.ntmps56
        go_wp2_with (first
          | (go_at_call 53; refine (implWidths_any A0 c0 L0 _ l0 h0).mono ?_; rintro e w' ⟨rfl, rfl⟩; rw [HK.out])
          | (go_at_call 106; refine (arePainters_any _ _).mono ?_; rintro e w' ⟨rfl, rfl⟩; rw [HP.out]))
        go_ret2
        exact ⟨rfl, rfl⟩
theorem implIsShare_any (A0 : Option Addr) (c0 : Nat) (L0 : List Int) (a1 : Int) (A2 : Option Addr) (c2 : Nat) (L2 : List Int) (w : World) (l0 : L0.length ≤ 1048576) (_ : WfL L0) (_ : L0.length ≤ c0) (h0 : IntSl w A0 L0) (_ : (Lit.int .i64 a1).wf = true) (l2 : L2.length ≤ 1048576) (_ : WfL L2) (_ : L2.length ≤ c2) (h2 : IntSl w A2 L2) :
    Calls Try.prog 56 #[.slice A0 L0.length c0, .int .i64 a1, .slice A2 L2.length c2] w fun e w' => e = .returned (.tuple #[.bool (okWP L0 a1 && isSh L0.length a1 L2), .bool (okWP L0 a1)]) ∧ Below w.heap.size w w' :=
  (implShare_any A0 c0 L0 a1 A2 c2 L2 w l0 h0 l2 h2).mono fun _ _ h => ⟨h.1, by rw [← h.2]; exact Below.refl _ _⟩
end Go.Proofs.Yteiaidjknnbpjaa
