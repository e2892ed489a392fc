/- Whether there are costs: 'spec.coCosts', 'impl.areCosts'. No condition but the lists' lengths. -/
import Derived.Test.YtmdfcamieonabaaCheapSpec
import Derived.Test.YtmdfcamieonabaaNums
namespace Go.Proofs.Ytmdfcamieonabaa
open Go.RowKit

def okTints (q : Int) : Bool := decide (1 ≤ q ∧ q ≤ 5)
theorem coTints_any (q : Int) (w : World) : Calls Try.prog 61 #[.int .i64 q] w fun e w' => e = .returned (.bool (okTints q)) ∧ w = w' := by
  have HI := Lib.hid fun W => l1In_any q 1 5 W
  have HO : Hid (decide (1 ≤ q ∧ q ≤ 5) = okTints q) := Lib.hid rfl
  go_enter Try.func61, Try.ntmps61
  go_wp2_with (go_at_call 75; refine (HI.out _).mono ?_; rintro e w' ⟨rfl, rfl⟩; rw [HO.out])
  go_ret
  exact ⟨rfl, rfl⟩
/-- a row of costs of t tints -/
def okRow (t : Nat) (R : List Int) : Bool := okTints R.length && decide (R.length = t) && allIn 0 100 R
def tintsOf (LL : List (List Int)) : Nat := (LL.getD 0 []).length
def okC (LL : List (List Int)) : Bool := decide (1 ≤ (LL.length : Int) ∧ (LL.length : Int) ≤ 20) && LL.all (okRow (tintsOf LL))
theorem okC_long {LL : List (List Int)} (h : ¬ (1 ≤ (LL.length : Int) ∧ (LL.length : Int) ≤ 20)) : okC LL = false := by unfold okC; rw [decide_eq_false h]; rfl
theorem okC_row {LL : List (List Int)} (k : Nat) (hk : k < LL.length) (h : okRow (tintsOf LL) LL[k] = false) : okC LL = false := by
  unfold okC
  rw [Bool.and_eq_false_iff]
  right
  rw [List.all_eq_false]
  exact ⟨LL[k], List.getElem_mem hk, by rw [h]; decide⟩
theorem okC_all {LL : List (List Int)} (hn : 1 ≤ (LL.length : Int) ∧ (LL.length : Int) ≤ 20) (h : ∀ k (hk : k < LL.length), okRow (tintsOf LL) LL[k] = true) : okC LL = true := by
  unfold okC
  rw [decide_eq_true hn, Bool.true_and, List.all_eq_true]
  intro R hR
  obtain ⟨k, hk, rfl⟩ := List.getElem_of_mem hR
  exact h k hk
theorem okC_iff {LL : List (List Int)} (h : okC LL = true) : OkC LL (tintsOf LL) := by
  unfold okC at h
  rw [Bool.and_eq_true, decide_eq_true_iff, List.all_eq_true] at h
  obtain ⟨⟨h1, h2⟩, h3⟩ := h
  have hr : ∀ j (hj : j < LL.length), (1 ≤ (LL[j].length : Int) ∧ (LL[j].length : Int) ≤ 5) ∧ LL[j].length = tintsOf LL ∧ ∀ v ∈ LL[j], 0 ≤ v ∧ v ≤ 100 := fun j hj => by
    have := h3 _ (List.getElem_mem hj)
    unfold okRow okTints allIn at this
    simp only [Bool.and_eq_true, decide_eq_true_iff, List.all_eq_true] at this
    exact ⟨this.1.1, this.1.2, this.2⟩
  have h0 := hr 0 (by omega)
  exact ⟨by omega, by omega, by omega, by omega, fun j hj => (hr j hj).2.1, fun j hj => (hr j hj).2.2⟩

set_option maxRecDepth 100000 in
set_option maxHeartbeats 4000000 in
theorem coCosts_any (A : Option Addr) (cap : Nat) (LL : List (List Int)) (w : World) (hl : LL.length ≤ 1048576) (hr : ∀ j (hj : j < LL.length), LL[j].length ≤ 1048576) (h : IntSS w A LL) :
    Calls Try.prog 53 #[.slice A LL.length cap] w fun e w' => e = .returned (.bool (okC LL)) ∧ w = w' := by
  have HI := Lib.hid fun W => l1In_any (LL.length : Int) 1 20 W
  by_cases hn : 1 ≤ (LL.length : Int) ∧ (LL.length : Int) ≤ 20
  · obtain ⟨sg, so, rfl, hsg, hsc⟩ := h.some (by omega)
    rw [decide_eq_true hn] at HI
    have HSC := Lib.hid hsc
    obtain ⟨A0, c0, hc0, -⟩ := hsc 0 (by omega)
    rw [Nat.add_zero] at hc0
    have HT : Hid (tintsOf LL = (LL[0]'(by omega)).length) := Lib.hid (by unfold tintsOf; rw [List.getD_eq_getElem?_getD, List.getElem?_eq_getElem (by omega)]; rfl)
    obtain ⟨t, ht⟩ : ∃ t, t = (LL[0]'(by omega)).length := ⟨_, rfl⟩
    rw [← ht] at hc0
    have HTT : Hid (tintsOf LL = t) := Lib.hid (by rw [HT.out, ht])
    have HOK := Lib.hid fun hh => okC_all hn hh
    have HNO := Lib.hid fun k hk hh => okC_row (LL := LL) k hk hh
    have HRL := Lib.hid hr
    have hpos : (0 : Int) < (LL.length : Int) := by omega
    clear h hsc ht HT hn hr
    go_enter Try.func53, Try.ntmps53
    go_wp2_with (go_at_call 75; refine (HI.out _).mono ?_; rintro e w' ⟨rfl, rfl⟩)
    go_loop [11] (fun v => ∃ k : Nat, k ≤ LL.length ∧ v = .int .i64 (k : Int) ∧ Hid (∀ j (hj : j < LL.length), j < k → okRow (tintsOf LL) LL[j] = true)) (fun v => LL.length - (intOf v).toNat)
    case atStart => exact ⟨0, Nat.zero_le _, rfl, Lib.hid fun j _ h => absurd h (Nat.not_lt_zero _)⟩
    case round =>
      obtain ⟨k, hk, rfl, HD⟩ := hrel
      by_cases hlt : k < LL.length
      · obtain ⟨B, c, hcell, hrow⟩ := HSC.out k hlt
        have hlm := HRL.out k hlt
        have HNK := Lib.hid (HNO.out k hlt)
        have HDK : Hid (okRow (tintsOf LL) LL[k] = true → ∀ j (hj : j < LL.length), j < k + 1 → okRow (tintsOf LL) LL[j] = true) := Lib.hid fun e j hj hjk => by
          by_cases ek : j = k
          · subst ek; exact e
          · exact HD.out j hj (by omega)
        obtain ⟨R, hR⟩ : ∃ R, R = LL[k] := ⟨_, rfl⟩
        rw [← hR] at hcell hrow hlm HNK HDK
        have HC := Lib.hid fun W => coTints_any (R.length : Int) W
        have HA := Lib.hid (l1All_any B c R 0 100 w hlm hrow)
        have ik0 : (0 : Int) ≤ (k : Int) := by omega
        have ik1 : (k : Int) < (LL.length : Int) := by omega
        have HRO : Hid (okRow (tintsOf LL) R = (okTints R.length && decide (R.length = t) && allIn 0 100 R)) := Lib.hid (by rw [HTT.out]; rfl)
        clear hR hrow
        cases h1 : okTints R.length
        · rw [h1] at HC HRO
          have HZ := Lib.hid (HNK.out HRO.out)
          clear h1
          go_wp2_with (go_at_call 61; refine (HC.out _).mono ?_; rintro e w' ⟨rfl, rfl⟩)
          go_ret
          exact ⟨ret_bool HZ.out.symm, rfl⟩
        · rw [h1] at HC HRO
          clear h1
          by_cases h2 : R.length = t
          · have hne : ((R.length : Int) != (t : Int)) = false := by rw [h2]; simp
            rw [decide_eq_true h2] at HRO
            cases h3 : allIn 0 100 R
            · rw [h3] at HA HRO
              have HZ := Lib.hid (HNK.out HRO.out)
              clear h2 h3
              go_wp2_with (first
                | (go_at_call 61; refine (HC.out _).mono ?_; rintro e w' ⟨rfl, rfl⟩)
                | (go_at_call 78; refine HA.out.mono ?_; rintro e w' ⟨rfl, rfl⟩))
              go_ret
              exact ⟨ret_bool HZ.out.symm, rfl⟩
            · rw [h3] at HA HRO
              have HZ := Lib.hid (HDK.out HRO.out)
              clear h2 h3
              go_wp2_with (first
                | (go_at_call 61; refine (HC.out _).mono ?_; rintro e w' ⟨rfl, rfl⟩)
                | (go_at_call 78; refine HA.out.mono ?_; rintro e w' ⟨rfl, rfl⟩))
              go_round
              case rel => exact ⟨k + 1, by omega, by go_num, HZ⟩
              case measure => simp [intOf]; omega
          · have hne : ((R.length : Int) != (t : Int)) = true := by rw [bne_iff_ne]; omega
            rw [decide_eq_false h2] at HRO
            have HZ := Lib.hid (HNK.out HRO.out)
            clear h2
            go_wp2_with (go_at_call 61; refine (HC.out _).mono ?_; rintro e w' ⟨rfl, rfl⟩)
            go_ret
            exact ⟨ret_bool HZ.out.symm, rfl⟩
      · have hnl : ¬ (k : Int) < (LL.length : Int) := by omega
        have HZ := Lib.hid (HOK.out fun j hj => HD.out j hj (by omega))
        go_wp2
        go_ret
        exact ⟨ret_bool HZ.out.symm, rfl⟩
  · have HZ := Lib.hid (okC_long hn)
    rw [decide_eq_false hn] at HI
    clear h hn
    go_enter Try.func53, Try.ntmps53
    go_wp2_with (go_at_call 75; refine (HI.out _).mono ?_; rintro e w' ⟨rfl, rfl⟩)
    go_ret
    exact ⟨ret_bool HZ.out.symm, rfl⟩
end Go.Proofs.Ytmdfcamieonabaa
