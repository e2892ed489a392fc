/- LongestProper: proper parts, the two functions, and the law's walk. No condition but the text's length. -/
import Derived.Test.YtnijedmnjmeciaaDoorTurn
namespace Go.Proofs.YtnijedmnjmeciaaDoor
open Go.RowKit

/-- the board j of a text goes on behind those before it: it is not bare, and not coloured as the one before it -/
def okB0 (t : ByteArray) (j : Nat) : Bool :=
  match t.data.toList[j]? with
  | none => false
  | some c => decide (c ≠ 46) && (decide (j = 0) || decide (t.data.toList[j - 1]? ≠ some c))
/-- how many boards at the beginning of a text go on -/
def runF (t : ByteArray) : Nat → Nat → Nat
  | 0, j => j
  | f + 1, j => if okB0 t j = true then runF t f (j + 1) else j
def runT (t : ByteArray) : Nat := runF t t.size 0
theorem list_at (t : ByteArray) (j : Nat) (h : j < t.size) : t.data.toList[j]? = some t[j] := by
  rw [List.getElem?_eq_getElem (by simpa using h)]; rfl
theorem okB0_end {t : ByteArray} {j : Nat} (h : t.size ≤ j) : okB0 t j = false := by
  unfold okB0; rw [List.getElem?_eq_none (by simpa using h)]
theorem okB0_bare {t : ByteArray} {j : Nat} (h : j < t.size) (hc : t[j] = 46) : okB0 t j = false := by
  unfold okB0; rw [list_at t j h, hc]; rfl
theorem okB0_first {t : ByteArray} (h : 0 < t.size) (hc : t[0] ≠ 46) : okB0 t 0 = true := by
  unfold okB0; rw [list_at t 0 h]; simp [hc]
theorem okB0_same {t : ByteArray} {j : Nat} (h : j + 1 < t.size) (hc : t[j + 1] = t[j]) : okB0 t (j + 1) = false := by
  unfold okB0; rw [list_at t (j + 1) h, Nat.add_sub_cancel, list_at t j (by omega), hc]; simp
theorem okB0_next {t : ByteArray} {j : Nat} (h : j + 1 < t.size) (hc : t[j + 1] ≠ 46) (hd : t[j + 1] ≠ t[j]) : okB0 t (j + 1) = true := by
  unfold okB0; rw [list_at t (j + 1) h, Nat.add_sub_cancel, list_at t j (by omega)]
  have : ¬ t[j] = t[j + 1] := fun e => hd e.symm
  simp [hc, this]
theorem runF_spec (t : ByteArray) : ∀ f j, t.size ≤ f + j → (∀ i, i < j → okB0 t i = true) → (∀ i, i < runF t f j → okB0 t i = true) ∧ okB0 t (runF t f j) = false
  | 0, j, h, hi => ⟨hi, okB0_end (by simpa [runF] using h)⟩
  | f + 1, j, h, hi => by
    unfold runF
    by_cases hk : okB0 t j = true
    · rw [if_pos hk]
      exact runF_spec t f (j + 1) (by omega) fun i hlt => by
        rcases Nat.lt_or_ge i j with h1 | h1
        · exact hi i h1
        · obtain rfl : i = j := by omega
          exact hk
    · rw [if_neg hk]
      exact ⟨hi, by simpa using hk⟩
theorem runT_spec (t : ByteArray) : (∀ i, i < runT t → okB0 t i = true) ∧ okB0 t (runT t) = false := runF_spec t _ 0 (by omega) fun i h => absurd h (Nat.not_lt_zero _)
theorem runT_le (t : ByteArray) : runT t ≤ t.size := by
  rcases Nat.lt_or_ge t.size (runT t) with h | h
  · have := (runT_spec t).1 t.size h
    rw [okB0_end (Nat.le_refl _)] at this; cases this
  · exact h
theorem runT_at {t : ByteArray} {k : Nat} (h1 : ∀ i, i < k → okB0 t i = true) (h2 : okB0 t k = false) : k = runT t := by
  obtain ⟨a, b⟩ := runT_spec t
  rcases Nat.lt_trichotomy k (runT t) with h | h | h
  · rw [a k h] at h2; cases h2
  · exact h
  · rw [h1 _ h] at b; cases b

/-- no board of the text, which is no fence around, is bare or as the one before it -/
def allT (t : ByteArray) : Bool := decide (runT t = t.size)
theorem allT_no {t : ByteArray} {k : Nat} (hk : k < t.size) (h1 : ∀ i, i < k → okB0 t i = true) (h2 : okB0 t k = false) : allT t = false := by
  have := runT_at h1 h2
  unfold allT; rw [decide_eq_false_iff_not]; omega
theorem allT_yes {t : ByteArray} (h1 : ∀ i, i < t.size → okB0 t i = true) : allT t = true := by
  have := runT_at h1 (okB0_end (Nat.le_refl _))
  unfold allT; rw [decide_eq_true_iff]; exact this.symm

/-- some draws later -/
def Drawn (w w' : World) : Prop := ∃ d, w' = w.drewN d

set_option maxHeartbeats 1000000 in
theorem coProper_line (t : ByteArray) (w : World) (hs : t.size ≤ 20) :
    Calls Tryd.prog 31 #[.string t, .bool false] w fun e w' => e = .returned (.bool (allT t)) ∧ Drawn w w' := by
  go_enter Tryd.func31, Tryd.ntmps31
  go_wp2
  go_loopw [5] (fun b w' => ∃ k d : Nat, k ≤ t.size ∧ b = .int .i64 k ∧ (∀ i, i < k → okB0 t i = true) ∧ w' = w.drewN d) (fun b _ => t.size - (intOf b).toNat)
  case atStart => exact ⟨0, 0, Nat.zero_le _, rfl, fun i h => absurd h (Nat.not_lt_zero _), rfl⟩
  case round =>
    obtain ⟨k, d, hk, rfl, hall, rfl⟩ := hrel
    have HA := Lib.hid hall
    clear hall
    have k0 : (0 : Int) ≤ (k : Int) := by omega
    by_cases hlt : k < t.size
    · have k1 : (k : Int) < (t.size : Int) := by omega
      by_cases hb : t[k] = 46
      · have HK := Lib.hid (allT_no hlt HA.out (okB0_bare hlt hb))
        have h46 : ((t[k].toNat : Int) == 46) = true := by rw [hb]; rfl
        clear hb
        go_wp2
        go_quiet (fail)
        go_wp2
        go_ret
        exact ⟨ret_bool HK.out.symm, _, World.drewN_drewN _ _ _⟩
      · have h46 : ((t[k].toNat : Int) == 46) = false := by
          rw [beq_eq_false_iff_ne]; intro e; apply hb; exact UInt8.toNat_inj.1 (by simpa using (by omega : t[k].toNat = 46))
        cases k with
        | zero =>
          have H1 : Hid (∀ i, i < 1 → okB0 t i = true) := Lib.hid fun i hi => by
            obtain rfl : i = 0 := by omega
            exact okB0_first hlt hb
          clear hb
          go_wp2
          go_quiet (fail)
          go_wp2
          go_roundw
          case rel => exact ⟨1, _, by omega, rfl, H1.out, rfl⟩
          case measure => simp [intOf]; omega
        | succ j =>
          have hj : j < t.size := by omega
          have hz : decide (0 < (j : Int) + 1) = true := by rw [decide_eq_true_iff]; omega
          have hz2 : (0 : Int) < (j : Int) + 1 := by omega
          have kk : (j : Int) + 1 < (t.size : Int) := by omega
          have e2 : ((j : Int) + 1).toNat = j + 1 := by omega
          have kz : (0 : Int) ≤ (j : Int) + 1 := by omega
          have j0 : (0 : Int) ≤ (j : Int) := by omega
          have j1 : (j : Int) < (t.size : Int) := by omega
          clear k0 k1
          rw [show ((j + 1 : Nat) : Int) = (j : Int) + 1 by omega]
          by_cases hd : t[j + 1] = t[j]
          · have HK := Lib.hid (allT_no hlt HA.out (okB0_same hlt hd))
            have hne : ((t[j + 1].toNat : Int) == (t[j].toNat : Int)) = true := by rw [hd]; simp
            clear hb hd
            go_wp2
            go_quiet (fail)
            go_wp2
            go_ret
            exact ⟨ret_bool HK.out.symm, _, World.drewN_drewN _ _ _⟩
          · have HK := Lib.hid (okB0_next hlt hb hd)
            have hne : ((t[j + 1].toNat : Int) == (t[j].toNat : Int)) = false := by
              rw [beq_eq_false_iff_ne]; intro e; apply hd; exact UInt8.toNat_inj.1 (by omega)
            clear hb hd
            go_wp2
            go_quiet (fail)
            go_wp2
            go_roundw
            case rel => exact ⟨j + 1 + 1, _, by omega, by go_num, (fun i hi => by
              rcases Nat.lt_or_ge i (j + 1) with h1 | h1
              · exact HA.out i h1
              · obtain rfl : i = j + 1 := by omega
                exact HK.out), rfl⟩
            case measure => simp [intOf]; omega
    · obtain rfl : k = t.size := by omega
      have HK := Lib.hid (allT_yes HA.out)
      go_wp2
      go_quiet (fail)
      go_wp2
      go_ret
      exact ⟨ret_bool HK.out.symm, _, World.drewN_drewN _ _ _⟩
end Go.Proofs.YtnijedmnjmeciaaDoor
