/- IsProper: both sides. No condition but the text's length. -/
import Derived.Test.YtnijedmnjmeciaaDoorLongest
import Derived.Shelf.Strings.SlTrimAscii
namespace Go.Proofs.YtnijedmnjmeciaaDoor
open Go.RowKit

/-- both ends have one colour -/
def eqEnds (t : ByteArray) : Bool := decide (t.data.toList[0]? = t.data.toList[t.size - 1]?)
theorem eqEnds_yes {t : ByteArray} {m : Nat} (h : t.size = m + 1) (e : t[0].toNat = t[m].toNat) : eqEnds t = true := by
  unfold eqEnds
  rw [h, Nat.add_sub_cancel, list_at t 0 (by omega), list_at t m (by omega), decide_eq_true_iff]
  congr 1; exact UInt8.toNat_inj.1 e
theorem eqEnds_no {t : ByteArray} {m : Nat} (h : t.size = m + 1) (e : t[0].toNat ≠ t[m].toNat) : eqEnds t = false := by
  unfold eqEnds
  rw [h, Nat.add_sub_cancel, list_at t 0 (by omega), list_at t m (by omega), decide_eq_false_iff_not]
  intro x; injection x with x; exact e (by rw [x])
/-- two boards side by side have one colour -/
def pairT (t : ByteArray) : Bool := (List.range t.size).any fun i => decide (1 ≤ i ∧ t.data.toList[i]? = t.data.toList[i - 1]?)
theorem pairT_no {t : ByteArray} (h : ∀ i, 1 ≤ i → i < t.size → t.data.toList[i]? ≠ t.data.toList[i - 1]?) : pairT t = false := by
  unfold pairT
  rw [List.any_eq_false]
  intro i hi
  rw [decide_eq_true_iff]
  rintro ⟨h1, h2⟩
  exact h i h1 (List.mem_range.1 hi) h2
theorem pairT_yes {t : ByteArray} {i : Nat} (h1 : 1 ≤ i) (h2 : i < t.size) (h : t.data.toList[i]? = t.data.toList[i - 1]?) : pairT t = true := by
  unfold pairT
  rw [List.any_eq_true]
  exact ⟨i, List.mem_range.2 h2, decide_eq_true ⟨h1, h⟩⟩
/-- no board is bare -/
def fullT (t : ByteArray) : Bool := t.data.toList.all fun c => decide (c ≠ 46)
theorem allT_split (t : ByteArray) : allT t = (fullT t && !pairT t) := by
  have hk : ∀ i, i < t.size → (okB0 t i = true ↔ (t.data.toList[i]? ≠ some 46 ∧ (1 ≤ i → t.data.toList[i]? ≠ t.data.toList[i - 1]?))) := fun i hi => by
    unfold okB0
    rw [list_at t i hi]
    simp only [Bool.and_eq_true, Bool.or_eq_true, decide_eq_true_iff]
    constructor
    · rintro ⟨h1, h2⟩
      refine ⟨fun e => h1 (Option.some.inj e), fun h3 e => ?_⟩
      rcases h2 with h2 | h2
      · omega
      · exact h2 e.symm
    · rintro ⟨h1, h2⟩
      refine ⟨fun e => h1 (by rw [e]), ?_⟩
      rcases Nat.eq_zero_or_pos i with h3 | h3
      · exact .inl h3
      · exact .inr fun e => h2 h3 e.symm
  rw [Bool.eq_iff_iff]
  constructor
  · intro h
    have hall : ∀ i, i < t.size → okB0 t i = true := by
      have h1 := (runT_spec t).1
      unfold allT at h
      rw [of_decide_eq_true h] at h1
      exact h1
    rw [Bool.and_eq_true, Bool.not_eq_true']
    refine ⟨?_, pairT_no fun i h1 h2 => ((hk i h2).1 (hall i h2)).2 h1⟩
    unfold fullT
    rw [List.all_eq_true]
    intro c hc
    rw [decide_eq_true_iff]
    obtain ⟨i, hi, rfl⟩ := List.mem_iff_getElem.1 hc
    have hi' : i < t.size := by simpa using hi
    intro e
    exact ((hk i hi').1 (hall i hi')).1 (by rw [List.getElem?_eq_getElem hi, e])
  · rw [Bool.and_eq_true, Bool.not_eq_true']
    rintro ⟨h1, h2⟩
    refine allT_yes fun i hi => (hk i hi).2 ⟨fun e => ?_, fun h3 e => ?_⟩
    · unfold fullT at h1
      rw [List.all_eq_true] at h1
      have := h1 46 (List.mem_iff_getElem?.2 ⟨i, e⟩)
      simp at this
    · rw [pairT_yes h3 hi e] at h2; cases h2
def prT (t : ByteArray) (around : Bool) : Bool := allT t && !(around && eqEnds t)

set_option maxHeartbeats 1000000 in
theorem coProper_any (t : ByteArray) (around : Bool) (w : World) (hs : t.size ≤ 20) (h0 : 1 ≤ t.size) :
    Calls Tryd.prog 31 #[.string t, .bool around] w fun e w' => e = .returned (.bool (prT t around)) ∧ Drawn w w' := by
  have HNO : Hid (allT t = false → prT t around = false) := Lib.hid fun h => by unfold prT; rw [h]; rfl
  have HYES : Hid (allT t = true → prT t around = !(around && eqEnds t)) := Lib.hid fun h => by unfold prT; rw [h]; rfl
  go_enter Tryd.func31, Tryd.ntmps31
  go_wp2
  go_loopw [5] (fun b w' => ∃ k d : Nat, k ≤ t.size ∧ b = .int .i64 k ∧ (∀ i, i < k → okB0 t i = true) ∧ w' = w.drewN d) (fun b _ => t.size - (intOf b).toNat)
  case atStart => exact ⟨0, 0, Nat.zero_le _, rfl, fun i h => absurd h (Nat.not_lt_zero _), rfl⟩
  case round =>
    obtain ⟨k, d, hk, rfl, hall, rfl⟩ := hrel
    have HA := Lib.hid hall
    clear hall
    have k0 : (0 : Int) ≤ (k : Int) := by omega
    by_cases hlt : k < t.size
    · have k1 : (k : Int) < (t.size : Int) := by omega
      by_cases hb : t[k] = 46
      · have HK := Lib.hid (HNO.out (allT_no hlt HA.out (okB0_bare hlt hb)))
        have h46 : ((t[k].toNat : Int) == 46) = true := by rw [hb]; rfl
        clear hb
        go_wp2
        go_quiet (fail)
        go_wp2
        go_ret
        exact ⟨ret_bool HK.out.symm, _, World.drewN_drewN _ _ _⟩
      · have h46 : ((t[k].toNat : Int) == 46) = false := by
          rw [beq_eq_false_iff_ne]; intro e; apply hb; exact UInt8.toNat_inj.1 (by simpa using (by omega : t[k].toNat = 46))
        cases k with
        | zero =>
          have H1 : Hid (∀ i, i < 1 → okB0 t i = true) := Lib.hid fun i hi => by
            obtain rfl : i = 0 := by omega
            exact okB0_first hlt hb
          clear hb
          go_wp2
          go_quiet (fail)
          go_wp2
          go_roundw
          case rel => exact ⟨1, _, by omega, rfl, H1.out, rfl⟩
          case measure => simp [intOf]; omega
        | succ j =>
          have hj : j < t.size := by omega
          have hz : decide (0 < (j : Int) + 1) = true := by rw [decide_eq_true_iff]; omega
          have hz2 : (0 : Int) < (j : Int) + 1 := by omega
          have kk : (j : Int) + 1 < (t.size : Int) := by omega
          have e2 : ((j : Int) + 1).toNat = j + 1 := by omega
          have kz : (0 : Int) ≤ (j : Int) + 1 := by omega
          have j0 : (0 : Int) ≤ (j : Int) := by omega
          have j1 : (j : Int) < (t.size : Int) := by omega
          clear k0 k1
          rw [show ((j + 1 : Nat) : Int) = (j : Int) + 1 by omega]
          by_cases hd : t[j + 1] = t[j]
          · have HK := Lib.hid (HNO.out (allT_no hlt HA.out (okB0_same hlt hd)))
            have hne : ((t[j + 1].toNat : Int) == (t[j].toNat : Int)) = true := by rw [hd]; simp
            clear hb hd
            go_wp2
            go_quiet (fail)
            go_wp2
            go_ret
            exact ⟨ret_bool HK.out.symm, _, World.drewN_drewN _ _ _⟩
          · have HK := Lib.hid (okB0_next hlt hb hd)
            have hne : ((t[j + 1].toNat : Int) == (t[j].toNat : Int)) = false := by
              rw [beq_eq_false_iff_ne]; intro e; apply hd; exact UInt8.toNat_inj.1 (by omega)
            clear hb hd
            go_wp2
            go_quiet (fail)
            go_wp2
            go_roundw
            case rel => exact ⟨j + 1 + 1, _, by omega, by go_num, (fun i hi => by
              rcases Nat.lt_or_ge i (j + 1) with h1 | h1
              · exact HA.out i h1
              · obtain rfl : i = j + 1 := by omega
                exact HK.out), rfl⟩
            case measure => simp [intOf]; omega
    · obtain rfl : k = t.size := by omega
      have HK := Lib.hid (HYES.out (allT_yes HA.out))
      cases around
      · go_wp2
        go_quiet (fail)
        go_wp2
        go_ret
        exact ⟨ret_bool HK.out.symm, _, World.drewN_drewN _ _ _⟩
      · obtain ⟨m, hm⟩ : ∃ m, t.size = m + 1 := ⟨t.size - 1, by omega⟩
        have hm1 : m < t.size := by omega
        have m0 : (0 : Int) ≤ (m : Int) := by omega
        have m1 : (m : Int) < (t.size : Int) := by omega
        have z1 : (0 : Int) < (t.size : Int) := by omega
        have z2 : 0 < t.size := by omega
        have es : (t.size : Int) - 1 = (m : Int) := by omega
        by_cases he : t[0].toNat = t[m].toNat
        · have HE : Hid (prT t true = false) := Lib.hid (by rw [HK.out, eqEnds_yes hm he]; rfl)
          have hne : ((t[0].toNat : Int) != (t[m].toNat : Int)) = false := by rw [he]; simp
          clear hm he
          go_wp2
          go_quiet (fail)
          go_wp2
          go_ret
          exact ⟨ret_bool HE.out.symm, _, World.drewN_drewN _ _ _⟩
        · have HE : Hid (prT t true = true) := Lib.hid (by rw [HK.out, eqEnds_no hm he]; rfl)
          have hne : ((t[0].toNat : Int) != (t[m].toNat : Int)) = true := by rw [bne_iff_ne]; omega
          clear hm he
          go_wp2
          go_quiet (fail)
          go_wp2
          go_ret
          exact ⟨ret_bool HE.out.symm, _, World.drewN_drewN _ _ _⟩

set_option maxHeartbeats 1000000 in
theorem hasPair_any (t : ByteArray) (around : Bool) (w : World) (hs : t.size ≤ 20) (h0 : 1 ≤ t.size) :
    Calls Tryd.prog 34 #[.string t, .bool around] w fun e w' => e = .returned (.bool (pairT t || (around && eqEnds t))) ∧ Drawn w w' := by
  have HY : Hid (pairT t = true → (pairT t || (around && eqEnds t)) = true) := Lib.hid fun h => by rw [h]; rfl
  have HN : Hid (pairT t = false → (pairT t || (around && eqEnds t)) = (around && eqEnds t)) := Lib.hid fun h => by rw [h]; rfl
  go_enter Tryd.func34, Tryd.ntmps34
  go_wp2
  go_loopw [5] (fun b w' => ∃ k d : Nat, k + 1 ≤ t.size ∧ b = .int .i64 ((k : Int) + 1) ∧ (∀ i, 1 ≤ i → i < k + 1 → t.data.toList[i]? ≠ t.data.toList[i - 1]?) ∧ w' = w.drewN d) (fun b _ => t.size - (intOf b).toNat)
  case atStart => exact ⟨0, 0, h0, rfl, fun i h h2 => by omega, rfl⟩
  case round =>
    obtain ⟨j, d, hk, rfl, hall, rfl⟩ := hrel
    have HA := Lib.hid hall
    clear hall
    by_cases hlt : j + 1 < t.size
    · have hj : j < t.size := by omega
      have kk : (j : Int) + 1 < (t.size : Int) := by omega
      have e2 : ((j : Int) + 1).toNat = j + 1 := by omega
      have kz : (0 : Int) ≤ (j : Int) + 1 := by omega
      have j0 : (0 : Int) ≤ (j : Int) := by omega
      have j1 : (j : Int) < (t.size : Int) := by omega
      by_cases hd : t[j + 1] = t[j]
      · have HK := Lib.hid (HY.out (pairT_yes (i := j + 1) (by omega) hlt (by rw [Nat.add_sub_cancel, list_at t _ hlt, list_at t _ hj, hd])))
        have hne : ((t[j + 1].toNat : Int) == (t[j].toNat : Int)) = true := by rw [hd]; simp
        clear hd
        go_wp2
        go_quiet (fail)
        go_wp2
        go_ret
        exact ⟨ret_bool HK.out.symm, _, World.drewN_drewN _ _ _⟩
      · have HK : Hid (t.data.toList[j + 1]? ≠ t.data.toList[j + 1 - 1]?) := Lib.hid (by rw [Nat.add_sub_cancel, list_at t _ hlt, list_at t _ hj]; intro e; injection e with e; exact hd e)
        have hne : ((t[j + 1].toNat : Int) == (t[j].toNat : Int)) = false := by
          rw [beq_eq_false_iff_ne]; intro e; apply hd; exact UInt8.toNat_inj.1 (by omega)
        clear hd
        go_wp2
        go_quiet (fail)
        go_wp2
        go_roundw
        case rel => exact ⟨j + 1, _, by omega, by go_num, (fun i h1 h2 => by
          rcases Nat.lt_or_ge i (j + 1) with h3 | h3
          · exact HA.out i h1 h3
          · obtain rfl : i = j + 1 := by omega
            exact HK.out), rfl⟩
        case measure => simp [intOf]; omega
    · have hsz : t.size = j + 1 := by omega
      have HK := Lib.hid (HN.out (pairT_no fun i h1 h2 => HA.out i h1 (by omega)))
      have hnl : ¬ (j : Int) + 1 < (t.size : Int) := by omega
      cases around
      · clear hsz
        go_wp2
        go_quiet (fail)
        go_wp2
        go_ret
        exact ⟨ret_bool HK.out.symm, _, World.drewN_drewN _ _ _⟩
      · have hm1 : j < t.size := by omega
        have m0 : (0 : Int) ≤ (j : Int) := by omega
        have m1 : (j : Int) < (t.size : Int) := by omega
        have z1 : (0 : Int) < (t.size : Int) := by omega
        have z2 : 0 < t.size := by omega
        have es : (t.size : Int) - 1 = (j : Int) := by omega
        by_cases he : t[0].toNat = t[j].toNat
        · have HE : Hid ((pairT t || (true && eqEnds t)) = true) := Lib.hid (by rw [HK.out, eqEnds_yes hsz he]; rfl)
          have hne : ((t[0].toNat : Int) == (t[j].toNat : Int)) = true := by rw [he]; simp
          clear hsz he
          go_wp2
          go_quiet (fail)
          go_wp2
          go_ret
          exact ⟨ret_bool HE.out.symm, _, World.drewN_drewN _ _ _⟩
        · have HE : Hid ((pairT t || (true && eqEnds t)) = false) := Lib.hid (by rw [HK.out, eqEnds_no hsz he]; rfl)
          have hne : ((t[0].toNat : Int) == (t[j].toNat : Int)) = false := by rw [beq_eq_false_iff_ne]; omega
          clear hsz he
          go_wp2
          go_quiet (fail)
          go_wp2
          go_ret
          exact ⟨ret_bool HE.out.symm, _, World.drewN_drewN _ _ _⟩
end Go.Proofs.YtnijedmnjmeciaaDoor
