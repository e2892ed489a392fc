/- Lists of colours: whether they are: 'spec.coLists', 'impl.isNoList'. No condition but the texts' lengths. -/
import Derived.Test.YteefkgnojdgehaaListSpec
import Derived.Test.YteefkgnojdgehaaFenceB
import Derived.Test.YteefkgnojdgehaaIn
import Derived.BigQuiet
namespace Go.Proofs.Yteefkgnojdgehaa
open Go.RowKit

def byAt (s : ByteArray) (k : Nat) : Nat := (bytN s).getD k 0
theorem byAt_lt {s : ByteArray} {k : Nat} (h : k < s.size) : byAt s k = s[k].toNat := by
  unfold byAt; rw [List.getD_eq_getElem?_getD, List.getElem?_eq_getElem (by rw [bytN_len]; exact h), bytN_at h]; rfl
def okAt (s : ByteArray) (k : Nat) : Bool := decide (97 ≤ byAt s k ∧ byAt s k ≤ 101) && (decide (k = 0) || decide (byAt s (k - 1) < byAt s k))
def okLet (s : ByteArray) : Bool := decide (1 ≤ s.size) && (List.range s.size).all (okAt s)
theorem okLet_yes {s : ByteArray} (h1 : 1 ≤ s.size) (h : ∀ j, j < s.size → okAt s j = true) : okLet s = true := by
  unfold okLet
  rw [decide_eq_true h1, Bool.true_and, List.all_eq_true]
  exact fun j hj => h j (List.mem_range.1 hj)
theorem okLet_no {s : ByteArray} {k : Nat} (hk : k < s.size) (h : okAt s k = false) : okLet s = false := by
  have : (List.range s.size).all (okAt s) = false := by
    rw [List.all_eq_false]; exact ⟨k, List.mem_range.2 hk, by rw [h]; decide⟩
  unfold okLet; rw [this, Bool.and_false]
theorem okLet_nil {s : ByteArray} (h : s.size = 0) : okLet s = false := by unfold okLet; rw [decide_eq_false (by omega)]; rfl
theorem okLet_letts {s : ByteArray} (h : okLet s = true) : Letts s := by
  unfold okLet at h
  rw [Bool.and_eq_true, decide_eq_true_iff, List.all_eq_true] at h
  obtain ⟨h1, h2⟩ := h
  have hk : ∀ k, k < s.size → (97 ≤ byAt s k ∧ byAt s k ≤ 101) ∧ (k = 0 ∨ byAt s (k - 1) < byAt s k) := fun k hk => by
    have := h2 k (List.mem_range.2 hk)
    unfold okAt at this
    rw [Bool.and_eq_true, Bool.or_eq_true, decide_eq_true_iff, decide_eq_true_iff, decide_eq_true_iff] at this
    exact this
  refine ⟨h1, fun k h => ?_, fun k h => ?_⟩
  · have := (hk k h).1; rw [byAt_lt h] at this; exact this
  · have := (hk (k + 1) h).2
    rw [byAt_lt h, Nat.add_sub_cancel, byAt_lt (by omega)] at this
    omega
theorem okLet_long {s : ByteArray} (h : 5 < s.size) : okLet s = false := by
  cases e : okLet s with
  | false => rfl
  | true => have := (okLet_letts e).n5; omega
theorem okAt_bd {s : ByteArray} {k : Nat} (hk : k < s.size) (h : ¬ (97 ≤ s[k].toNat ∧ s[k].toNat ≤ 101)) : okAt s k = false := by
  unfold okAt; rw [byAt_lt hk, decide_eq_false h]; rfl
theorem okAt_zero {s : ByteArray} (hk : 0 < s.size) (h : 97 ≤ s[0].toNat ∧ s[0].toNat ≤ 101) : okAt s 0 = true := by
  unfold okAt; rw [byAt_lt hk, decide_eq_true h]; rfl
theorem okAt_next {s : ByteArray} {j : Nat} (hk : j + 1 < s.size) (h : 97 ≤ s[j + 1].toNat ∧ s[j + 1].toNat ≤ 101) : okAt s (j + 1) = decide (s[j].toNat < s[j + 1].toNat) := by
  unfold okAt; rw [byAt_lt hk, decide_eq_true h, Nat.add_sub_cancel, byAt_lt (show j < s.size by omega), decide_eq_false (show ¬ j + 1 = 0 by omega)]; rfl
def okLs (LL : List ByteArray) : Bool := decide (1 ≤ (LL.length : Int) ∧ (LL.length : Int) ≤ 20) && LL.all okLet
theorem okLs_ok {LL : List ByteArray} (h : okLs LL = true) : OkLs LL := by
  unfold okLs at h
  rw [Bool.and_eq_true, decide_eq_true_iff, List.all_eq_true] at h
  exact ⟨by omega, by omega, fun j hj => okLet_letts (h.2 _ (List.getElem_mem hj))⟩
theorem okLs_no {LL : List ByteArray} {k : Nat} (hk : k < LL.length) (h : okLet LL[k] = false) : okLs LL = false := by
  have : LL.all okLet = false := by rw [List.all_eq_false]; exact ⟨_, List.getElem_mem hk, by rw [h]; decide⟩
  unfold okLs; rw [this, Bool.and_false]
theorem okLs_yes {LL : List ByteArray} (hn : 1 ≤ (LL.length : Int) ∧ (LL.length : Int) ≤ 20) (h : ∀ k (hk : k < LL.length), okLet LL[k] = true) : okLs LL = true := by
  unfold okLs
  rw [decide_eq_true hn, Bool.true_and, List.all_eq_true]
  intro s hs
  obtain ⟨k, hk, rfl⟩ := List.mem_iff_getElem.1 hs
  exact h k hk
theorem okLs_len {LL : List ByteArray} (hn : ¬ (1 ≤ (LL.length : Int) ∧ (LL.length : Int) ≤ 20)) : okLs LL = false := by unfold okLs; rw [decide_eq_false hn]; rfl

set_option maxRecDepth 100000 in
set_option maxHeartbeats 4000000 in
theorem isNoList_any (s : ByteArray) (w : World) (hs : s.size ≤ 1048576) :
    Calls Try.prog 74 #[.string s] w fun e w' => e = .returned (.bool (!okLet s)) ∧ Below w.heap.size w w' := by
  have HIC := Lib.hid fun k (hk : k < s.size) W => (isColour_any (s.extract k (k + 1)) W (extract_one_max s k))
  go_enter Try.func74, Try.ntmps74
  go_wp2
  go_loopw [6] (fun i wr => ∃ k d : Nat, k ≤ s.size ∧ i = .int .i64 (k : Int) ∧ (∀ j, j < k → okAt s j = true) ∧ wr = w.drewN d) (fun i _ => s.size - (intOf i).toNat)
  case atStart => exact ⟨0, 0, Nat.zero_le _, rfl, fun j h => by omega, rfl⟩
  case round =>
    obtain ⟨k, d, hk, rfl, hall, rfl⟩ := hrel
    have HA := Lib.hid hall
    clear hall
    by_cases hlt : k < s.size
    · have HC : Hid (∀ m, Calls Try.prog 90 #[.string (s.extract k (k + 1))] (w.drewN (d + m)) fun e w' => e = .returned (.bool (colB s[k])) ∧ ∃ q, w' = w.drewN (d + q)) := Lib.hid fun m => (HIC.out k hlt _).mono fun _ _ h => ⟨by rw [h.1, isCol_sub s k hlt], m, h.2.symm⟩
      by_cases hc : colB s[k] = true
      · have hbd : 97 ≤ s[k].toNat ∧ s[k].toNat ≤ 101 := by unfold colB at hc; have := of_decide_eq_true hc; omega
        rw [hc] at HC
        rcases Nat.eq_zero_or_pos k with h0 | h0
        · subst h0
          have HK : Hid (∀ j, j < 1 → okAt s j = true) := Lib.hid fun j hj => by
            obtain rfl : j = 0 := by omega
            exact okAt_zero hlt hbd
          clear hc hbd
          go_wp2
          go_quiet (first | (go_at_call 90; with_reducible exact HC.out _))
          go_wp2
          go_roundw
          case rel => exact ⟨1, _, by omega, by go_num, HK.out, rfl⟩
          case measure => simp [intOf]; omega
        · obtain ⟨j, rfl⟩ : ∃ j, k = j + 1 := ⟨k - 1, by omega⟩
          have HK := Lib.hid (okAt_next hlt hbd)
          have ej : ((j + 1 : Nat) : Int) = (j : Int) + 1 := by omega
          rw [ej]
          have hj : j < s.size := by omega
          have kk : (j : Int) + 1 < (s.size : Int) := by omega
          have e2 : ((j : Int) + 1).toNat = j + 1 := by omega
          have kz : (0 : Int) ≤ (j : Int) + 1 := by omega
          have kp : (0 : Int) < (j : Int) + 1 := by omega
          have j0 : (0 : Int) ≤ (j : Int) := by omega
          have j1 : (j : Int) < (s.size : Int) := by omega
          by_cases hd : s[j].toNat < s[j + 1].toNat
          · rw [decide_eq_true hd] at HK
            have hle : decide (s[j + 1].toNat ≤ s[j].toNat) = false := decide_eq_false (by omega)
            have HK2 : Hid (∀ i, i < j + 2 → okAt s i = true) := Lib.hid fun i hi => by
              rcases Nat.lt_or_ge i (j + 1) with h3 | h3
              · exact HA.out i h3
              · obtain rfl : i = j + 1 := by omega
                exact HK.out
            clear hc hbd hd h0
            go_wp2
            go_quiet (first | (go_at_call 90; with_reducible exact HC.out _))
            go_wp2
            go_roundw
            case rel => exact ⟨j + 2, _, by omega, by go_num, HK2.out, rfl⟩
            case measure => simp [intOf]; omega
          · rw [decide_eq_false hd] at HK
            have HR := Lib.hid (okLet_no hlt HK.out)
            have hle : decide (s[j + 1].toNat ≤ s[j].toNat) = true := decide_eq_true (by omega)
            clear hc hbd hd h0
            go_wp2
            go_quiet (first | (go_at_call 90; with_reducible exact HC.out _))
            go_wp2
            go_ret
            exact ⟨ret_bool (by rw [HR.out]; rfl), below_drewN (below_drewN (Below.refl _ _) _) _⟩
      · have hc' : colB s[k] = false := by simpa using hc
        have HR := Lib.hid (okLet_no hlt (okAt_bd hlt (by unfold colB at hc'; have := of_decide_eq_false hc'; omega)))
        rw [hc'] at HC
        clear hc hc'
        go_wp2
        go_quiet (first | (go_at_call 90; with_reducible exact HC.out _))
        go_wp2
        go_ret
        exact ⟨ret_bool (by rw [HR.out]; rfl), below_drewN (below_drewN (Below.refl _ _) _) _⟩
    · have hnl : ¬ (k : Int) < (s.size : Int) := by omega
      rcases Nat.eq_zero_or_pos s.size with h0 | h0
      · have HR := Lib.hid (okLet_nil h0)
        have hse : s = ⟨#[]⟩ := by
          obtain ⟨⟨l⟩⟩ := s
          have : l.length = 0 := h0
          rw [List.eq_nil_of_length_eq_zero this]
        have HE : Hid (s.toList.isEmpty = !okLet s) := Lib.hid (by rw [HR.out, ByteArray.toList_eq, hse]; rfl)
        clear h0 hse
        go_wp2
        go_ret
        exact ⟨ret_bool (by first | exact HE.out | (rw [HR.out]; rfl)), below_drewN (Below.refl _ _) _⟩
      · have HR := Lib.hid (okLet_yes h0 fun j hj => HA.out j (by omega))
        have HE : Hid (s.toList.isEmpty = !okLet s) := Lib.hid (by
          rw [HR.out]
          cases e : s.toList.isEmpty with
          | false => rfl
          | true =>
            exfalso
            have h := List.isEmpty_iff.1 e
            have h2 : s.toList.length = s.size := by rw [ByteArray.toList_eq]; simp
            rw [h] at h2
            have : (0 : Nat) = s.size := h2
            omega)
        clear h0
        go_wp2
        go_ret
        exact ⟨ret_bool (by first | exact HE.out | (rw [HR.out]; rfl)), below_drewN (Below.refl _ _) _⟩
set_option maxRecDepth 100000 in
set_option maxHeartbeats 8000000 in
theorem coLists_any (A : Option Addr) (cap : Nat) (LL : List ByteArray) (w : World) (hl : LL.length ≤ 1048576) (hr : ∀ j (hj : j < LL.length), LL[j].size ≤ 1048576) (h : StrSl w A LL) :
    Calls Try.prog 44 #[.slice A LL.length cap] w fun e w' => e = .returned (.bool (okLs LL)) ∧ Below w.heap.size w w' := by
  by_cases hn : 1 ≤ (LL.length : Int) ∧ (LL.length : Int) ≤ 20
  · obtain ⟨sg, so, rfl, hsg, hsc⟩ := h.some (by omega)
    have HSC := Lib.hid hsc
    have HR := Lib.hid hr
    have HIN := Lib.hid fun W => l1In_t (LL.length : Int) 1 20 W hn
    have HYES := Lib.hid fun h => okLs_yes (LL := LL) hn h
    obtain ⟨n, hnn⟩ : ∃ n, n = LL.length := ⟨_, rfl⟩
    have HN := Lib.hid hnn
    rw [← hnn] at HIN ⊢
    have hn20 : n ≤ 20 := by omega
    clear h hsc hr hn hnn hl
    go_enter Try.func44, Try.ntmps44
    go_wp2_with (go_at_call 72; refine (HIN.out _).mono ?_; rintro e w' ⟨rfl, rfl⟩)
    go_loopw [12] (fun i wr => ∃ p d : Nat, p ≤ n ∧ i = .int .i64 (p : Int) ∧ (∀ k (_ : k < p) (hk : k < LL.length), okLet LL[k] = true) ∧ wr = w.drewN d) (fun i _ => n - (intOf i).toNat)
    case atStart => exact ⟨0, 0, Nat.zero_le _, rfl, fun k h => by omega, rfl⟩
    case round =>
      obtain ⟨p, d, hp, rfl, hall, rfl⟩ := hrel
      have HA := Lib.hid hall
      clear hall
      by_cases hlt : p < n
      · have hpl : p < LL.length := by rw [← HN.out]; exact hlt
        have cs := HSC.out p hpl
        have hs := HR.out p hpl
        have HNO := Lib.hid fun h => okLs_no hpl h
        have HST : Hid (okLet LL[p] = true → ∀ k (_ : k < p + 1) (hk : k < LL.length), okLet LL[k] = true) := Lib.hid fun h k hk hkl => by
          rcases Nat.lt_or_ge k p with h3 | h3
          · exact HA.out k h3 hkl
          · obtain rfl : k = p := by omega
            exact h
        obtain ⟨s, hss⟩ : ∃ s, s = LL[p] := ⟨_, rfl⟩
        rw [← hss] at cs hs HNO HST
        have ip0 : (0 : Int) ≤ (p : Int) := by omega
        have ip1 : (p : Int) < (n : Int) := by omega
        clear hss
        by_cases h0 : s.size = 0
        · have HRR := Lib.hid (HNO.out (okLet_nil h0))
          have hq : ((s.size : Int) == 0) = true := by rw [h0]; rfl
          clear h0
          go_wp2
          go_ret
          exact ⟨ret_bool HRR.out.symm, below_drewN (Below.refl _ _) _⟩
        · have hq : ((s.size : Int) == 0) = false := by rw [beq_eq_false_iff_ne]; omega
          by_cases h5 : 5 < s.size
          · have HRR := Lib.hid (HNO.out (okLet_long h5))
            have h5' : (5 : Int) < (s.size : Int) := by omega
            have h5d : decide ((5 : Int) < (s.size : Int)) = true := decide_eq_true h5'
            clear h0 h5
            go_wp2
            go_ret
            exact ⟨ret_bool HRR.out.symm, below_drewN (Below.refl _ _) _⟩
          · have h5d : decide ((5 : Int) < (s.size : Int)) = false := decide_eq_false (by omega)
            have h1 : 1 ≤ s.size := by omega
            have h55 : s.size ≤ 5 := by omega
            clear h0 h5
            go_wp2
            go_loopw [26] (fun i wr => ∃ k d : Nat, k ≤ s.size ∧ i = .int .i64 (k : Int) ∧ (∀ j, j < k → okAt s j = true) ∧ wr = w.drewN d) (fun i _ => s.size - (intOf i).toNat)
            case atStart => exact ⟨0, _, Nat.zero_le _, rfl, fun j h => by omega, rfl⟩
            case round =>
              obtain ⟨k, d, hk, rfl, hall, rfl⟩ := hrel
              have HK0 := Lib.hid hall
              clear hall
              by_cases hlk : k < s.size
              · have ik0 : (0 : Int) ≤ (k : Int) := by omega
                have ik1 : (k : Int) < (s.size : Int) := by omega
                by_cases hb0 : s[k].toNat < 97
                · have HRR := Lib.hid (HNO.out (okLet_no hlk (okAt_bd hlk (by omega))))
                  have d1 : decide (s[k].toNat < 97) = true := decide_eq_true hb0
                  have d2 : decide ((s[k].toNat : Int) < 97) = true := decide_eq_true (by omega)
                  go_wp2
                  go_quiet (fail)
                  go_wp2
                  go_ret
                  exact ⟨ret_bool HRR.out.symm, below_drewN (below_drewN (Below.refl _ _) _) _⟩
                · have d1 : decide (s[k].toNat < 97) = false := decide_eq_false hb0
                  have d2 : decide ((s[k].toNat : Int) < 97) = false := decide_eq_false (by omega)
                  by_cases hb1 : 101 < s[k].toNat
                  · have HRR := Lib.hid (HNO.out (okLet_no hlk (okAt_bd hlk (by omega))))
                    have d3 : decide (101 < s[k].toNat) = true := decide_eq_true hb1
                    have d4 : decide ((101 : Int) < (s[k].toNat : Int)) = true := decide_eq_true (by omega)
                    go_wp2
                    go_quiet (fail)
                    go_wp2
                    go_ret
                    exact ⟨ret_bool HRR.out.symm, below_drewN (below_drewN (Below.refl _ _) _) _⟩
                  · have d3 : decide (101 < s[k].toNat) = false := decide_eq_false hb1
                    have d4 : decide ((101 : Int) < (s[k].toNat : Int)) = false := decide_eq_false (by omega)
                    have hbd : 97 ≤ s[k].toNat ∧ s[k].toNat ≤ 101 := by omega
                    rcases Nat.eq_zero_or_pos k with h0 | h0
                    · subst h0
                      have HK : Hid (∀ j, j < 1 → okAt s j = true) := Lib.hid fun j hj => by
                        obtain rfl : j = 0 := by omega
                        exact okAt_zero hlk hbd
                      clear hbd
                      go_wp2
                      go_quiet (fail)
                      go_wp2
                      go_roundw
                      case rel => exact ⟨1, _, by omega, by go_num, HK.out, rfl⟩
                      case measure => simp [intOf]; omega
                    · obtain ⟨j, rfl⟩ : ∃ j, k = j + 1 := ⟨k - 1, by omega⟩
                      have HK := Lib.hid (okAt_next hlk hbd)
                      have ej : ((j + 1 : Nat) : Int) = (j : Int) + 1 := by omega
                      rw [ej]
                      have hj : j < s.size := by omega
                      have kk : (j : Int) + 1 < (s.size : Int) := by omega
                      have e2 : ((j : Int) + 1).toNat = j + 1 := by omega
                      have kz : (0 : Int) ≤ (j : Int) + 1 := by omega
                      have kp : (0 : Int) < (j : Int) + 1 := by omega
                      have j0 : (0 : Int) ≤ (j : Int) := by omega
                      have j1 : (j : Int) < (s.size : Int) := by omega
                      by_cases hd : s[j].toNat < s[j + 1].toNat
                      · rw [decide_eq_true hd] at HK
                        have hle : decide (s[j + 1].toNat ≤ s[j].toNat) = false := decide_eq_false (by omega)
                        have HK2 : Hid (∀ i, i < j + 2 → okAt s i = true) := Lib.hid fun i hi => by
                          rcases Nat.lt_or_ge i (j + 1) with h3 | h3
                          · exact HK0.out i h3
                          · obtain rfl : i = j + 1 := by omega
                            exact HK.out
                        clear hbd hd h0
                        go_wp2
                        go_quiet (fail)
                        go_wp2
                        go_roundw
                        case rel => exact ⟨j + 2, _, by omega, by go_num, HK2.out, rfl⟩
                        case measure => simp [intOf]; omega
                      · rw [decide_eq_false hd] at HK
                        have HRR := Lib.hid (HNO.out (okLet_no hlk HK.out))
                        have hle : decide (s[j + 1].toNat ≤ s[j].toNat) = true := decide_eq_true (by omega)
                        clear hbd hd h0
                        go_wp2
                        go_quiet (fail)
                        go_wp2
                        go_ret
                        exact ⟨ret_bool HRR.out.symm, below_drewN (below_drewN (Below.refl _ _) _) _⟩
              · have hnl : ¬ (k : Int) < (s.size : Int) := by omega
                have HS2 := Lib.hid (HST.out (okLet_yes h1 fun j hj => HK0.out j (by omega)))
                go_wp2
                go_roundw
                case rel => exact ⟨p + 1, _, by omega, by go_num, HS2.out, rfl⟩
                case measure => simp [intOf]; omega
      · obtain rfl : p = n := by omega
        have HRR := Lib.hid (HYES.out fun k hk => HA.out k (by rw [HN.out]; exact hk) hk)
        go_wp2
        go_ret
        exact ⟨ret_bool HRR.out.symm, below_drewN (Below.refl _ _) _⟩
  · have HIN := Lib.hid fun W => l1In_f (LL.length : Int) 1 20 W hn
    have HRR := Lib.hid (okLs_len hn)
    clear h hr hn hl
    go_enter Try.func44, Try.ntmps44
    go_wp2_with (go_at_call 72; refine (HIN.out _).mono ?_; rintro e w' ⟨rfl, rfl⟩)
    go_ret
    exact ⟨ret_bool HRR.out.symm, Below.refl _ _⟩
end Go.Proofs.Yteefkgnojdgehaa
