/- GatesOfRank of both sides. No condition. -/
import Derived.Test.YtbocdhibimcobaaGWays
namespace Go.Proofs.Ytbocdhibimcobaa
open Go.RowKit

/-- the next gate, f or one behind it: as soon as so few lists are left behind it -/
def nxtG (N j a : Nat) : Nat → Nat → Nat
  | 0, f => f
  | t + 1, f => if bin (N - f) j ≤ a then f else nxtG N j a t (f + 1)
def nx (N j a f : Nat) : Nat := nxtG N j a (N - f) f
theorem nx_stop {N j a f : Nat} (h : bin (N - f) j ≤ a) : nx N j a f = f := by
  unfold nx
  cases h1 : N - f with
  | zero => rfl
  | succ t => rw [h1] at h; show (if bin (N - f) j ≤ a then f else _) = f; rw [h1, if_pos h]
theorem nx_go {N j a f : Nat} (hf : f < N) (h : ¬ bin (N - f) j ≤ a) : nx N j a f = nx N j a (f + 1) := by
  unfold nx
  rw [show N - f = (N - (f + 1)) + 1 by omega]
  show (if bin (N - f) j ≤ a then f else _) = _
  rw [if_neg h]
theorem go_lt {N j a f : Nat} (hj : 1 ≤ j) (h : ¬ bin (N - f) j ≤ a) : f < N := by
  rcases Nat.lt_or_ge f N with h1 | h1
  · exact h1
  · exfalso
    rw [show N - f = 0 by omega, bin_gt 0 j (by omega)] at h
    omega
/-- the last gate and what is left behind it, behind k gates -/
def stG (N m a : Nat) : Nat → Nat × Nat
  | 0 => (0, a)
  | k + 1 => (nx N (m - k) (stG N m a k).2 (stG N m a k).1, (stG N m a k).2 - bin (N - nx N (m - k) (stG N m a k).2 (stG N m a k).1) (m - k))
theorem stG_succ (N m a k : Nat) : stG N m a (k + 1) = (nx N (m - k) (stG N m a k).2 (stG N m a k).1, (stG N m a k).2 - bin (N - nx N (m - k) (stG N m a k).2 (stG N m a k).1) (m - k)) := by rw [stG]
def gorL (N m a j : Nat) : List Int := (List.range j).map fun k => ((stG N m a (k + 1)).1 : Int)
theorem gorL_len (N m a j : Nat) : (gorL N m a j).length = j := by simp [gorL]
theorem gorL_succ (N m a j : Nat) : gorL N m a (j + 1) = gorL N m a j ++ [((stG N m a (j + 1)).1 : Int)] := by unfold gorL; rw [List.range_succ, List.map_append]; rfl
theorem gorL_at (N m a j k : Nat) (h : k < j) : ((gorL N m a j).map (Value.int .i64))[k]? = some (.int .i64 ((stG N m a (k + 1)).1 : Int)) := by
  unfold gorL; rw [List.map_map, List.getElem?_map, List.getElem?_range h]; rfl

def okGr (n m r : Int) : Bool := okMany n m && decide (0 ≤ r ∧ r < gwR n m)
def gorR (n m r : Int) : List Int := if okGr n m r = true then gorL (n.toNat - 1) m.toNat (gwR n m - 1 - r).toNat m.toNat else []
theorem gorR_no {n m r : Int} (h : okGr n m r = false) : gorR n m r = [] := by unfold gorR; rw [h]; rfl
theorem gorR_yes {n m : Nat} {r : Int} (h : okGr n m r = true) : gorR n m r = gorL (n - 1) m (gwR n m - 1 - r).toNat m := by unfold gorR; rw [h, Int.toNat_natCast, Int.toNat_natCast]; rfl
theorem okGr_at {n m r : Int} (h : okGr n m r = true) : okMany n m = true ∧ 0 ≤ r ∧ r < gwR n m := by
  unfold okGr at h
  rwa [Bool.and_eq_true, decide_eq_true_iff] at h
theorem okGr_no {n m r : Int} (h : okMany n m = false) : okGr n m r = false := by unfold okGr; rw [h]; rfl
theorem okGr_of {n m r : Int} (h : okMany n m = true) : okGr n m r = decide (0 ≤ r ∧ r < gwR n m) := by unfold okGr; rw [h]; rfl
theorem gorR_len (n m r : Int) : (gorR n m r).length ≤ 1048576 := by
  unfold gorR
  split
  · next h => have := okMany_at (okGr_at h).1; rw [gorL_len]; omega
  · exact Nat.zero_le _

set_option maxRecDepth 20000 in
set_option maxHeartbeats 4000000 in
theorem implGatesOfRank_any (a0 a1 a2 : Int) (w : World) (_ : (Lit.int .i64 a0).wf = true) (_ : (Lit.int .i64 a1).wf = true) (_ : (Lit.int .i64 a2).wf = true) :
    Calls Try.prog 45 #[.int .i64 a0, .int .i64 a1, .int .i64 a2] w fun e w' => ∃ v, e = .returned (.tuple #[v, .bool (okGr a0 a1 a2)]) ∧ OwnInts w' w.heap.size 3 v (gorR a0 a1 a2) ∧ Below w.heap.size w w' := by
  obtain ⟨i0, hi, hz0, hz1, hz2⟩ := info_parts info_int
  have HC := Lib.hid (implCountGateWays_eq a0 a1 w)
  cases hk : okMany a0 a1
  · have h2 := okGr_no (r := a2) hk
    rw [gorR_no h2, h2]
    rw [hk] at HC
    clear hk h2
    go_enter Try.func45, Try.ntmps45
    go_wp2_with fail
    refine HC.out.mono ?_
    rintro e w1 ⟨rfl, rfl⟩
    go_wp2
    go_ret2
    exact ⟨_, rfl, OwnInts.nil _ _ _, Below.refl _ _⟩
  · rw [hk] at HC
    have h2 := okGr_of (r := a2) hk
    by_cases h0 : 0 ≤ a2
    · by_cases hlt : a2 < gwR a0 a1
      · rw [decide_eq_true (show 0 ≤ a2 ∧ a2 < gwR a0 a1 from ⟨h0, hlt⟩)] at h2
        obtain ⟨hn, hm⟩ := okMany_at hk
        obtain ⟨n, rfl⟩ : ∃ n : Nat, a0 = n := ⟨a0.toNat, by omega⟩
        obtain ⟨m, rfl⟩ : ∃ m : Nat, a1 = m := ⟨a1.toNat, by omega⟩
        rw [gorR_yes h2, h2]
        have hbd : gwR n m ≤ 10485760000000000 := by rw [gwR_yes hk]; have := bin_bd10 (p := n - 1) (k := m) (by omega) (by omega); omega
        obtain ⟨g, hg⟩ : ∃ g, g = gwR n m := ⟨_, rfl⟩
        rw [← hg] at HC hbd hlt ⊢
        obtain ⟨a, ha⟩ : ∃ a : Nat, g - 1 - a2 = a := ⟨(g - 1 - a2).toNat, by omega⟩
        have HA := Lib.hid ha
        rw [ha, Int.toNat_natCast]
        have HWB : Hid (∀ (f j : Nat) (W : World), f + 1 ≤ n → j ≤ 10 → Calls Try.prog 74 #[.int .i64 n, .int .i64 (f : Int), .int .i64 (j : Int)] W fun e w' => e = .returned (.int .i64 ((bin (n - 1 - f) j : Nat) : Int)) ∧ W = w') := Lib.hid fun f j W hf hj => waysBehind_any n f j W (by omega) hf (by omega) hj
        have hge : ¬ g ≤ a2 := by omega
        have ha0 : a ≤ 10485760000000000 := by omega
        have HST : Hid (∀ k, stG (n - 1) m a (k + 1) = (nx (n - 1) (m - k) (stG (n - 1) m a k).2 (stG (n - 1) m a k).1, (stG (n - 1) m a k).2 - bin (n - 1 - nx (n - 1) (m - k) (stG (n - 1) m a k).2 (stG (n - 1) m a k).1) (m - k))) := Lib.hid fun k => stG_succ (n - 1) m a k
        have m0 : (0 : Int) ≤ (m : Int) := by omega
        clear hk h2 hg
        go_enter Try.func45, Try.ntmps45
        go_wp2_with fail
        refine HC.out.mono ?_
        rintro e w1 ⟨rfl, rfl⟩
        go_wp2_with (at_make; refine wpList_make_full _ rfl (.tmp 31) (.tmp 31) _ rfl w.heap.size 3 i0 _ 1 Try.underlying22 hi hz0 hz1 .i64 .i64 _ _ m rfl rfl rfl rfl (by rw [hz2]; omega) (by unfold maxLen; omega) (Nat.le_refl _) ?_; intro w2 hown hgrow)
        have HFi : Hid (Filled w w.heap.size 3 1 (.slice (some ⟨w.heap.size, 0, none⟩) m m) m ((gorL (n - 1) m a m).map (Value.int .i64)) 0 w2) := Lib.hid (Filled.made hown ((Below.refl _ _).grown hgrow (Nat.le_refl _) (fun k hk => by cases hk)))
        clear hown hgrow
        clear ha HA
        go_loopw [11, 12, 39] (fun u v i wr => ∃ k : Nat, k ≤ m ∧ i = .int .i64 (k : Int) ∧ u = .int .i64 ((stG (n - 1) m a k).1 : Nat) ∧ v = .int .i64 ((stG (n - 1) m a k).2 : Nat) ∧ (stG (n - 1) m a k).1 + 1 ≤ n ∧ (stG (n - 1) m a k).2 ≤ 10485760000000000 ∧ Filled w w.heap.size 3 1 (.slice (some ⟨w.heap.size, 0, none⟩) m m) m ((gorL (n - 1) m a m).map (Value.int .i64)) k wr) (fun _ _ i _ => m - (intOf i).toNat)
        case atStart => exact ⟨0, Nat.zero_le _, rfl, rfl, rfl, by show 0 + 1 ≤ n; omega, ha0, HFi.out⟩
        case round =>
          clear HFi
          obtain ⟨k, hkm, rfl, rfl, rfl, hl1, hl2, hf⟩ := hrel
          have HF := Lib.hid hf
          clear hf
          by_cases hlt2 : k < m
          · have HS := Lib.hid (HST.out k)
            have K1 := Lib.hid (gorL_at (n - 1) m a m k hlt2)
            obtain ⟨l, hll⟩ : ∃ l, l = (stG (n - 1) m a k).1 := ⟨_, rfl⟩
            obtain ⟨r, hrr⟩ : ∃ r, r = (stG (n - 1) m a k).2 := ⟨_, rfl⟩
            rw [← hll] at hl1
            rw [← hrr] at hl2
            rw [← hll, ← hrr] at HS ⊢
            obtain ⟨j, hj⟩ : ∃ j, j = m - k := ⟨_, rfl⟩
            rw [← hj] at HS
            have ej : (m : Int) - (k : Int) = (j : Int) := by omega
            have HEJ := Lib.hid ej
            have hj1 : 1 ≤ j := by omega
            have hj10 : j ≤ 10 := by omega
            have ik0 : (0 : Int) ≤ (k : Int) := by omega
            have ik1 : (k : Int) < (m : Int) := by omega
            clear hll hrr hj ej
            go_wp2
            go_loopw [11] (fun u wi => ∃ f : Nat, f + 1 ≤ n ∧ u = .int .i64 (f : Int) ∧ Hid (nx (n - 1) j r l = nx (n - 1) j r f) ∧ wi = wr) (fun u _ => n - (intOf u).toNat)
            case atStart => exact ⟨l, hl1, rfl, Lib.hid rfl, rfl⟩
            case round =>
              obtain ⟨f, hf1, rfl, HNX, rfl⟩ := hrel
              have HC2 := Lib.hid fun W => HWB.out f j W hf1 hj10
              have ej := HEJ.out
              by_cases hc : bin (n - 1 - f) j ≤ r
              · have HN := Lib.hid (HNX.out.trans (nx_stop hc))
                have HS2 : Hid ((stG (n - 1) m a (k + 1)).1 = f ∧ (stG (n - 1) m a (k + 1)).2 = r - bin (n - 1 - f) j) := Lib.hid (by
                  rw [HS.out, HN.out]; exact ⟨rfl, rfl⟩)
                rw [HS2.out.1] at K1
                obtain ⟨b, hb⟩ : ∃ b, b = bin (n - 1 - f) j := ⟨_, rfl⟩
                rw [← hb] at HC2 hc HS2
                obtain ⟨⟨u1, d1⟩, f1⟩ := HF.out.cell k (by omega)
                clear hb
                go_wp2_with fail
                refine (HC2.out _).mono ?_
                rintro e w1 ⟨rfl, rfl⟩
                go_wp2_with fail
                refine (HC2.out _).mono ?_
                rintro e w1 ⟨rfl, rfl⟩
                go_wp2
                go_roundw
                case rel => exact ⟨k + 1, by omega, by go_num, by rw [HS2.out.1], by rw [HS2.out.2]; go_num, by rw [HS2.out.1]; exact hf1, by rw [HS2.out.2]; omega, HF.out.step (by omega) (Nat.le_refl _) K1.out⟩
                case measure => simp [intOf]; omega
              · have hfN := go_lt hj1 hc
                have HN := Lib.hid (HNX.out.trans (nx_go hfN hc))
                obtain ⟨b, hb⟩ : ∃ b, b = bin (n - 1 - f) j := ⟨_, rfl⟩
                rw [← hb] at HC2 hc
                clear hb
                go_wp2_with fail
                refine (HC2.out _).mono ?_
                rintro e w1 ⟨rfl, rfl⟩
                go_wp2
                go_roundw
                case rel => exact ⟨f + 1, by omega, by go_num, HN, trivial⟩
                case measure => simp [intOf]; omega
          · obtain rfl : k = m := by omega
            have HAL := Lib.hid (Filled.all (by rw [Nat.mul_one]; exact HF.out) (by rw [List.length_map, gorL_len, Nat.mul_one]))
            have HV : Hid (OwnInts wr w.heap.size 3 (.slice (some ⟨w.heap.size, 0, none⟩) k k) (gorL (n - 1) k a k)) := Lib.hid (by
              unfold OwnInts; rw [gorL_len]; exact HAL.out.1)
            go_wp2
            go_ret2
            exact ⟨_, rfl, HV.out, HAL.out.2⟩
      · rw [decide_eq_false (show ¬ (0 ≤ a2 ∧ a2 < gwR a0 a1) from fun h => hlt h.2)] at h2
        rw [gorR_no h2, h2]
        obtain ⟨g, hg⟩ : ∃ g, g = gwR a0 a1 := ⟨_, rfl⟩
        rw [← hg] at HC hlt
        clear hk h2 hg
        go_enter Try.func45, Try.ntmps45
        go_wp2_with fail
        refine HC.out.mono ?_
        rintro e w1 ⟨rfl, rfl⟩
        go_wp2
        go_ret2
        exact ⟨_, rfl, OwnInts.nil _ _ _, Below.refl _ _⟩
    · rw [decide_eq_false (show ¬ (0 ≤ a2 ∧ a2 < gwR a0 a1) from fun h => h0 h.1)] at h2
      rw [gorR_no h2, h2]
      clear hk h2
      go_enter Try.func45, Try.ntmps45
      go_wp2_with fail
      refine HC.out.mono ?_
      rintro e w1 ⟨rfl, rfl⟩
      go_wp2
      go_ret2
      exact ⟨_, rfl, OwnInts.nil _ _ _, Below.refl _ _⟩

set_option maxRecDepth 20000 in
set_option maxHeartbeats 4000000 in
theorem specGatesOfRank_any (a0 a1 a2 : Int) (w : World) (_ : (Lit.int .i64 a0).wf = true) (_ : (Lit.int .i64 a1).wf = true) (_ : (Lit.int .i64 a2).wf = true) :
    Calls Try.prog 44 #[.int .i64 a0, .int .i64 a1, .int .i64 a2] w fun e w' => ∃ v, e = .returned (.tuple #[v, .bool (okGr a0 a1 a2)]) ∧ OwnInts w' w.heap.size 3 v (gorR a0 a1 a2) ∧ Below w.heap.size w w' := by
  obtain ⟨i0, hi, hz0, hz1, hz2⟩ := info_parts info_int
  have HM := Lib.hid (gaMany_any a0 a1 w)
  cases hk : okMany a0 a1
  · have h2 := okGr_no (r := a2) hk
    rw [gorR_no h2, h2]
    rw [hk] at HM
    clear hk h2
    go_enter Try.func44, Try.ntmps44
    go_wp2_with fail
    refine HM.out.mono ?_
    rintro e w1 ⟨rfl, rfl⟩
    go_wp2
    go_ret2
    exact ⟨_, rfl, OwnInts.nil _ _ _, Below.refl _ _⟩
  · rw [hk] at HM
    have h2 := okGr_of (r := a2) hk
    obtain ⟨hn, hm⟩ := okMany_at hk
    obtain ⟨n, rfl⟩ : ∃ n : Nat, a0 = n := ⟨a0.toNat, by omega⟩
    obtain ⟨m, rfl⟩ : ∃ m : Nat, a1 = m := ⟨a1.toNat, by omega⟩
    have HWW : Hid (∀ (o k : Nat) (W : World), o < n → k ≤ 10 → Calls Try.prog 73 #[.int .i64 ((n : Int) - (o : Int)), .int .i64 (k : Int), .int .i64 (n : Int)] W fun e w' => e = .returned (.int .i64 ((bin (n - 1 - o) k : Nat) : Int)) ∧ Below W.heap.size W w') := Lib.hid fun o k W ho hk => by
      have := gaWays_any (n - o) k n W (by omega) hk (by omega)
      obtain ⟨p, hp⟩ : ∃ p, n - o = p + 1 := ⟨n - o - 1, by omega⟩
      rw [hp, waysF_bin k p (by omega), ← hp, show ((n - o : Nat) : Int) = (n : Int) - (o : Int) by omega, show p = n - 1 - o by omega] at this
      exact this
    have HW0 := Lib.hid fun W => HWW.out 0 m W (by omega) (by omega)
    rw [show (n : Int) - ((0 : Nat) : Int) = (n : Int) by omega, Nat.sub_zero, ← gwR_yes hk] at HW0
    have hbd : gwR n m ≤ 10485760000000000 := by rw [gwR_yes hk]; have := bin_bd10 (p := n - 1) (k := m) (by omega) (by omega); omega
    have hb0 : 0 ≤ gwR n m := by rw [gwR_yes hk]; omega
    have HGW := Lib.hid (gwR_yes hk)
    have HI : Hid (∀ W, Calls Try.prog 58 #[.int .i64 a2, .int .i64 0, .int .i64 (gwR n m - 1)] W fun e w' => e = .returned (.bool (okGr n m a2)) ∧ W = w') := Lib.hid fun W => by
      have := l1In_any a2 0 (gwR n m - 1) W
      rw [show decide (0 ≤ a2 ∧ a2 ≤ gwR n m - 1) = okGr n m a2 by rw [h2, decide_eq_decide]; omega] at this
      exact this
    cases h3 : okGr n m a2
    · rw [gorR_no h3]
      rw [h3] at HI
      obtain ⟨g, hg⟩ : ∃ g, g = gwR n m := ⟨_, rfl⟩
      rw [← hg] at HI HW0 hbd hb0
      clear hk h2 hg h3
      go_enter Try.func44, Try.ntmps44
      go_wp2_with fail
      refine HM.out.mono ?_
      rintro e w1 ⟨rfl, rfl⟩
      go_wp2_with fail
      refine (HW0.out _).mono ?_
      rintro e w1 ⟨rfl, hb⟩
      go_wp2_with fail
      refine (HI.out _).mono ?_
      rintro e w1 ⟨rfl, rfl⟩
      go_wp2
      go_ret2
      exact ⟨_, rfl, OwnInts.nil _ _ _, hb⟩
    · rw [gorR_yes h3]
      rw [h3] at HI
      obtain ⟨-, hr0, hr1⟩ := okGr_at h3
      obtain ⟨r0, rfl⟩ : ∃ r : Nat, a2 = r := ⟨a2.toNat, by omega⟩
      obtain ⟨a, ha⟩ : ∃ a, a = (gwR n m - 1 - r0).toNat := ⟨_, rfl⟩
      rw [← ha]
      have HA0 : Hid (r0 + a + 1 = bin (n - 1) m) := Lib.hid (by have := HGW.out; omega)
      have hr2 : r0 ≤ 10485760000000000 := by omega
      have HST : Hid (∀ k, stG (n - 1) m a (k + 1) = (nx (n - 1) (m - k) (stG (n - 1) m a k).2 (stG (n - 1) m a k).1, (stG (n - 1) m a k).2 - bin (n - 1 - nx (n - 1) (m - k) (stG (n - 1) m a k).2 (stG (n - 1) m a k).1) (m - k))) := Lib.hid fun k => stG_succ (n - 1) m a k
      have HGS : Hid (∀ j, gorL (n - 1) m a (j + 1) = gorL (n - 1) m a j ++ [((stG (n - 1) m a (j + 1)).1 : Int)]) := Lib.hid fun j => gorL_succ _ _ _ _
      have HGL : Hid (∀ j, (gorL (n - 1) m a j).length = j) := Lib.hid fun j => gorL_len _ _ _ _
      have HBS : Hid (∀ f j, f + 1 ≤ n - 1 + 1 → 1 ≤ j → f < n - 1 → bin (n - 1 - f) j = bin (n - 1 - (f + 1)) (j - 1) + bin (n - 1 - (f + 1)) j) := Lib.hid fun f j _ hj hf => by
        rw [show n - 1 - f = (n - 1 - (f + 1)) + 1 by omega]
        obtain ⟨i, rfl⟩ : ∃ i, j = i + 1 := ⟨j - 1, by omega⟩
        rw [bin_succ, Nat.add_sub_cancel]
      have HZS : Hid (stG (n - 1) m a 0 = (0, a)) := Lib.hid (by rw [stG])
      obtain ⟨g, hg⟩ : ∃ g, g = gwR n m := ⟨_, rfl⟩
      rw [← hg] at HI HW0 hbd hb0
      clear hk h2 hg h3 hr0 hr1 ha HGW
      go_enter Try.func44, Try.ntmps44
      go_wp2_with fail
      refine HM.out.mono ?_
      rintro e w1 ⟨rfl, rfl⟩
      go_wp2_with fail
      refine (HW0.out _).mono ?_
      rintro e w1 ⟨rfl, hb⟩
      have HB := Lib.hid hb
      clear hb
      go_wp2_with fail
      refine (HI.out _).mono ?_
      rintro e w2 ⟨rfl, rfl⟩
      go_wp2
      go_loopw [2, 8, 9, 10, 11] (fun rv v u i _ wr => ∃ t q : Nat, t ≤ m ∧ i = .int .i64 ((m : Int) - 1 - (t : Int)) ∧ rv = .int .i64 (q : Int) ∧ u = .int .i64 ((stG (n - 1) m a t).1 : Nat) ∧ (stG (n - 1) m a t).1 + 1 ≤ n ∧ q ≤ 10485760000000000 ∧ Hid (q + (stG (n - 1) m a t).2 + 1 = bin (n - 1 - (stG (n - 1) m a t).1) (m - t)) ∧ OwnInts wr w.heap.size 3 v (gorL (n - 1) m a t) ∧ Below w.heap.size w wr) (fun _ _ _ i _ _ => (intOf i + 1).toNat)
      case atStart => exact ⟨0, r0, Nat.zero_le _, congrArg (Value.int .i64) (by omega), rfl, by rw [HZS.out]; rfl, by rw [HZS.out]; show 0 + 1 ≤ n; omega, hr2, Lib.hid (by rw [HZS.out]; exact HA0.out), OwnInts.nil _ _ _, HB.out⟩
      case round =>
        clear HB HA0 hr2
        obtain ⟨t, q, htm, rfl, rfl, rfl, hl1, hq, HQ, hown, hb⟩ := hrel
        have HO := Lib.hid hown
        have HB := Lib.hid hb
        clear hown hb
        by_cases hlt : t < m
        · have HS := Lib.hid (HST.out t)
          have HGST := Lib.hid (HGS.out t)
          have hgl := HGL.out t
          obtain ⟨l, hll⟩ : ∃ l, l = (stG (n - 1) m a t).1 := ⟨_, rfl⟩
          obtain ⟨r, hrr⟩ : ∃ r, r = (stG (n - 1) m a t).2 := ⟨_, rfl⟩
          rw [← hll] at hl1
          rw [← hll, ← hrr] at HS HQ
          rw [← hll]
          obtain ⟨j, hj⟩ : ∃ j, j = m - t := ⟨_, rfl⟩
          rw [← hj] at HS HQ
          have hj1 : 1 ≤ j := by omega
          have hj10 : j ≤ 10 := by omega
          have hgo : ¬ bin (n - 1 - l) j ≤ r := by have := HQ.out; omega
          have hlN := go_lt hj1 hgo
          have HN0 := Lib.hid (nx_go hlN hgo)
          have HQ1 : Hid (q + r + 1 = bin (n - 1 - (l + 1)) (j - 1) + bin (n - 1 - (l + 1)) j) := Lib.hid (by rw [← HBS.out l j (by omega) hj1 hlN]; exact HQ.out)
          obtain ⟨k, hk⟩ : ∃ k : Nat, k = j - 1 := ⟨_, rfl⟩
          rw [← hk] at HQ1
          have ek : (m : Int) - 1 - (t : Int) = (k : Int) := by omega
          rw [ek]
          have HEK := Lib.hid ek
          have hk10 : k ≤ 10 := by omega
          have HKJ : Hid (j - 1 = k ∧ j = k + 1 ∧ m - (t + 1) = k) := Lib.hid (by omega)
          have hbs := HB.out.size
          have HC := Lib.hid fun W => HWW.out (l + 1) k W (by omega) hk10
          rw [show (n : Int) - ((l + 1 : Nat) : Int) = (n : Int) - ((l : Int) + 1) by omega] at HC
          obtain ⟨bw, hbw⟩ : ∃ b, b = bin (n - 1 - (l + 1)) k := ⟨_, rfl⟩
          have HBW := Lib.hid hbw
          rw [← hbw] at HC
          have hl2 : l + 1 + 1 ≤ n := by omega
          clear hll hrr hj HQ hgo hk ek hbw
          go_wp2_with fail
          refine (HC.out _).mono ?_
          rintro e w2 ⟨rfl, hb2⟩
          have HB2 := Lib.hid (below_next HB.out hb2)
          have HO2 := Lib.hid (HO.out.below hb2)
          clear hb2 HB HO
          go_wp2
          go_loopw [2, 9, 11] (fun rv u x wi => ∃ f z b : Nat, f + 1 ≤ n ∧ u = .int .i64 (f : Int) ∧ rv = .int .i64 (z : Int) ∧ x = .int .i64 (b : Int) ∧ z ≤ 10485760000000000 ∧ b ≤ 10485760000000000 ∧ Hid (b = bin (n - 1 - f) k ∧ z + r + 1 = b + bin (n - 1 - f) j ∧ nx (n - 1) j r l = nx (n - 1) j r f) ∧ OwnInts wi w.heap.size 3 u8 (gorL (n - 1) m a t) ∧ Below w.heap.size w wi) (fun _ u _ _ => n - (intOf u).toNat)
          case atStart => exact ⟨l + 1, q, bw, by omega, by go_num, rfl, rfl, hq, by rw [HBW.out]; exact bin_bd10 (by omega) hk10, Lib.hid ⟨HBW.out, by rw [HQ1.out, HBW.out], HN0.out⟩, HO2.out, HB2.out⟩
          case round =>
            clear HO2 HB2 HQ1 HN0
            obtain ⟨f, z, b, hf, rfl, rfl, rfl, hz, hb40, HZ, hown, hb⟩ := hrel
            have HO := Lib.hid hown
            have HB := Lib.hid hb
            have hbs2 := hb.size
            clear hown hb
            by_cases hc : b ≤ z
            · have hgo : ¬ bin (n - 1 - f) j ≤ r := by have := HZ.out.2.1; omega
              have hfN := go_lt hj1 hgo
              have HN1 := Lib.hid (HZ.out.2.2.trans (nx_go hfN hgo))
              have HC2 := Lib.hid fun W => HWW.out (f + 1) k W (by omega) hk10
              rw [show (n : Int) - ((f + 1 : Nat) : Int) = (n : Int) - ((f : Int) + 1) by omega] at HC2
              have HQ2 : Hid (z - b + r + 1 = bin (n - 1 - (f + 1)) k + bin (n - 1 - (f + 1)) j) := Lib.hid (by
                have h1 := HBS.out f j (by omega) hj1 hfN
                rw [HKJ.out.1] at h1
                have := HZ.out.2.1
                omega)
              obtain ⟨c, hcc⟩ : ∃ c, c = bin (n - 1 - (f + 1)) k := ⟨_, rfl⟩
              have HCC := Lib.hid hcc
              have hc40 : c ≤ 10485760000000000 := by rw [hcc]; exact bin_bd10 (by omega) hk10
              rw [← hcc] at HC2 HQ2
              have hf2 : f + 1 + 1 ≤ n := by omega
              clear hcc hgo
              go_wp2_with fail
              refine (HC2.out _).mono ?_
              rintro e w3 ⟨rfl, hb3⟩
              have HB3 := Lib.hid (below_next HB.out hb3)
              have HO3 := Lib.hid (HO.out.below hb3)
              clear hb3
              go_wp2
              go_roundw
              case rel => exact ⟨f + 1, z - b, c, hf2, by go_num, by go_num, rfl, by omega, hc40, Lib.hid ⟨HCC.out, HQ2.out, HN1.out⟩, HO3.out, HB3.out⟩
              case measure => simp [intOf]; omega
            · have hst : bin (n - 1 - f) j ≤ r := by have := HZ.out.2.1; omega
              have HN1 := Lib.hid (HZ.out.2.2.trans (nx_stop hst))
              have HS2 : Hid ((stG (n - 1) m a (t + 1)).1 = f ∧ (stG (n - 1) m a (t + 1)).2 = r - bin (n - 1 - f) j) := Lib.hid (by
                rw [HS.out, HN1.out]; exact ⟨rfl, rfl⟩)
              have HQ3 : Hid (z + (r - bin (n - 1 - f) j) + 1 = bin (n - 1 - f) (m - (t + 1))) := Lib.hid (by
                rw [HKJ.out.2.2]
                have := HZ.out.1
                have := HZ.out.2.1
                omega)
              obtain ⟨T, hT⟩ : ∃ T, T = gorL (n - 1) m a t := ⟨_, rfl⟩
              rw [← hT] at HGST HO hgl
              rw [HS2.out.1] at HGST
              clear hT hst
              go_wp2_with (at_builtin; refine wpList_append_own _ rfl (.tmp 54) (.tmp 56) _ rfl w.heap.size 3 i0 _ 1 8 Try.underlying22 hi hz0 hz1 hz2 rfl (by decide) _ (T).length ((T).map (Value.int .i64)) rfl (World.ownsRow.alloc HO.out _) ⟨_, 0, none⟩ 1 1 [.int .i64 ((f : Int))] rfl rfl (World.news_of_block (cs := #[.int .i64 ((f : Int))]) (t := 3) (fr := (0, 0)) (by first | exact heap_alloc_new _ _ | exact heap_new_set _ _ _ _ _)) (by simp [Value.oneCell']) (by unfold maxLen; omega) (by omega) (by simp; omega) ?_; intro v' w3 hown' hgrow _)
              have HRR : Hid (OwnInts w3 w.heap.size 3 v' (gorL (n - 1) m a (t + 1))) := Lib.hid (by rw [HGST.out]; exact OwnInts.snoc hown')
              have HB3 : Hid (Below w.heap.size w w3) := Lib.hid ((HB.out.alloc hbs2 _).grown hgrow (by simp; omega) fun k hk => (World.ownsRow.lt HO.out k hk).1)
              have HEK2 : Hid ((k : Int) - 1 = (m : Int) - 1 - ((t + 1 : Nat) : Int)) := Lib.hid (by have := HEK.out; omega)
              clear hown' hgrow
              go_wp2
              go_roundw
              case rel => exact ⟨t + 1, z, by omega, by rw [← HEK2.out], rfl, by rw [HS2.out.1], by rw [HS2.out.1]; exact hf, hz, Lib.hid (by rw [HS2.out.1, HS2.out.2]; exact HQ3.out), HRR.out, HB3.out⟩
              case measure => have := HEK2.out; simp [intOf]
        · obtain rfl : t = m := by omega
          go_wp2
          go_ret2
          exact ⟨_, rfl, HO.out, HB.out⟩
end Go.Proofs.Ytbocdhibimcobaa
