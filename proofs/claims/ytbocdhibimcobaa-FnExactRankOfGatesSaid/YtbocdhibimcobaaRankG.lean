/- RankOfGates of both sides. No condition but the list's length. -/
import Derived.Test.YtbocdhibimcobaaBehind
namespace Go.Proofs.Ytbocdhibimcobaa
open Go.RowKit

/-- the gates as numbers -/
def natG (L : List Int) : List Nat := L.map Int.toNat
theorem natG_len (L : List Int) : (natG L).length = L.length := by simp [natG]
theorem natG_at {L : List Int} {k : Nat} (h : k < L.length) : (natG L)[k]'(by rw [natG_len]; exact h) = L[k].toNat := by simp [natG]
theorem natG_drop (L : List Int) (k : Nat) : (natG L).drop k = natG (L.drop k) := by unfold natG; rw [List.map_drop]
theorem natG_cons {L : List Int} {k : Nat} (h : k < L.length) : natG (L.drop k) = L[k].toNat :: natG (L.drop (k + 1)) := by
  unfold natG; rw [List.drop_eq_getElem_cons h]; rfl
def lstN (L : List Int) : Nat → Nat
  | 0 => 0
  | k + 1 => (L.getD k 0).toNat
theorem lstN_succ {L : List Int} {k : Nat} (h : k < L.length) : lstN L (k + 1) = L[k].toNat := by
  show (L.getD k 0).toNat = _
  rw [List.getD_eq_getElem?_getD, List.getElem?_eq_getElem h]; rfl
theorem incF_pair {n : Int} : ∀ {L : List Int} {lo : Int}, 0 ≤ lo → incF n (lo + 1) L = true → (lo.toNat :: natG L).Pairwise (· < ·)
  | [], lo, _, _ => by simp [natG]
  | x :: L, lo, h0, h => by
    have h' : (decide (lo + 1 ≤ x ∧ x < n) && incF n (x + 1) L) = true := h
    rw [Bool.and_eq_true, decide_eq_true_iff] at h'
    have ih := incF_pair (lo := x) (by omega) h'.2
    have hm := incF_mem h
    show (lo.toNat :: (x.toNat :: natG L)).Pairwise (· < ·)
    rw [List.pairwise_cons]
    refine ⟨fun y hy => ?_, ih⟩
    have hy' : y ∈ natG (x :: L) := hy
    unfold natG at hy'
    obtain ⟨z, hz, rfl⟩ := List.mem_map.1 hy'
    have := hm z hz
    omega
def rkI (n : Int) (L : List Int) : Int := if okGa n L = true then ((rkG (n.toNat - 1) 0 (natG L) : Nat) : Int) else 0
theorem rkI_no {n : Int} {L : List Int} (h : okGa n L = false) : rkI n L = 0 := by unfold rkI; rw [h]; rfl
theorem rkI_yes {n : Nat} {L : List Int} (h : okGa n L = true) : rkI n L = ((rkG (n - 1) 0 (natG L) : Nat) : Int) := by unfold rkI; rw [h, Int.toNat_natCast]; rfl
theorem rk_all {n : Nat} {L : List Int} (h : okGa n L = true) : rkG (n - 1) 0 (natG L) + 1 + offG (n - 1) (natG L) = bin (n - 1) L.length := by
  obtain ⟨hn, hl, hi⟩ := okGa_at h
  have hp := incF_pair (lo := 0) (by decide) (by simpa using hi)
  have := rkG_eq (N := n - 1) (R := natG L) (last := 0) (by omega) hp fun g hg => by
    unfold natG at hg
    obtain ⟨z, hz, rfl⟩ := List.mem_map.1 hg
    have := incF_mem hi z hz
    omega
  rw [natG_len, Nat.sub_zero] at this
  exact this

set_option maxHeartbeats 1000000 in
theorem specRankOfGates_no (n : Int) (A : Option Addr) (c : Nat) (L : List Int) (w : World) (hm : L.length ≤ 1048576) (h : IntSl w A L) (hok : (okGa n L) = false) :
    Calls Try.prog 42 #[.int .i64 n, .slice A L.length c] w fun e w' => e = .returned (.tuple #[.int .i64 0, .bool false]) ∧ Below w.heap.size w w' := by
  have H0 := Lib.hid (gaAre_any n A c L w hm h)
  cases h0 : okGa n L
  · clear hok
    rw [h0] at H0
    clear h0
    go_enter Try.func42, Try.ntmps42
    go_wp2_with fail
    refine H0.out.mono ?_
    rintro e w1 ⟨rfl, rfl⟩
    go_wp2
    go_ret2
    exact ⟨rfl, Below.refl _ _⟩
  · rw [h0] at hok; simp at hok
set_option maxHeartbeats 1000000 in
theorem implRankOfGates_no (n : Int) (A : Option Addr) (c : Nat) (L : List Int) (w : World) (hm : L.length ≤ 1048576) (h : IntSl w A L) (hok : (okGa n L) = false) :
    Calls Try.prog 43 #[.int .i64 n, .slice A L.length c] w fun e w' => e = .returned (.tuple #[.int .i64 0, .bool false]) ∧ Below w.heap.size w w' := by
  have H0 := Lib.hid (areGates_any n A c L w hm h)
  cases h0 : okGa n L
  · clear hok
    rw [h0] at H0
    clear h0
    go_enter Try.func43, Try.ntmps43
    go_wp2_with fail
    refine H0.out.mono ?_
    rintro e w1 ⟨rfl, rfl⟩
    go_wp2
    go_ret2
    exact ⟨rfl, Below.refl _ _⟩
  · rw [h0] at hok; simp at hok
set_option maxRecDepth 20000 in
set_option maxHeartbeats 4000000 in
theorem implRankOfGates_any (a0 : Int) (A1 : Option Addr) (c1 : Nat) (L1 : List Int) (w : World) (_ : (Lit.int .i64 a0).wf = true) (l1 : L1.length ≤ 1048576) (_ : WfL L1) (_ : L1.length ≤ c1) (h1 : IntSl w A1 L1) :
    Calls Try.prog 43 #[.int .i64 a0, .slice A1 L1.length c1] w fun e w' => e = .returned (.tuple #[.int .i64 (rkI a0 L1), .bool (okGa a0 L1)]) ∧ Below w.heap.size w w' := by
  cases hk : okGa a0 L1
  · rw [rkI_no hk]
    exact implRankOfGates_no a0 A1 c1 L1 w l1 h1 hk
  · obtain ⟨hn, hl, hinc⟩ := okGa_at hk
    obtain ⟨n, rfl⟩ : ∃ n : Nat, a0 = n := ⟨a0.toNat, by omega⟩
    rw [rkI_yes hk]
    have HG := Lib.hid (areGates_any n A1 c1 L1 w l1 h1)
    rw [hk] at HG
    have HW0 := Lib.hid (waysBehind_any n 0 L1.length w (by omega) (by omega) (by omega) hl)
    rw [Nat.sub_zero, ← rk_all hk] at HW0
    have hbd : rkG (n - 1) 0 (natG L1) + 1 + offG (n - 1) (natG L1) ≤ 10485760000000000 := by rw [rk_all hk]; exact bin_bd10 (by omega) hl
    have HOF : Hid (∀ k (h : k < L1.length), offG (n - 1) (natG (L1.drop k)) = bin (n - 1 - L1[k].toNat) (L1.length - k) + offG (n - 1) (natG (L1.drop (k + 1)))) := Lib.hid fun k h => by
      rw [natG_cons h]
      show bin (n - 1 - L1[k].toNat) ((natG (L1.drop (k + 1))).length + 1) + _ = _
      rw [natG_len, List.length_drop, show L1.length - (k + 1) + 1 = L1.length - k by omega]
    have HWB : Hid (∀ k (h : k < L1.length) (W : World), Calls Try.prog 74 #[.int .i64 n, .int .i64 L1[k], .int .i64 ((L1.length : Int) - (k : Int))] W fun e w' => e = .returned (.int .i64 ((bin (n - 1 - L1[k].toNat) (L1.length - k) : Nat) : Int)) ∧ W = w') := Lib.hid fun k h W => by
      have hm := incF_mem hinc L1[k] (List.getElem_mem _)
      have := waysBehind_any n L1[k].toNat (L1.length - k) W (by omega) (by omega) (by omega) (by omega)
      rw [show ((L1[k].toNat : Nat) : Int) = L1[k] by omega, show ((L1.length - k : Nat) : Int) = (L1.length : Int) - (k : Int) by omega] at this
      exact this
    obtain ⟨R, hR⟩ : ∃ R, R = rkG (n - 1) 0 (natG L1) := ⟨_, rfl⟩
    rw [← hR] at HW0 hbd ⊢
    have HZ : Hid (offG (n - 1) (natG L1) = offG (n - 1) (natG (L1.drop 0))) := Lib.hid (by rw [List.drop_zero])
    have HEN : Hid (offG (n - 1) (natG (L1.drop L1.length)) = 0) := Lib.hid (by rw [List.drop_length]; rfl)
    rw [HZ.out] at HW0 hbd
    have HSL := Lib.hid h1
    clear hk hinc hR h1
    obtain ⟨f0, hf0⟩ : ∃ f, f = offG (n - 1) (natG (L1.drop 0)) := ⟨_, rfl⟩
    rw [← hf0] at HW0 hbd
    have HF0 := Lib.hid hf0
    have e1 : ((R + 1 + f0 : Nat) : Int) - 1 = ((R + f0 : Nat) : Int) := by omega
    obtain ⟨v0, hv0⟩ : ∃ v, v = R + 1 + f0 := ⟨_, rfl⟩
    rw [← hv0] at HW0 hbd e1
    have HV0 : Hid ((v0 : Int) - 1 = ((R + f0 : Nat) : Int)) := Lib.hid e1
    have hv00 : 1 ≤ v0 := by omega
    have HBR : Hid (R + f0 ≤ 10485760000000000) := Lib.hid (by omega)
    clear e1 hv0 hf0
    go_enter Try.func43, Try.ntmps43
    go_wp2_with fail
    refine HG.out.mono ?_
    rintro e w1 ⟨rfl, rfl⟩
    go_wp2_with fail
    refine HW0.out.mono ?_
    rintro e w1 ⟨rfl, rfl⟩
    go_wp2
    go_loop [7, 22] (fun v i => ∃ k : Nat, k ≤ L1.length ∧ i = .int .i64 (k : Int) ∧ R + offG (n - 1) (natG (L1.drop k)) ≤ 10485760000000000 ∧ v = .int .i64 ((R + offG (n - 1) (natG (L1.drop k)) : Nat) : Int)) (fun _ i => L1.length - (intOf i).toNat)
    case atStart => exact ⟨0, Nat.zero_le _, rfl, by rw [← HF0.out]; exact HBR.out, by rw [← HF0.out, HV0.out]⟩
    case round =>
      obtain ⟨k, hk, rfl, hb, rfl⟩ := hrel
      by_cases hlt : k < L1.length
      · have ho := HOF.out k hlt
        have HC := Lib.hid (HWB.out k hlt w)
        obtain ⟨g, off, rfl, hg, hat⟩ := HSL.out.some (by omega)
        have c1 := hat k hlt
        rw [ho] at hb ⊢
        obtain ⟨x, hx⟩ : ∃ x, x = L1[k] := ⟨_, rfl⟩
        rw [← hx] at c1 HC hb ⊢
        obtain ⟨b, hbb⟩ : ∃ b, b = bin (n - 1 - x.toNat) (L1.length - k) := ⟨_, rfl⟩
        rw [← hbb] at HC hb ⊢
        obtain ⟨f, hf⟩ : ∃ f, f = offG (n - 1) (natG (L1.drop (k + 1))) := ⟨_, rfl⟩
        rw [← hf] at hb ⊢
        have HFF := Lib.hid hf
        clear ho hat hx hbb hf
        go_wp2_with fail
        refine HC.out.mono ?_
        rintro e w1 ⟨rfl, rfl⟩
        go_wp2
        go_round
        case rel => exact ⟨k + 1, by omega, by go_num, by rw [← HFF.out]; omega, by rw [← HFF.out]; go_num⟩
        case measure => simp [intOf]; omega
      · obtain rfl : k = L1.length := by omega
        rw [HEN.out, Nat.add_zero] at hb ⊢
        go_wp2
        go_ret2
        exact ⟨rfl, Below.refl _ _⟩

set_option maxRecDepth 20000 in
set_option maxHeartbeats 4000000 in
theorem specRankOfGates_any (a0 : Int) (A1 : Option Addr) (c1 : Nat) (L1 : List Int) (w : World) (_ : (Lit.int .i64 a0).wf = true) (l1 : L1.length ≤ 1048576) (_ : WfL L1) (_ : L1.length ≤ c1) (h1 : IntSl w A1 L1) :
    Calls Try.prog 42 #[.int .i64 a0, .slice A1 L1.length c1] w fun e w' => e = .returned (.tuple #[.int .i64 (rkI a0 L1), .bool (okGa a0 L1)]) ∧ Below w.heap.size w w' := by
  cases hk : okGa a0 L1
  · rw [rkI_no hk]
    exact specRankOfGates_no a0 A1 c1 L1 w l1 h1 hk
  · obtain ⟨hn, hl, hinc⟩ := okGa_at hk
    obtain ⟨n, rfl⟩ : ∃ n : Nat, a0 = n := ⟨a0.toNat, by omega⟩
    rw [rkI_yes hk]
    have HG := Lib.hid (gaAre_any n A1 c1 L1 w l1 h1)
    rw [hk] at HG
    have hbd : rkG (n - 1) 0 (natG L1) ≤ 10485760000000000 := by
      have := rk_all hk
      have := bin_bd10 (p := n - 1) (k := L1.length) (by omega) hl
      omega
    have HRK : Hid (∀ k (h : k < L1.length), rkG (n - 1) (lstN L1 k) (natG (L1.drop k)) = gapS (n - 1) (L1.length - k - 1) (lstN L1 k + 1) L1[k].toNat + rkG (n - 1) (lstN L1 (k + 1)) (natG (L1.drop (k + 1)))) := Lib.hid fun k h => by
      rw [natG_cons h, lstN_succ h]
      show gapS (n - 1) (natG (L1.drop (k + 1))).length (lstN L1 k + 1) L1[k].toNat + _ = _
      rw [natG_len, List.length_drop, show L1.length - (k + 1) = L1.length - k - 1 by omega]
    have HGA : Hid (∀ k o g, o < g → gapS (n - 1) k o g = bin (n - 1 - o) k + gapS (n - 1) k (o + 1) g) := Lib.hid fun k o g h => by
      unfold gapS; rw [sumR_cons _ h]
    have HGE : Hid (∀ k g, gapS (n - 1) k g g = 0) := Lib.hid fun k g => by unfold gapS; rw [sumR_none _ (Nat.le_refl _)]
    have HLT : Hid (∀ k (h : k < L1.length), (lstN L1 k : Int) < L1[k] ∧ L1[k] < n) := Lib.hid fun k h => by
      have hm := incF_mem hinc L1[k] (List.getElem_mem _)
      cases k with
      | zero => exact ⟨by show ((0 : Nat) : Int) < _; omega, hm.2⟩
      | succ k =>
        have h2 := incF_lt hinc h
        have hm2 := incF_mem hinc L1[k] (List.getElem_mem _)
        rw [lstN_succ (by omega)]
        exact ⟨by omega, hm.2⟩
    have HLS := Lib.hid fun k (h : k < L1.length) => lstN_succ h
    have HWW : Hid (∀ (o k : Nat) (W : World), o < n → k ≤ 10 → Calls Try.prog 73 #[.int .i64 ((n : Int) - (o : Int)), .int .i64 (k : Int), .int .i64 (n : Int)] W fun e w' => e = .returned (.int .i64 ((bin (n - 1 - o) k : Nat) : Int)) ∧ Below W.heap.size W w') := Lib.hid fun o k W ho hk => by
      have := gaWays_any (n - o) k n W (by omega) hk (by omega)
      obtain ⟨p, hp⟩ : ∃ p, n - o = p + 1 := ⟨n - o - 1, by omega⟩
      rw [hp, waysF_bin k p (by omega), ← hp, show ((n - o : Nat) : Int) = (n : Int) - (o : Int) by omega, show p = n - 1 - o by omega] at this
      exact this
    have HZ : Hid (rkG (n - 1) (lstN L1 0) (natG (L1.drop 0)) = rkG (n - 1) 0 (natG L1)) := Lib.hid (by rw [List.drop_zero]; rfl)
    have HEN : Hid (rkG (n - 1) (lstN L1 L1.length) (natG (L1.drop L1.length)) = 0) := Lib.hid (by rw [List.drop_length]; rfl)
    obtain ⟨R, hR⟩ : ∃ R, R = rkG (n - 1) 0 (natG L1) := ⟨_, rfl⟩
    rw [← hR] at HZ hbd ⊢
    have HSL := Lib.hid h1
    clear hk hinc hR h1
    go_enter Try.func42, Try.ntmps42
    go_wp2_with fail
    refine HG.out.mono ?_
    rintro e w1 ⟨rfl, rfl⟩
    go_wp2
    go_loopw [6, 7, 10, 17] (fun v d _ i wr => ∃ k q : Nat, k ≤ L1.length ∧ i = .int .i64 (k : Int) ∧ v = .int .i64 (q : Int) ∧ d = .int .i64 ((lstN L1 k : Nat) : Int) ∧ Hid (q + rkG (n - 1) (lstN L1 k) (natG (L1.drop k)) = R) ∧ Below w.heap.size w wr) (fun _ _ _ i _ => L1.length - (intOf i).toNat)
    case atStart => exact ⟨0, 0, Nat.zero_le _, rfl, rfl, rfl, Lib.hid (by rw [HZ.out]; omega), Below.refl _ _⟩
    case round =>
      obtain ⟨k, q, hk, rfl, rfl, rfl, HQ, hb⟩ := hrel
      have HB := Lib.hid hb
      clear hb
      by_cases hlt : k < L1.length
      · have hll := HLT.out k hlt
        have HQ1 : Hid (q + (gapS (n - 1) (L1.length - k - 1) (lstN L1 k + 1) L1[k].toNat + rkG (n - 1) (lstN L1 (k + 1)) (natG (L1.drop (k + 1)))) = R) := Lib.hid (by rw [← HRK.out k hlt]; exact HQ.out)
        have HLS1 := Lib.hid (HLS.out k hlt)
        obtain ⟨g, off, rfl, hg, hat⟩ := (HSL.out.below HB.out).some (by omega)
        have c1 := hat k hlt
        obtain ⟨x, hx⟩ : ∃ x : Nat, L1[k] = (x : Int) := ⟨L1[k].toNat, by omega⟩
        rw [hx] at c1 HQ1 hll HLS1
        rw [Int.toNat_natCast] at HQ1 HLS1
        obtain ⟨d, hd⟩ : ∃ d, d = lstN L1 k := ⟨_, rfl⟩
        rw [← hd] at HQ1 hll ⊢
        obtain ⟨j, hj⟩ : ∃ j, j = L1.length - k - 1 := ⟨_, rfl⟩
        rw [← hj] at HQ1
        have hj10 : j ≤ 10 := by omega
        have ej : (L1.length : Int) - (k : Int) - 1 = (j : Int) := by omega
        have HEJ := Lib.hid ej
        have hdx : d < x := by omega
        have hxn : x < n := by omega
        clear hat hx hd hj hll HQ ej
        go_wp2
        go_loopw [6, 10] (fun v o wr => ∃ p z : Nat, d + 1 ≤ p ∧ p ≤ x ∧ o = .int .i64 (p : Int) ∧ v = .int .i64 (z : Int) ∧ Hid (z + (gapS (n - 1) j p x + rkG (n - 1) (lstN L1 (k + 1)) (natG (L1.drop (k + 1)))) = R) ∧ Below w.heap.size w wr) (fun _ o _ => x - (intOf o).toNat)
        case atStart => exact ⟨d + 1, q, Nat.le_refl _, hdx, by go_num, rfl, HQ1, HB.out⟩
        case round =>
          clear HQ1 HB
          obtain ⟨p, z, hp1, hp2, rfl, rfl, HQ, hb⟩ := hrel
          have HB := Lib.hid hb
          clear hb
          by_cases hpx : p < x
          · have HC := Lib.hid (HWW.out p j wr (by omega) hj10)
            have HQ2 : Hid (z + bin (n - 1 - p) j + (gapS (n - 1) j (p + 1) x + rkG (n - 1) (lstN L1 (k + 1)) (natG (L1.drop (k + 1)))) = R) := Lib.hid (by
              have := HQ.out
              rw [HGA.out j p x hpx] at this
              omega)
            have hzb : z + bin (n - 1 - p) j ≤ 10485760000000000 := by have := HQ2.out; omega
            obtain ⟨b, hbb⟩ : ∃ b, b = bin (n - 1 - p) j := ⟨_, rfl⟩
            rw [← hbb] at HC HQ2 hzb
            have ej := HEJ.out
            clear hbb HQ
            go_wp2_with fail
            refine HC.out.mono ?_
            rintro e w1 ⟨rfl, hb1⟩
            have HB1 := Lib.hid (below_next HB.out hb1)
            clear hb1 ej
            go_wp2
            go_roundw
            case rel => exact ⟨p + 1, z + b, by omega, by omega, by go_num, by go_num, HQ2, HB1.out⟩
            case measure => simp [intOf]; omega
          · obtain rfl : p = x := by omega
            have HQ2 : Hid (z + rkG (n - 1) (lstN L1 (k + 1)) (natG (L1.drop (k + 1))) = R) := Lib.hid (by
              have := HQ.out
              rw [HGE.out] at this
              omega)
            go_wp2
            go_roundw
            case rel => exact ⟨k + 1, z, by omega, by go_num, rfl, by rw [HLS1.out], HQ2, HB.out⟩
            case measure => simp [intOf]; omega
      · obtain rfl : k = L1.length := by omega
        have hq : q = R := by have := HQ.out; rw [HEN.out] at this; omega
        subst hq
        go_wp2
        go_ret2
        exact ⟨rfl, HB.out⟩
end Go.Proofs.Ytbocdhibimcobaa
