/- PartOfPainter of both sides. No condition but the lists' lengths. -/
import Derived.Test.YteiaidjknnbpjaaTogether
namespace Go.Proofs.Yteiaidjknnbpjaa
open Go.RowKit

def okPart (W R : List Int) (k : Int) : Bool := okWR W R && decide (0 ≤ k ∧ k < (R.length : Int))
def rateK (R : List Int) (k : Int) : Nat := (R.getD k.toNat 1).toNat
def parA (W R : List Int) (k : Int) : Int := if okPart W R k = true then (lowA (ratM R / rateK R k) (ratP R) : Int) else 0
def parB (W R : List Int) (k : Int) : Int := if okPart W R k = true then (lowB (ratM R / rateK R k) (ratP R) : Int) else 0
theorem okPart_at {W R : List Int} {k : Int} (h : okPart W R k = true) : okW W = true ∧ okR R = true ∧ 0 ≤ k ∧ k < (R.length : Int) := by
  unfold okPart at h
  rw [Bool.and_eq_true, decide_eq_true_iff] at h
  exact ⟨(okWR_at h.1).1, (okWR_at h.1).2, h.2.1, h.2.2⟩
theorem part_no {W R : List Int} {k : Int} (h : okPart W R k = false) : parA W R k = 0 ∧ parB W R k = 0 := by
  unfold parA parB
  rw [h]
  exact ⟨rfl, rfl⟩
theorem rateK_eq {T : List Nat} {k : Nat} (h : k < T.length) : rateK (T.map fun n : Nat => (n : Int)) (k : Int) = T[k] := by
  unfold rateK
  rw [Int.toNat_natCast, List.getD_eq_getElem?_getD, List.getElem?_map, List.getElem?_eq_getElem h]
  simp

set_option maxHeartbeats 2000000 in
theorem implPart_yes (A0 : Option Addr) (c0 : Nat) (L0 : List Int) (A1 : Option Addr) (c1 : Nat) (L1 : List Int) (k : Nat) (w : World) (h0 : IntSl w A0 L0) (h1 : IntSl w A1 L1) (hw : okW L0 = true) (hr : okR L1 = true) (hk : k < L1.length) :
    Calls Try.prog 39 #[.slice A0 L0.length c0, .slice A1 L1.length c1, .int .i64 k] w fun e w' => e = .returned (.tuple #[.int .i64 (lowA (ratM L1 / rateK L1 k) (ratP L1) : Nat), .int .i64 (lowB (ratM L1 / rateK L1 k) (ratP L1) : Nat), .bool true]) ∧ Below w.heap.size w w' := by
  have hwl := okW_len hw
  have hrl := okR_len hr
  have HW := Lib.hid fun W h => implWidths_any A0 c0 L0 W (by omega) h
  have HR := Lib.hid fun W h => implRates_any A1 c1 L1 W (by omega) h
  rw [hw] at HW
  rw [hr] at HR
  obtain ⟨T, e, hT, hT1, hM, hP, hl⟩ := okR_open hr
  rw [hM, hP]
  have hkT : k < T.length := by omega
  rw [show rateK L1 k = T[k] by rw [e]; exact rateK_eq hkT]
  rw [hl] at HR ⊢
  have hmb := mulK_bd hT (k := T.length) hT.1
  have hab := addK_bd hT (k := T.length) hT.1
  have hap := addK_pos hT (k := T.length) (by omega)
  have hq := Nat.div_le_self (mulK T T.length) T[k]
  have HPA := Lib.hid fun W (hW : IntSl W A1 L1) => pacesOf_any A1 c1 T W hT hT1 (by rw [← e]; exact hW)
  have HSP : Hid (∀ W B A, OwnInts W B 76 (.slice A T.length T.length) (paceL T) → Calls Try.prog 89 #[.slice A T.length T.length] W fun e w' => e = .returned (.int .i64 (addK T T.length : Nat)) ∧ w' = W) := Lib.hid fun W B A h => by
    have := sumPace_any A T.length (paceL T) 3200000 W (by rw [paceL_len]; have := hT.1; omega) (by decide) (by rw [paceL_len]; have := hT.1; omega) (paceL_mem hT) (IntSl.of_own h)
    rw [paceL_len, paceL_sum hT] at this
    exact this.mono fun _ _ h => ⟨h.1, h.2.symm⟩
  have HLT := Lib.hid fun W => lowestTerms_any (mulK T T.length / T[k]) (addK T T.length) W (by omega) (by omega) hap
  have HCE : Hid (∀ W B g, OwnInts W B 76 (.slice (some ⟨g, 0, none⟩) T.length T.length) (paceL T) → W.cell? ⟨g, k, none⟩ = some (.int .i64 ((mulK T T.length / T[k] : Nat) : Int))) := Lib.hid fun W B g h => by
    unfold OwnInts at h
    rw [paceL_len] at h
    rw [World.ownsRow.cellAt h k (by omega), paceL_at T k hkT, getD1 T k hkT]
  obtain ⟨M, hMM⟩ : ∃ M, M = mulK T T.length := ⟨_, rfl⟩
  obtain ⟨P, hPP⟩ : ∃ P, P = addK T T.length := ⟨_, rfl⟩
  rw [← hMM] at HPA HLT HCE hq hmb ⊢
  rw [← hPP] at HSP HLT hab ⊢
  obtain ⟨Q, hQQ⟩ : ∃ Q, Q = M / T[k] := ⟨_, rfl⟩
  rw [← hQQ] at HLT HCE hq ⊢
  obtain ⟨ra, hra⟩ : ∃ a, a = lowA Q P := ⟨_, rfl⟩
  obtain ⟨rb, hrb⟩ : ∃ a, a = lowB Q P := ⟨_, rfl⟩
  rw [← hra, ← hrb] at HLT ⊢
  have H0 := Lib.hid h0
  have H1 := Lib.hid h1
  have hk0 : (0 : Int) ≤ (k : Int) := by omega
  have hk1 : (k : Int) < (T.length : Int) := by omega
  have hk2 : ¬ (k : Int) < 0 := by omega
  have hk3 : ¬ (T.length : Int) ≤ (k : Int) := by omega
  clear hw hr e hT hM hP hap hMM hPP hQQ hra hrb h0 h1 hl hk
  go_enter Try.func39, Try.ntmps39
  go_wp2_with (first
    | (go_at_call 53; refine (HW.out _ H0.out).mono ?_; rintro e w1 ⟨rfl, rfl⟩)
    | (go_at_call 33; refine (HR.out _ H1.out).mono ?_; rintro e w1 ⟨rfl, rfl⟩)
    | (go_at_call 86; refine (HPA.out _ H1.out).mono ?_; rintro e w1 ⟨rfl, hown, hb⟩; have HO := Lib.hid hown; have HB := Lib.hid hb; have hce := HCE.out _ _ _ hown; clear hown hb))
  go_quiet (first
    | (go_at_call 89; exact Calls.quiet_of_same (HSP.out _ _ _ (own_below HO.out (below_drewN (Below.refl _ _) _))))
    | (go_at_call 87; exact Calls.quiet_of (HLT.out _)))
  go_wp2
  go_ret3
  exact ⟨rfl, below_drewN HB.out _⟩

set_option maxHeartbeats 1000000 in
theorem implPartOfPainter_any (A0 : Option Addr) (c0 : Nat) (L0 : List Int) (A1 : Option Addr) (c1 : Nat) (L1 : List Int) (a2 : Int) (w : World) (l0 : L0.length ≤ 1048576) (_ : WfL L0) (_ : L0.length ≤ c0) (h0 : IntSl w A0 L0) (l1 : L1.length ≤ 1048576) (_ : WfL L1) (_ : L1.length ≤ c1) (h1 : IntSl w A1 L1) (_ : (Lit.int .i64 a2).wf = true) :
    Calls Try.prog 39 #[.slice A0 L0.length c0, .slice A1 L1.length c1, .int .i64 a2] w fun e w' => e = .returned (.tuple #[.int .i64 (parA L0 L1 a2), .int .i64 (parB L0 L1 a2), .bool (okPart L0 L1 a2)]) ∧ Below w.heap.size w w' := by
  cases hok : okPart L0 L1 a2
  · obtain ⟨e1, e2⟩ := part_no hok
    rw [e1, e2]
    have HW := Lib.hid fun W h => implWidths_any A0 c0 L0 W l0 h
    have HR := Lib.hid fun W h => implRates_any A1 c1 L1 W l1 h
    cases hw : okW L0
    · rw [hw] at HW
      clear hw hok e1 e2
      go_enter Try.func39, Try.ntmps39
      go_wp2_with (go_at_call 53; refine (HW.out _ h0).mono ?_; rintro e w1 ⟨rfl, rfl⟩)
      go_ret3
      exact ⟨rfl, Below.refl _ _⟩
    · cases hr : okR L1
      · rw [hw] at HW
        rw [hr] at HR
        clear hw hok hr e1 e2
        go_enter Try.func39, Try.ntmps39
        go_wp2_with (first
          | (go_at_call 53; refine (HW.out _ h0).mono ?_; rintro e w1 ⟨rfl, rfl⟩)
          | (go_at_call 33; refine (HR.out _ h1).mono ?_; rintro e w1 ⟨rfl, rfl⟩))
        go_ret3
        exact ⟨rfl, Below.refl _ _⟩
      · have hk : ¬ (0 ≤ a2 ∧ a2 < (L1.length : Int)) := by
          intro hk
          unfold okPart okWR at hok
          rw [hw, hr, decide_eq_true hk] at hok
          cases hok
        rw [hw] at HW
        rw [hr] at HR
        clear hw hok hr e1 e2
        by_cases hn : a2 < 0
        · clear hk
          go_enter Try.func39, Try.ntmps39
          go_wp2_with (first
            | (go_at_call 53; refine (HW.out _ h0).mono ?_; rintro e w1 ⟨rfl, rfl⟩)
            | (go_at_call 33; refine (HR.out _ h1).mono ?_; rintro e w1 ⟨rfl, rfl⟩))
          go_ret3
          exact ⟨rfl, Below.refl _ _⟩
        · have hk2 : (L1.length : Int) ≤ a2 := by omega
          clear hk
          go_enter Try.func39, Try.ntmps39
          go_wp2_with (first
            | (go_at_call 53; refine (HW.out _ h0).mono ?_; rintro e w1 ⟨rfl, rfl⟩)
            | (go_at_call 33; refine (HR.out _ h1).mono ?_; rintro e w1 ⟨rfl, rfl⟩))
          go_ret3
          exact ⟨rfl, Below.refl _ _⟩
  · obtain ⟨hw, hr, hk0, hk1⟩ := okPart_at hok
    obtain ⟨k, rfl⟩ : ∃ k : Nat, a2 = k := ⟨a2.toNat, by omega⟩
    rw [show parA L0 L1 (k : Int) = (lowA (ratM L1 / rateK L1 k) (ratP L1) : Int) by unfold parA; rw [if_pos hok], show parB L0 L1 (k : Int) = (lowB (ratM L1 / rateK L1 k) (ratP L1) : Int) by unfold parB; rw [if_pos hok]]
    exact implPart_yes A0 c0 L0 A1 c1 L1 k w h0 h1 hw hr (by omega)

set_option maxHeartbeats 1000000 in
theorem specPartOfPainter_any (A0 : Option Addr) (c0 : Nat) (L0 : List Int) (A1 : Option Addr) (c1 : Nat) (L1 : List Int) (a2 : Int) (w : World) (l0 : L0.length ≤ 1048576) (_ : WfL L0) (_ : L0.length ≤ c0) (h0 : IntSl w A0 L0) (l1 : L1.length ≤ 1048576) (_ : WfL L1) (_ : L1.length ≤ c1) (h1 : IntSl w A1 L1) (_ : (Lit.int .i64 a2).wf = true) :
    Calls Try.prog 44 #[.slice A0 L0.length c0, .slice A1 L1.length c1, .int .i64 a2] w fun e w' => e = .returned (.tuple #[.int .i64 (parA L0 L1 a2), .int .i64 (parB L0 L1 a2), .bool (okPart L0 L1 a2)]) ∧ Below w.heap.size w w' := by
  have HR := Lib.hid (shRated_any A0 c0 L0 A1 c1 L1 w l0 h0 l1 h1)
  cases hwr : okWR L0 L1
  · have hok : okPart L0 L1 a2 = false := by unfold okPart; rw [hwr]; rfl
    obtain ⟨e1, e2⟩ := part_no hok
    rw [e1, e2, hok]
    unfold okWR at hwr
    rw [hwr] at HR
    clear hwr hok e1 e2
    go_enter Try.func44, Try.ntmps44
    go_wp2_with (go_at_call 77; refine HR.out.mono ?_; rintro e w1 ⟨rfl, rfl⟩)
    go_ret3
    exact ⟨rfl, Below.refl _ _⟩
  · obtain ⟨hw, hr⟩ := okWR_at hwr
    have hrl := okR_len hr
    have HIN := Lib.hid fun W => l1In_any a2 0 ((L1.length : Int) - 1) W
    have hwr2 := hwr
    unfold okWR at hwr2
    rw [hwr2] at HR
    by_cases hk : 0 ≤ a2 ∧ a2 ≤ (L1.length : Int) - 1
    · have hok : okPart L0 L1 a2 = true := by unfold okPart; rw [hwr, decide_eq_true (by omega)]; rfl
      rw [show parA L0 L1 a2 = (lowA (ratM L1 / rateK L1 a2) (ratP L1) : Int) by unfold parA; rw [if_pos hok], show parB L0 L1 a2 = (lowB (ratM L1 / rateK L1 a2) (ratP L1) : Int) by unfold parB; rw [if_pos hok], hok]
      rw [decide_eq_true hk] at HIN
      obtain ⟨k, rfl⟩ : ∃ k : Nat, a2 = k := ⟨a2.toNat, by omega⟩
      obtain ⟨T, e, hT, hT1, hM, hP, hl⟩ := okR_open hr
      have hkT : k < T.length := by omega
      rw [hM, hP, show rateK L1 k = T[k] by rw [e]; exact rateK_eq hkT]
      have hrk := hT.2 k
      rw [getD1 T k hkT] at hrk
      have hdv := mulK_dvd (T := T) T.length k hkT
      rw [getD1 T k hkT] at hdv
      have hap := addK_pos hT (k := T.length) (by omega)
      have HPA := Lib.hid (shAll_any A1 c1 T w hT hT1 (by rw [← e]; exact h1))
      rw [← hl] at HPA
      have HC1 : Hid (∀ W, Below w.heap.size w W → ∃ g off, A1 = some ⟨g, off, none⟩ ∧ W.cell? ⟨g, off + k, none⟩ = some (.int .i64 (T[k] : Int))) := Lib.hid fun W hW => by
        obtain ⟨g, off, rfl, _, hat⟩ := (h1.below hW).some (by omega)
        refine ⟨g, off, rfl, ?_⟩
        have := hat k (by omega)
        rw [this]
        simp only [e, List.getElem_map]
      have HLT : Hid (∀ n d : Nat, (n * mulK T L1.length = addK T L1.length * d ∧ 0 < d ∧ 0 < n ∧ d ≤ 3200000 ∧ n ≤ 16000000) → ∀ W, Calls Try.prog 91 #[.int .i64 (d : Int), .int .i64 ((n : Int) * (T[k] : Int))] W fun e w' => e = .returned (.tuple #[.int .i64 (lowA (mulK T T.length / T[k]) (addK T T.length) : Nat), .int .i64 (lowB (mulK T T.length / T[k]) (addK T T.length) : Nat)]) ∧ ∃ d, w' = W.drewN d) := Lib.hid fun n d ⟨i1, i2, i3, i4, i5⟩ W => by
        have hnr : n * T[k] ≤ 16000000 * 20 := Nat.mul_le_mul i5 hrk.2
        have hnp : 0 < n * T[k] := Nat.mul_pos i3 hrk.1
        have := shLow_any d (n * T[k]) W (by omega) (by omega) hnp
        rw [Int.natCast_mul] at this
        obtain ⟨e1, e2⟩ := low_same (a := d) (c := mulK T T.length / T[k]) hnp hap (by
          rw [hl] at i1
          rw [Nat.mul_comm n, ← Nat.mul_assoc, Nat.div_mul_cancel hdv, Nat.mul_comm d, ← i1, Nat.mul_comm])
        rw [e1, e2] at this
        exact this
      have HSB : Hid (∀ n : Nat, n ≤ 16000000 → 0 ≤ (n : Int) * (T[k] : Int) ∧ (n : Int) * (T[k] : Int) ≤ 320000000) := Lib.hid fun n hn => by
        have hsd : n * T[k] ≤ 16000000 * 20 := Nat.mul_le_mul hn hrk.2
        rw [← Int.natCast_mul]; omega
      obtain ⟨Q, hQ⟩ : ∃ Q, Q = T[k] := ⟨_, rfl⟩
      rw [← hQ] at HC1 HLT HSB ⊢
      obtain ⟨ra, hra⟩ : ∃ a, a = lowA (mulK T T.length / Q) (addK T T.length) := ⟨_, rfl⟩
      obtain ⟨rb, hrb⟩ : ∃ a, a = lowB (mulK T T.length / Q) (addK T T.length) := ⟨_, rfl⟩
      rw [← hra, ← hrb] at HLT ⊢
      have hk0 : (0 : Int) ≤ (k : Int) := by omega
      have hk1 : (k : Int) < (L1.length : Int) := by omega
      clear hw hok hr e hT hM hP hl hap hQ hra hrb hwr hwr2 hrk hdv hk h1 h0
      go_enter Try.func44, Try.ntmps44
      go_wp2_with (first
        | (go_at_call 77; refine HR.out.mono ?_; rintro e w1 ⟨rfl, rfl⟩)
        | (go_at_call 101; refine (HIN.out _).mono ?_; rintro e w1 ⟨rfl, rfl⟩)
        | (go_at_call 90; refine HPA.out.mono ?_; rintro e w1 ⟨n, d, rfl, hinv, hb⟩; have HV := Lib.hid hinv; obtain ⟨b1, b2⟩ := HSB.out n hinv.2.2.2.2; clear hinv; obtain ⟨g, off, rfl, hce⟩ := HC1.out _ hb)
        | (go_at_call 91; refine (HLT.out n d HV.out _).mono ?_; rintro e w1 ⟨rfl, dd, rfl⟩))
      go_ret3
      exact ⟨rfl, below_drewN hb _⟩
    · have hok : okPart L0 L1 a2 = false := by unfold okPart; rw [hwr, decide_eq_false (by omega)]; rfl
      obtain ⟨e1, e2⟩ := part_no hok
      rw [e1, e2, hok]
      rw [decide_eq_false hk] at HIN
      clear hwr hwr2 hok e1 e2 hk hw hr
      go_enter Try.func44, Try.ntmps44
      go_wp2_with (first
        | (go_at_call 77; refine HR.out.mono ?_; rintro e w1 ⟨rfl, rfl⟩)
        | (go_at_call 101; refine (HIN.out _).mono ?_; rintro e w1 ⟨rfl, rfl⟩))
      go_ret3
      exact ⟨rfl, Below.refl _ _⟩
end Go.Proofs.Yteiaidjknnbpjaa
