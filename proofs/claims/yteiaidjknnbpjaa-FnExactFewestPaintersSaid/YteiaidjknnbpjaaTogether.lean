/- TogetherTime and PartOfPainter of both sides. No condition but the lists' lengths. -/
import Derived.Test.YteiaidjknnbpjaaFrac
namespace Go.Proofs.Yteiaidjknnbpjaa
open Go.RowKit

def okWR (W R : List Int) : Bool := okW W && okR R
/-- how wide all boards are; the rates multiplied; what they bring together -/
def widS (W : List Int) : Nat := W.sum.toNat
def ratM (R : List Int) : Nat := mulK (R.map Int.toNat) R.length
def ratP (R : List Int) : Nat := addK (R.map Int.toNat) R.length
def togA (W R : List Int) : Int := if okWR W R = true then (lowA (widS W * ratM R) (ratP R) : Int) else 0
def togB (W R : List Int) : Int := if okWR W R = true then (lowB (widS W * ratM R) (ratP R) : Int) else 0
theorem okWR_at {W R : List Int} (h : okWR W R = true) : okW W = true ∧ okR R = true := by
  unfold okWR at h
  rwa [Bool.and_eq_true] at h
theorem widS_at {W : List Int} (h : okW W = true) : W.sum = (widS W : Int) ∧ widS W ≤ 1200 := by
  have := sum_w rfl (okW_len h).2 (okW_mem h)
  unfold widS
  omega
theorem nat_back (T : List Nat) : (T.map fun n : Nat => (n : Int)).map Int.toNat = T := by
  rw [List.map_map]
  exact (List.map_congr_left fun x _ => Int.toNat_natCast x).trans (List.map_id' T)
/-- the rates of a list, opened -/
theorem okR_open {R : List Int} (h : okR R = true) : ∃ T : List Nat, R = T.map (fun n : Nat => (n : Int)) ∧ okN T ∧ 1 ≤ T.length ∧ ratM R = mulK T T.length ∧ ratP R = addK T T.length ∧ R.length = T.length := by
  obtain ⟨T, e, h1, h2⟩ := okR_nats h
  have hl : R.length = T.length := by rw [e, List.length_map]
  refine ⟨T, e, h1, h2, ?_, ?_, hl⟩
  · unfold ratM; rw [hl, e, nat_back]
  · unfold ratP; rw [hl, e, nat_back]

set_option maxHeartbeats 1000000 in
theorem implTogetherTime_any (A0 : Option Addr) (c0 : Nat) (L0 : List Int) (A1 : Option Addr) (c1 : Nat) (L1 : List Int) (w : World) (l0 : L0.length ≤ 1048576) (_ : WfL L0) (_ : L0.length ≤ c0) (h0 : IntSl w A0 L0) (l1 : L1.length ≤ 1048576) (_ : WfL L1) (_ : L1.length ≤ c1) (h1 : IntSl w A1 L1) :
    Calls Try.prog 30 #[.slice A0 L0.length c0, .slice A1 L1.length c1] w fun e w' => e = .returned (.tuple #[.int .i64 (togA L0 L1), .int .i64 (togB L0 L1), .bool (okWR L0 L1)]) ∧ Below w.heap.size w w' := by
  have HW := Lib.hid fun W h => implWidths_any A0 c0 L0 W l0 h
  have HR := Lib.hid fun W h => implRates_any A1 c1 L1 W l1 h
  cases hw : okW L0
  · have hok : okWR L0 L1 = false := by unfold okWR; rw [hw]; rfl
    rw [show togA L0 L1 = 0 by unfold togA; rw [hok]; rfl, show togB L0 L1 = 0 by unfold togB; rw [hok]; rfl, hok]
    rw [hw] at HW
    clear hw hok
    go_enter Try.func30, Try.ntmps30
    go_wp2_with (go_at_call 53; refine (HW.out _ h0).mono ?_; rintro e w1 ⟨rfl, rfl⟩)
    go_ret3
    exact ⟨rfl, Below.refl _ _⟩
  · cases hr : okR L1
    · have hok : okWR L0 L1 = false := by unfold okWR; rw [hw, hr]; rfl
      rw [show togA L0 L1 = 0 by unfold togA; rw [hok]; rfl, show togB L0 L1 = 0 by unfold togB; rw [hok]; rfl, hok]
      rw [hw] at HW
      rw [hr] at HR
      clear hw hok hr
      go_enter Try.func30, Try.ntmps30
      go_wp2_with (first
        | (go_at_call 53; refine (HW.out _ h0).mono ?_; rintro e w1 ⟨rfl, rfl⟩)
        | (go_at_call 33; refine (HR.out _ h1).mono ?_; rintro e w1 ⟨rfl, rfl⟩))
      go_ret3
      exact ⟨rfl, Below.refl _ _⟩
    · have hok : okWR L0 L1 = true := by unfold okWR; rw [hw, hr]; rfl
      rw [show togA L0 L1 = (lowA (widS L0 * ratM L1) (ratP L1) : Int) by unfold togA; rw [if_pos hok], show togB L0 L1 = (lowB (widS L0 * ratM L1) (ratP L1) : Int) by unfold togB; rw [if_pos hok], hok]
      rw [hw] at HW
      rw [hr] at HR
      obtain ⟨hs, hs2⟩ := widS_at hw
      obtain ⟨T, e, hT, hT1, hM, hP, hl⟩ := okR_open hr
      have hwl := okW_len hw
      have hwx := okW_mem hw
      rw [hM, hP]
      rw [hl] at HR ⊢
      have hmb := mulK_bd hT (k := T.length) hT.1
      have hab := addK_bd hT (k := T.length) hT.1
      have hap := addK_pos hT (k := T.length) (by omega)
      have hSM : widS L0 * mulK T T.length ≤ 1200 * 3200000 := Nat.mul_le_mul hs2 hmb
      have HSW := Lib.hid fun W hW => sumOf_w (c := c0) (w := W) (A := A0) rfl hwl.2 hwx hW
      rw [hs] at HSW
      have HPA := Lib.hid fun W (hW : IntSl W A1 L1) => pacesOf_any A1 c1 T W hT hT1 (by rw [← e]; exact hW)
      have HSP : Hid (∀ W B A, OwnInts W B 76 (.slice A T.length T.length) (paceL T) → Calls Try.prog 89 #[.slice A T.length T.length] W fun e w' => e = .returned (.int .i64 (addK T T.length : Nat)) ∧ W = w') := Lib.hid fun W B A h => by
        have := sumPace_any A T.length (paceL T) 3200000 W (by rw [paceL_len]; have := hT.1; omega) (by decide) (by rw [paceL_len]; have := hT.1; omega) (paceL_mem hT) (IntSl.of_own h)
        rw [paceL_len, paceL_sum hT] at this
        exact this
      have HLT := Lib.hid fun W => lowestTerms_any (widS L0 * mulK T T.length) (addK T T.length) W (by omega) (by omega) hap
      rw [Int.natCast_mul] at HLT
      have hm0 : (0 : Int) ≤ (widS L0 : Int) * (mulK T T.length : Int) := by rw [← Int.natCast_mul]; omega
      have hm1 : (widS L0 : Int) * (mulK T T.length : Int) ≤ 3840000000 := by rw [← Int.natCast_mul]; omega
      obtain ⟨S, hS⟩ : ∃ S, S = widS L0 := ⟨_, rfl⟩
      obtain ⟨M, hMM⟩ : ∃ M, M = mulK T T.length := ⟨_, rfl⟩
      obtain ⟨P, hPP⟩ : ∃ P, P = addK T T.length := ⟨_, rfl⟩
      rw [← hS] at HSW HLT hm0 hm1
      rw [← hMM] at HPA HLT hm0 hm1
      rw [← hPP] at HSP HLT
      rw [← hS, ← hMM, ← hPP]
      obtain ⟨ra, hra⟩ : ∃ a, a = lowA (S * M) P := ⟨_, rfl⟩
      obtain ⟨rb, hrb⟩ : ∃ a, a = lowB (S * M) P := ⟨_, rfl⟩
      rw [← hra, ← hrb] at HLT ⊢
      have H0 := Lib.hid h0
      have H1 := Lib.hid h1
      clear hw hok hr hs e hT hM hP hl hmb hab hap hSM hwx hS hMM hPP hra hrb h0 h1 hs2
      go_enter Try.func30, Try.ntmps30
      go_wp2_with (first
        | (go_at_call 53; refine (HW.out _ H0.out).mono ?_; rintro e w1 ⟨rfl, rfl⟩)
        | (go_at_call 33; refine (HR.out _ H1.out).mono ?_; rintro e w1 ⟨rfl, rfl⟩)
        | (go_at_call 86; refine (HPA.out _ H1.out).mono ?_; rintro e w1 ⟨rfl, hown, hb⟩)
        | (go_at_call 88; refine (HSW.out _ (H0.out.below hb)).mono ?_; rintro e w1 ⟨rfl, rfl⟩)
        | (go_at_call 89; refine (HSP.out _ _ _ hown).mono ?_; rintro e w1 ⟨rfl, rfl⟩)
        | (go_at_call 87; refine (HLT.out _).mono ?_; rintro e w1 ⟨rfl, d, rfl⟩))
      go_ret3
      exact ⟨rfl, below_drewN hb _⟩

set_option maxHeartbeats 1000000 in
theorem specTogetherTime_any (A0 : Option Addr) (c0 : Nat) (L0 : List Int) (A1 : Option Addr) (c1 : Nat) (L1 : List Int) (w : World) (l0 : L0.length ≤ 1048576) (_ : WfL L0) (_ : L0.length ≤ c0) (h0 : IntSl w A0 L0) (l1 : L1.length ≤ 1048576) (_ : WfL L1) (_ : L1.length ≤ c1) (h1 : IntSl w A1 L1) :
    Calls Try.prog 31 #[.slice A0 L0.length c0, .slice A1 L1.length c1] w fun e w' => e = .returned (.tuple #[.int .i64 (togA L0 L1), .int .i64 (togB L0 L1), .bool (okWR L0 L1)]) ∧ Below w.heap.size w w' := by
  have HR := Lib.hid (shRated_any A0 c0 L0 A1 c1 L1 w l0 h0 l1 h1)
  cases hok : okWR L0 L1
  · rw [show togA L0 L1 = 0 by unfold togA; rw [hok]; rfl, show togB L0 L1 = 0 by unfold togB; rw [hok]; rfl]
    unfold okWR at hok
    rw [hok] at HR
    clear hok
    go_enter Try.func31, Try.ntmps31
    go_wp2_with (go_at_call 77; refine HR.out.mono ?_; rintro e w1 ⟨rfl, rfl⟩)
    go_ret3
    exact ⟨rfl, Below.refl _ _⟩
  · rw [show togA L0 L1 = (lowA (widS L0 * ratM L1) (ratP L1) : Int) by unfold togA; rw [if_pos hok], show togB L0 L1 = (lowB (widS L0 * ratM L1) (ratP L1) : Int) by unfold togB; rw [if_pos hok]]
    obtain ⟨hw, hr⟩ := okWR_at hok
    unfold okWR at hok
    rw [hok] at HR
    obtain ⟨hs, hs2⟩ := widS_at hw
    obtain ⟨T, e, hT, hT1, hM, hP, hl⟩ := okR_open hr
    have hwl := okW_len hw
    have hwx := okW_mem hw
    rw [hM, hP]
    have hap := addK_pos hT (k := T.length) (by omega)
    have HSW := Lib.hid fun W hW => shSum_w (c := c0) (w := W) (A := A0) rfl hwl.2 hwx hW
    rw [hs] at HSW
    have HPA := Lib.hid (shAll_any A1 c1 T w hT hT1 (by rw [← e]; exact h1))
    rw [← hl] at HPA
    have HLT : Hid (∀ n d : Nat, (n * mulK T L1.length = addK T L1.length * d ∧ 0 < d ∧ 0 < n ∧ d ≤ 3200000 ∧ n ≤ 16000000) → ∀ W, Calls Try.prog 91 #[.int .i64 ((widS L0 : Int) * (d : Int)), .int .i64 (n : Int)] W fun e w' => e = .returned (.tuple #[.int .i64 (lowA (widS L0 * mulK T T.length) (addK T T.length) : Nat), .int .i64 (lowB (widS L0 * mulK T T.length) (addK T T.length) : Nat)]) ∧ ∃ d, w' = W.drewN d) := Lib.hid fun n d ⟨i1, i2, i3, i4, i5⟩ W => by
      have hsd : widS L0 * d ≤ 1200 * 3200000 := Nat.mul_le_mul hs2 i4
      have := shLow_any (widS L0 * d) n W (by omega) (by omega) i3
      rw [Int.natCast_mul] at this
      obtain ⟨e1, e2⟩ := low_same (a := widS L0 * d) (c := widS L0 * mulK T T.length) i3 hap (by rw [hl] at i1; rw [Nat.mul_assoc, Nat.mul_assoc, Nat.mul_comm (mulK T T.length) n, i1, Nat.mul_comm d])
      rw [e1, e2] at this
      exact this
    have HSB : Hid (∀ d : Nat, d ≤ 3200000 → 0 ≤ (widS L0 : Int) * (d : Int) ∧ (widS L0 : Int) * (d : Int) ≤ 3840000000) := Lib.hid fun d hd => by
      have hsd : widS L0 * d ≤ 1200 * 3200000 := Nat.mul_le_mul hs2 hd
      rw [← Int.natCast_mul]; omega
    obtain ⟨S, hS⟩ : ∃ S, S = widS L0 := ⟨_, rfl⟩
    rw [← hS] at HSW HLT HSB ⊢
    obtain ⟨ra, hra⟩ : ∃ a, a = lowA (S * mulK T T.length) (addK T T.length) := ⟨_, rfl⟩
    obtain ⟨rb, hrb⟩ : ∃ a, a = lowB (S * mulK T T.length) (addK T T.length) := ⟨_, rfl⟩
    rw [← hra, ← hrb] at HLT ⊢
    have H0 := Lib.hid h0
    have H1 := Lib.hid h1
    clear hw hok hr hs e hT hM hP hl hap hwx hS hra hrb h0 h1 hs2
    go_enter Try.func31, Try.ntmps31
    go_wp2_with (first
      | (go_at_call 77; refine HR.out.mono ?_; rintro e w1 ⟨rfl, rfl⟩)
      | (go_at_call 90; refine HPA.out.mono ?_; rintro e w1 ⟨n, d, rfl, hinv, hb⟩; have HV := Lib.hid hinv; obtain ⟨b1, b2⟩ := HSB.out d hinv.2.2.2.1; clear hinv)
      | (go_at_call 92; refine (HSW.out _ (H0.out.below hb)).mono ?_; rintro e w1 ⟨rfl, rfl⟩)
      | (go_at_call 91; refine (HLT.out n d HV.out _).mono ?_; rintro e w1 ⟨rfl, dd, rfl⟩))
    go_ret3
    exact ⟨rfl, below_drewN hb _⟩
end Go.Proofs.Yteiaidjknnbpjaa
