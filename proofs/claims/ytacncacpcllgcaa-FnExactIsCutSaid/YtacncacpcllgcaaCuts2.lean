/- RestsOfCut and IsCut of the program. No condition but the lists' lengths. -/
import Derived.Test.YtacncacpcllgcaaCuts
namespace Go.Proofs.Ytacncacpcllgcaa
open Go.RowKit

theorem implRestsOfCut_cap (A0 : Option Addr) (c0 : Nat) (L0 : List Int) (a1 : Int) (A2 : Option Addr) (c2 : Nat) (L2 : List Int) (w : World) (l0 : L0.length ≤ 1048576) (h0 : IntSl w A0 L0) (h2 : IntSl w A2 L2) :
    Calls Try.prog 53 #[.slice A0 L0.length c0, .int .i64 a1, .slice A2 L2.length c2] w fun e w' => ∃ A c c', e = .returned (.tuple #[.slice A (ctL L0 a1 L2).length c, .bool (okCt L0 a1 L2)]) ∧ OwnInts w' w.heap.size 63 (.slice A (ctL L0 a1 L2).length c') (ctL L0 a1 L2) ∧ Below w.heap.size w w' := by
  have HG := Lib.hid (implRails_any A0 c0 L0 w l0 h0)
  have HA := Lib.hid fun W A h => areL1_any a1 W A h
  have H2 := Lib.hid (one_sl w a1 3)
  have HB := Lib.hid (below_new w (.cells #[.int .i64 a1] 3))
  cases hg : okRa L0
  · have hok : okCt L0 a1 L2 = false := by unfold okCt; rw [hg]; rfl
    have hl : ctL L0 a1 L2 = [] := by unfold ctL; rw [hg]; rfl
    rw [hok, hl]
    rw [hg] at HG
    clear hok hl hg HA h0 h2
    go_enter Try.func53, Try.ntmps53
    go_wp2_with fail
    refine HG.out.mono ?_
    rintro e w1 ⟨rfl, rfl⟩
    go_wp2
    go_ret2
    exact ⟨none, 0, 0, rfl, OwnInts.nil _ _ _, Below.refl _ _⟩
  · cases ha : okL a1
    · have hok : okCt L0 a1 L2 = false := by unfold okCt; rw [hg, ha]; rfl
      have hl : ctL L0 a1 L2 = [] := by unfold ctL; rw [hg, ha]; rfl
      rw [hok, hl]
      rw [hg] at HG
      rw [ha] at HA
      clear hok hl hg ha h0 h2
      go_enter Try.func53, Try.ntmps53
      go_wp2_with fail
      refine HG.out.mono ?_
      rintro e w1 ⟨rfl, rfl⟩
      go_wp2_with fail
      refine (HA.out _ _ H2.out).mono ?_
      rintro e w1 ⟨rfl, rfl⟩
      go_wp2
      go_ret2
      exact ⟨none, 0, 0, rfl, OwnInts.nil _ _ _, HB.out⟩
    · have hk : okCt L0 a1 L2 = isCutB a1 L0 L2 := by unfold okCt; rw [hg, ha]; rfl
      have hl : ctL L0 a1 L2 = cutL a1 L0 L2 := by unfold ctL; rw [hg, ha]; rfl
      rw [hk, hl]
      by_cases hS : L2.length = L0.length
      · exact implRests_yes A0 c0 L0 a1 A2 c2 L2 w hg ha hS h0 h2
      · have hno : isCutB a1 L0 L2 = false := by unfold isCutB; rw [decide_eq_false hS]; rfl
        rw [hno, cutL_no hno]
        rw [hg] at HG
        rw [ha] at HA
        have hne : ((L2.length : Int) != (L0.length : Int)) = true := by rw [bne_iff_ne]; omega
        clear hno hk hl hS hg ha h0 h2
        go_enter Try.func53, Try.ntmps53
        go_wp2_with fail
        refine HG.out.mono ?_
        rintro e w1 ⟨rfl, rfl⟩
        go_wp2_with fail
        refine (HA.out _ _ H2.out).mono ?_
        rintro e w1 ⟨rfl, rfl⟩
        go_wp2
        go_ret2
        exact ⟨none, 0, 0, rfl, OwnInts.nil _ _ _, HB.out⟩

theorem implIsCut_any (A0 : Option Addr) (c0 : Nat) (L0 : List Int) (a1 : Int) (A2 : Option Addr) (c2 : Nat) (L2 : List Int) (w : World) (l0 : L0.length ≤ 1048576) (_ : WfL L0) (_ : L0.length ≤ c0) (h0 : IntSl w A0 L0) (_ : (Lit.int .i64 a1).wf = true) (_ : L2.length ≤ 1048576) (_ : WfL L2) (_ : L2.length ≤ c2) (h2 : IntSl w A2 L2) :
    Calls Try.prog 51 #[.slice A0 L0.length c0, .int .i64 a1, .slice A2 L2.length c2] w fun e w' => e = .returned (.tuple #[.bool (okCt L0 a1 L2), .bool (okRa L0 && okL a1)]) ∧ Below w.heap.size w w' := by
  have HG := Lib.hid (implRails_any A0 c0 L0 w l0 h0)
  have HA := Lib.hid fun W A h => areL1_any a1 W A h
  have H2 := Lib.hid (one_sl w a1 3)
  have HB := Lib.hid (below_new w (.cells #[.int .i64 a1] 3))
  cases hg : okRa L0
  · have hok : okCt L0 a1 L2 = false := by unfold okCt; rw [hg]; rfl
    rw [hok]
    rw [hg] at HG
    clear hok hg HA h0 h2
    go_enter Try.func51, Try.ntmps51
    go_wp2_with fail
    refine HG.out.mono ?_
    rintro e w1 ⟨rfl, rfl⟩
    go_wp2
    go_ret2
    exact ⟨rfl, Below.refl _ _⟩
  · cases ha : okL a1
    · have hok : okCt L0 a1 L2 = false := by unfold okCt; rw [hg, ha]; rfl
      rw [hok]
      rw [hg] at HG
      rw [ha] at HA
      clear hok hg ha h0 h2
      go_enter Try.func51, Try.ntmps51
      go_wp2_with fail
      refine HG.out.mono ?_
      rintro e w1 ⟨rfl, rfl⟩
      go_wp2_with fail
      refine (HA.out _ _ H2.out).mono ?_
      rintro e w1 ⟨rfl, rfl⟩
      go_wp2
      go_ret2
      exact ⟨rfl, HB.out⟩
    · have HC := Lib.hid fun W x y => implRestsOfCut_cap A0 c0 L0 a1 A2 c2 L2 W l0 x y
      obtain ⟨ok, hk⟩ : ∃ ok, ok = okCt L0 a1 L2 := ⟨_, rfl⟩
      rw [← hk] at HC ⊢
      rw [hg] at HG
      rw [ha] at HA
      have H0' := Lib.hid (h0.below HB.out)
      have H2' := Lib.hid (h2.below HB.out)
      clear hg ha hk h0 h2
      go_enter Try.func51, Try.ntmps51
      go_wp2_with fail
      refine HG.out.mono ?_
      rintro e w1 ⟨rfl, rfl⟩
      go_wp2_with fail
      refine (HA.out _ _ H2.out).mono ?_
      rintro e w1 ⟨rfl, rfl⟩
      go_wp2_with fail
      refine (HC.out _ H0'.out H2'.out).mono ?_
      rintro e w1 ⟨A, c, c', rfl, -, hb⟩
      go_wp2
      go_ret2
      exact ⟨rfl, below_box hb⟩
end Go.Proofs.Ytacncacpcllgcaa
