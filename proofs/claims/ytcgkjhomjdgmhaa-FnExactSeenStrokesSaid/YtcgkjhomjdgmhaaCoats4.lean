/- CoatsOf: the law's walk. No condition but the lists' and the texts' lengths. -/
import Derived.Test.YtcgkjhomjdgmhaaCoats3
namespace Go.Proofs.Ytcgkjhomjdgmhaa
open Go.RowKit

theorem coatsL_len (s : ByteArray) (L : List Strk) : (coatsL s L).length ≤ 20 := by
  unfold coatsL
  split
  · next h =>
    rw [Bool.and_eq_true] at h
    have := okFence_size h.1
    simp; omega
  · exact Nat.zero_le _

set_option maxHeartbeats 1600000 in
theorem lawCoatsOf_walk (s : ByteArray) (A : Option Addr) (cap : Nat) (L : List Strk) (w : World) (hz : s.size ≤ maxLen) (hl : L.length ≤ maxLen) (hs : Short L) (h : StrkSl w A L) :
    Calls Try.prog 17 #[.string s, .slice A L.length cap] w fun e w' => e = .returned (.bool true) ∧ Below w.heap.size w w' := by
  have hz0 := hz
  have hl0 := hl
  unfold maxLen at hz hl
  by_cases hbig : s.size ≤ 1048576
  · by_cases htot : 1048576 < totS L
    · have HP := Lib.hid (szRes_no htot)
      go_enter Try.func17, Try.ntmps17
      go_wp2_with (go_at_call 63; refine (szStrokeS_any A cap L _ hl0 hs h).mono ?_; rintro e w1 ⟨rfl, hb⟩; rw [HP.out])
      go_ret
      exact ⟨rfl, hb⟩
    · have HP := Lib.hid (szRes_yes (L := L) (by omega))
      have hle : L.length ≤ 1048576 := Short_of_tot (by omega)
      have HSZ := Lib.hid fun W => szStrokeS_any A cap L W hl0 hs
      have HTO := Lib.hid fun W (hW : Below w.heap.size w W) => toStrokeS_any A cap L W hle (h.below hW)
      have HS := Lib.hid fun A W hW => specCoats_any s A L.length L W hz0 hl0 hs hW
      have HI := Lib.hid fun A W hW => implCoats_any s A L.length L W hz0 hl0 hs hW
      have hZ := coatsL_len s L
      obtain ⟨Z, hZe⟩ : ∃ Z, Z = coatsL s L := ⟨_, rfl⟩
      rw [← hZe] at HS HI hZ
      obtain ⟨K, hK⟩ : ∃ K, K = (okFence s && okList s.size L) := ⟨_, rfl⟩
      rw [← hK] at HS HI
      obtain ⟨Q1, hQ1⟩ : ∃ Q : Int, Q = ((1 : Nat) : Int) + 3 * (L.length : Int) := ⟨_, rfl⟩
      obtain ⟨Q2, hQ2⟩ : ∃ Q : Int, Q = ((1 + Z.length : Nat) : Int) := ⟨_, rfl⟩
      have hq1 : ¬ Q1 < 0 := by omega
      have hq2 : ¬ Q2 < 0 := by omega
      have HMS : Hid (∀ (b : Nat) (v : Value) (xs : List Value) (W : World), W.ownsRow b 43 3 v L.length xs → Calls Try.prog 67 #[v, .int .i64 1] W fun e w' => e = .returned (.int .i64 Q1) ∧ W.grownBy w' v.ownBlock) := Lib.hid fun b v xs W h => by
        rw [hQ1]; exact (markStrokes_any b L.length v xs W 1 (by omega) hle h).mono fun e w' hh => ⟨hh.1, hh.2.2⟩
      have HMI : Hid (∀ (b : Nat) (v : Value) (W : World), OwnInts W b 77 v Z → Calls Try.prog 70 #[v, .int .i64 1] W fun e w' => e = .returned (.int .i64 Q2) ∧ w'.ownsRow b 77 1 v Z.length (marksI 1 Z.length) ∧ W.grownBy w' v.ownBlock) := Lib.hid fun b v W h => by
        rw [hQ2]; exact markIntsE_any _ b Z.length v Z W 1 (by omega) (by omega) rfl h
      have HHI : Hid (∀ (b : Nat) (v : Value) (W : World), W.ownsRow b 77 1 v Z.length (marksI 1 Z.length) → Calls Try.prog 71 #[v, .int .i64 1] W fun e w' => e = .returned (.int .i64 Q2) ∧ W = w') := Lib.hid fun b v W h => by
        rw [hQ2]; exact heldIntsE_any _ b Z.length v W 1 (by omega) (by omega) h
      have hge : (0 : Int) ≤ 1048576 - (totS L : Int) := by omega
      have HSL := Lib.hid h
      clear hZe hK hQ1 hQ2 h hs
      go_enter Try.func17, Try.ntmps17
      go_wp2_with (first
        | (go_at_call 71; refine (HHI.out _ _ _ HM14.out).mono ?_; rintro e w15 ⟨rfl, rfl⟩)
        | (go_at_call 69; refine (eqIntsE_same _ _ _ _ _ _ Z _ HW13.out HV13.out).mono ?_; rintro e w14 ⟨rfl, hb⟩; have HB14 := Lib.hid (below_next HB13.out hb); have HM14 := Lib.hid (own_below HM13.out hb); clear hb)
        | (go_at_call 34; refine (HI.out _ _ (StrkSl.of_own HT12.out)).mono ?_; rintro e w13 ⟨v2, rfl, hv2, hb⟩; have HW13 := Lib.hid hv2; have HB13 := Lib.hid (below_next HB12.out hb); have HV13 := Lib.hid (OwnInts.below HV12.out hb); have HM13 := Lib.hid (own_below HM12.out hb); clear hv2 hb)
        | (go_at_call 65; refine (HTO.out _ HB11h.out).mono ?_; rintro e w12 ⟨rfl, hown, hb⟩; have HT12 := Lib.hid hown; have HB12 := Lib.hid (below_next HB11.out hb); have HV12 := Lib.hid (OwnInts.below HV11.out hb); have HM12 := Lib.hid (own_below HM11.out hb); clear hown hb)
        | (go_at_call 71; refine (HHI.out _ _ _ HM11.out).mono ?_; rintro e w11b ⟨rfl, rfl⟩; have HB11h := Lib.hid HB11.out)
        | (go_at_call 70; refine (HMI.out _ _ _ HG10.out).mono ?_; rintro e w11 ⟨rfl, hk, hg⟩; have HM11 := Lib.hid hk; have HV11 := Lib.hid (ints_apart2 HV10.out HG10.out hg HLT.out); have HB11 := Lib.hid (below_mark2 HB10.out HB3.out.size HG10.out hg); clear hk hg)
        | (go_at_call 69; refine (eqIntsE_same _ _ _ _ _ _ Z _ HG9.out HV9.out).mono ?_; rintro e w10 ⟨rfl, hb⟩; have HB10 := Lib.hid (below_next HB9.out hb); have HV10 := Lib.hid (OwnInts.below HV9.out hb); have HG10 := Lib.hid (OwnInts.below HG9.out hb); clear hb)
        | (go_at_call 67; refine (HMS.out _ _ _ _ HX8.out).mono ?_; rintro e w9 ⟨rfl, hg⟩; have HV9 := Lib.hid (ints_before HV8.out hg HLT.out); have HG9 := Lib.hid (ints_behind HG8.out hg); have HB9 := Lib.hid (below_mark1 HB8.out HB3.out.size hg); clear hg)
        | (go_at_call 66; refine (eqStrokeS_same _ _ _ _ L _ hle (StrkSl.of_own HX7.out) (StrkSl.of_own HT7.out)).mono ?_; rintro e w8 ⟨rfl, hb⟩; have HB8 := Lib.hid (below_next HB7.out hb); have HV8 := Lib.hid (OwnInts.below HV7.out hb); have HX8 := Lib.hid (own_below HX7.out hb); have HG8 := Lib.hid (OwnInts.below HG7.out hb); clear hb)
        | (go_at_call 65; refine (HTO.out _ HB6.out).mono ?_; rintro e w7 ⟨rfl, hown, hb⟩; have HT7 := Lib.hid hown; have HB7 := Lib.hid (below_next HB6.out hb); have HV7 := Lib.hid (OwnInts.below HV6.out hb); have HX7 := Lib.hid (own_below HX6.out hb); have HG7 := Lib.hid (OwnInts.below HG6.out hb); clear hown hb)
        | (go_at_call 69; refine (eqIntsE_same _ _ _ _ _ _ Z _ HG5.out HV5.out).mono ?_; rintro e w6 ⟨rfl, hb⟩; have HB6 := Lib.hid (below_next HB5.out hb); have HV6 := Lib.hid (OwnInts.below HV5.out hb); have HX6 := Lib.hid (own_below HX5.out hb); have HG6 := Lib.hid (OwnInts.below HG5.out hb); clear hb)
        | (go_at_call 34; refine (HI.out _ _ (StrkSl.of_own HX4.out)).mono ?_; rintro e w5 ⟨v1, rfl, hv1, hb⟩; have HG5 := Lib.hid (ints_mono hv1 (own_made HX4.out)); have HB5 := Lib.hid (below_next HB4.out hb); have HV5 := Lib.hid (OwnInts.below HV4.out hb); have HX5 := Lib.hid (own_below HX4.out hb); clear hv1 hb)
        | (go_at_call 65; refine (HTO.out _ HB3.out).mono ?_; rintro e w4 ⟨rfl, hown, hb⟩; have HX4 := Lib.hid hown; have HB4 := Lib.hid (below_next HB3.out hb); have HV4 := Lib.hid (OwnInts.below HV3.out hb); clear hown hb)
        | (go_at_call 76; refine (HS.out _ _ (StrkSl.of_own HT0.out)).mono ?_; rintro e w3 ⟨v0, rfl, hv0, hb⟩; have HB3 := Lib.hid (below_next HB2.out hb); have HV3 := Lib.hid hv0; have HLT := Lib.hid (World.ownsRow.lt hv0); clear hv0 hb)
        | (go_at_call 65; refine (HTO.out _ HB1.out).mono ?_; rintro e w2 ⟨rfl, hown, hb⟩; have HB2 := Lib.hid (below_next HB1.out hb); have HT0 := Lib.hid hown; clear hown hb)
        | (go_at_call 63; refine (HSZ.out _ HSL.out).mono ?_; rintro e w1 ⟨rfl, hb⟩; rw [HP.out]; have HB1 := Lib.hid hb; clear hb))
      go_ret
      exact ⟨rfl, HB14.out⟩
  · go_enter Try.func17, Try.ntmps17
    go_wp2
    go_ret
    exact ⟨rfl, Below.refl _ _⟩
end Go.Proofs.Ytcgkjhomjdgmhaa
