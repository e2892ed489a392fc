/- FirstCut of the program. No condition but the lists' lengths. -/
import Derived.Test.YtacncacpcllgcaaFirstCutI
namespace Go.Proofs.Ytacncacpcllgcaa
open Go.RowKit

set_option maxRecDepth 100000 in
set_option maxHeartbeats 8000000 in
theorem implFirstCut_any (A0 : Option Addr) (c0 : Nat) (L0 : List Int) (a1 : Int) (w : World) (l0 : L0.length ≤ 1048576) (_ : WfL L0) (q0 : L0.length ≤ c0) (h0 : IntSl w A0 L0) (_ : (Lit.int .i64 a1).wf = true) :
    Calls Try.prog 57 #[.slice A0 L0.length c0, .int .i64 a1] w fun e w' => ∃ v, e = .returned (.tuple #[v, .bool (okFit L0 a1)]) ∧ OwnInts w' w.heap.size 3 v (cutR L0 a1) ∧ Below w.heap.size w w' := by
  obtain ⟨WA, hWA⟩ : ∃ WA, WA = w.alloc (.cells #[.slice A0 L0.length c0] 26) := ⟨_, rfl⟩
  have hBA : Below w.heap.size w WA := by rw [hWA]; exact below_new w _
  have hgA : w.heap.size < WA.heap.size := by rw [hWA]; simp
  have k2 : WA.cell? ⟨w.heap.size, 0, none⟩ = some (.slice A0 L0.length c0) := by rw [hWA, cell_of_row _ w.heap.size 0 _ _ (0, 0) (heap_alloc_new w _)]; rfl
  have HP := Lib.hid (canBeCut_any A0 c0 L0 a1 WA l0 (h0.below hBA))
  cases hok : okFit L0 a1
  · rw [show cutR L0 a1 = [] by unfold cutR; rw [hok]; rfl]
    rw [hok] at HP
    have HBA := Lib.hid hBA
    rw [hWA] at k2 HP HBA
    clear hok h0 hWA hBA hgA
    go_enter Try.func57, Try.ntmps57
    go_wp2_with fail
    refine HP.out.mono ?_
    rintro e w1 ⟨rfl, hb⟩
    go_wp2
    go_ret2
    exact ⟨_, rfl, OwnInts.nil _ _ _, below_nextN HBA.out HBA.out.size hb⟩
  · rw [show cutR L0 a1 = (fewR L0 a1).1 by unfold cutR; rw [hok]; rfl]
    rw [hok] at HP
    obtain ⟨hr, hbr, hL⟩ := okFit_at hok
    obtain ⟨hl1, hl8⟩ := okRa_len hr
    have hbb := okL_at hbr
    have HX := Lib.hid (okRa_mem hr)
    have HXb := Lib.hid hL
    obtain ⟨C, hC⟩ : ∃ C, C = restA fun _ => a1 := ⟨_, rfl⟩
    have HW : Hid (∀ W, Calls Try.prog 90 #[.int .i64 a1] W fun e w' => e = .returned (.agg C) ∧ Below W.heap.size W w') := Lib.hid fun W => by rw [hC]; exact wholeBars_any a1 W
    have HIL : Hid ((Try.prog.info? 63).map (·.size) = some C.size) := Lib.hid (by rw [info_rests, hC]; simp [restA, rowF_len])
    have HIS : Hid (8 = C.size) := Lib.hid (by rw [hC]; simp [restA, rowF_len])
    have HO1 : Hid (C.all (·.oneCell') = true) := Lib.hid (by rw [hC]; exact rowF_one 8 _)
    have HCC := Lib.hid hC
    have HFC := Lib.hid fun (b : Nat) (hb1 : 1 ≤ b) (hb8 : b ≤ 8) (W : World) (x : IntSl W A0 L0) => firstCut_any b hb1 hb8 L0 (fun _ => a1) A0 c0 W hl8 q0 (okRa_mem hr) (fun i _ => by show 0 ≤ a1 ∧ a1 ≤ 1000000; omega) x
    simp only [rowL_rep] at HFC
    rw [← hC] at HFC
    obtain ⟨Z, hZ⟩ : ∃ Z, Z = (fewR L0 a1).1 := ⟨_, rfl⟩
    rw [← hZ]
    have HZ := Lib.hid hZ
    have HS0 := Lib.hid h0
    have HBA := Lib.hid hBA
    have HK2 := Lib.hid k2
    have HGA := Lib.hid hgA
    rw [hWA] at k2 HP HBA HK2 HGA
    clear hok hr hbr hL h0 hC hZ hWA hBA hgA
    go_enter Try.func57, Try.ntmps57
    go_wp2_with fail
    refine HP.out.mono ?_
    rintro e w1 ⟨rfl, hb1⟩
    have HB0 := Lib.hid (below_nextN HBA.out HBA.out.size hb1)
    have k3 : w1.cell? ⟨w.heap.size, 0, none⟩ = some (.slice A0 L0.length c0) := (hb1.cell (p := ⟨w.heap.size, 0, none⟩) HGA.out).trans HK2.out
    have hg1 : w.heap.size < w1.heap.size := Nat.lt_of_lt_of_le HGA.out hb1.size
    clear hb1 k2
    go_wp2_with fail
    refine (HW.out _).mono ?_
    rintro e w1a ⟨rfl, hb1⟩
    have HB1 := Lib.hid (below_next HB0.out hb1)
    have k4 := (hb1.cell (p := ⟨w.heap.size, 0, none⟩) hg1).trans k3
    have hg1a : w.heap.size < w1a.heap.size := Nat.lt_of_lt_of_le hg1 hb1.size
    clear hb1 k3
    go_wp2_with (refine wpList_store_row rfl 63 (.tmp 6) (.tmp 16) rfl w1a.heap.size C rfl rfl 63 _ (heap_alloc_new w1a _) HIL.out HIS.out HO1.out ?_; generalize hw3 : World.setRow _ _ _ = w2; have HRW : Hid (RowIs w2 63 w1a.heap.size w1a.heap.size 8 fun _ => a1) := Lib.hid (by rw [← hw3]; exact RowIs.of_block (by rw [HCC.out]; exact setRow_heap _ w1a.heap.size _ _ 63 (0, 0) (heap_alloc_new w1a _)) (Nat.le_refl _) (by unfold maxLen; omega)); have HBs := Lib.hid (show Below w1a.heap.size w1a w2 by rw [← hw3]; exact below_setRow (below_new w1a _) (Nat.le_refl _)); clear hw3)
    have HB2 := Lib.hid (below_next HB1.out HBs.out)
    have HK4 := Lib.hid ((HBs.out.cell (p := ⟨w.heap.size, 0, none⟩) hg1a).trans k4)
    have hgw : w.heap.size < w2.heap.size := Nat.lt_of_lt_of_le hg1a HBs.out.size
    obtain ⟨g6, hg6⟩ : ∃ g, g = w1a.heap.size := ⟨_, rfl⟩
    rw [← hg6] at HRW ⊢
    clear k4 hg6 HW
    go_loopw [8] (fun i wr => ∃ b : Nat, 1 ≤ b ∧ b ≤ L0.length ∧ i = .int .i64 b ∧ Hid (∀ q, 1 ≤ q → q < b → cutM L0 (List.replicate q a1) = none) ∧ Below w2.heap.size w2 wr) (fun i _ => L0.length - (intOf i).toNat)
    case atStart => exact ⟨1, Nat.le_refl _, hl1, rfl, Lib.hid fun q h1 h2 => by omega, Below.refl _ _⟩
    case round =>
      clear HB0 HB1 hg1 hg1a
      obtain ⟨b, b1, b2, rfl, hno, hb⟩ := hrel
      have HB := Lib.hid hb
      have HR := Lib.hid (HRW.out.below hb)
      have k5 := (hb.cell (p := ⟨w.heap.size, 0, none⟩) hgw).trans HK4.out
      have HBW := Lib.hid (below_nextN HB2.out HB2.out.size hb)
      have hsl : IntSl wr (some ⟨g6, 0, none⟩) (List.replicate b a1) := by
        rw [← rowL_rep]
        exact IntSl.of_own (HR.out.part (n := b) (by omega) (by unfold maxLen; omega))
      have hE := enough_any w.heap.size A0 c0 L0 (some ⟨g6, 0, none⟩) b (List.replicate b a1) wr hl8 (by rw [List.length_replicate]; omega) (fun x hx => by have := HX.out x hx; omega) (fun x hx => by rw [List.eq_of_mem_replicate hx]; omega) k5 (HS0.out.below HBW.out) hsl
      rw [List.length_replicate] at hE
      have HE := Lib.hid hE
      have kb0 : (0 : Int) ≤ (b : Int) := by omega
      have kb1 : (b : Int) ≤ 8 := by omega
      clear hb hsl hE
      by_cases hen : L0.sum ≤ (List.replicate b a1).sum
      · rw [decide_eq_true hen] at HE
        go_wp2_with fail
        refine HE.out.mono ?_
        rintro e w5 ⟨rfl, d5, rfl⟩
        have HB5 := Lib.hid (HB.out.trans ((drewN_below wr d5).mono HB.out.size))
        clear HE hen k5 HR HBW
        go_wp2
        go_loopw [8, 9, 10] (fun i _ _ wi => ∃ b : Nat, 1 ≤ b ∧ b ≤ L0.length ∧ i = .int .i64 b ∧ Hid (∀ q, 1 ≤ q → q < b → cutM L0 (List.replicate q a1) = none) ∧ Below w2.heap.size w2 wi) (fun i _ _ _ => L0.length - (intOf i).toNat)
        case atStart => exact ⟨b, b1, b2, rfl, hno, HB5.out⟩
        case round =>
          clear HB5 HB hno
          obtain ⟨b, b1, b2, rfl, hno, hb⟩ := hrel
          have HB := Lib.hid hb
          have hR := HRW.out.below hb
          have k5 := (hb.cell (p := ⟨w.heap.size, 0, none⟩) hgw).trans HK4.out
          have HBW := Lib.hid (below_nextN HB2.out HB2.out.size hb)
          have HBK : Hid (wr.heap[g6]? = some (.cells C 63 (0, 0))) := Lib.hid (by rw [HCC.out]; exact hR.block)
          have HF := Lib.hid (HFC.out b b1 (by omega) wr (HS0.out.below HBW.out))
          have HWS := Lib.hid HBW.out.size
          clear hb hR
          by_cases hbn : b < L0.length
          · cases hc : cutM L0 (List.replicate b a1) with
            | none =>
              rw [hc] at HF
              have HN : Hid (∀ q, 1 ≤ q → q < b + 1 → cutM L0 (List.replicate q a1) = none) := Lib.hid fun q h1 h2 => by
                by_cases e : q = b
                · subst e; exact hc
                · exact hno.out q h1 (by omega)
              clear hc
              go_wp2_with (first
                | (refine wpList_load_row rfl 63 (.tmp 6) rfl g6 rfl 63 _ (0, 0) _ HBK.out Try.underlying63 rfl HIL.out ?_)
                | (go_at_call 99; refine HF.out.mono ?_; rintro e w7 ⟨v7, rfl, hown7, hb7⟩; have HO7 := Lib.hid hown7; have HB7 := Lib.hid (HB.out.trans (hb7.mono HB.out.size)); have HW7 := Lib.hid (below_nextN HBW.out HBW.out.size hb7); clear hown7 hb7))
              go_roundw
              case rel => exact ⟨b + 1, by omega, by omega, by go_num, HN, HB7.out⟩
              case measure => simp [intOf]; omega
            | some c =>
              rw [hc] at HF
              have HV : Hid (Z = c) := Lib.hid (by rw [HZ.out, fewR_at b1 b2 hno.out, fewM_some hbn hc])
              clear hc
              go_wp2_with (first
                | (refine wpList_load_row rfl 63 (.tmp 6) rfl g6 rfl 63 _ (0, 0) _ HBK.out Try.underlying63 rfl HIL.out ?_)
                | (go_at_call 99; refine HF.out.mono ?_; rintro e w7 ⟨v7, rfl, hown7, hb7⟩; have HO7 := Lib.hid hown7; have HB7 := Lib.hid (HB.out.trans (hb7.mono HB.out.size)); have HW7 := Lib.hid (below_nextN HBW.out HBW.out.size hb7); clear hown7 hb7))
              go_ret2
              exact ⟨_, rfl, by rw [HV.out]; exact HO7.out.mono HWS.out, HW7.out⟩
          · obtain rfl : b = L0.length := by omega
            have hc := cut_full (fun x hx => (HXb.out x hx).2) hl1 hno.out
            rw [hc] at HF
            have HV : Hid (Z = upFrom 0 L0.length) := Lib.hid (by rw [HZ.out, fewR_at hl1 (Nat.le_refl _) hno.out, Nat.sub_self]; rfl)
            clear hc
            go_wp2_with (first
              | (refine wpList_load_row rfl 63 (.tmp 6) rfl g6 rfl 63 _ (0, 0) _ HBK.out Try.underlying63 rfl HIL.out ?_)
              | (go_at_call 99; refine HF.out.mono ?_; rintro e w7 ⟨v7, rfl, hown7, hb7⟩; have HO7 := Lib.hid hown7; have HB7 := Lib.hid (HB.out.trans (hb7.mono HB.out.size)); have HW7 := Lib.hid (below_nextN HBW.out HBW.out.size hb7); clear hown7 hb7))
            go_ret2
            exact ⟨_, rfl, by rw [HV.out]; exact HO7.out.mono HWS.out, HW7.out⟩
      · have hbn : b < L0.length := by
          rcases Nat.lt_or_ge b L0.length with h | h
          · exact h
          · obtain rfl : b = L0.length := by omega
            exact absurd (sum_all fun x hx => (HXb.out x hx).2) hen
        have HN : Hid (∀ q, 1 ≤ q → q < b + 1 → cutM L0 (List.replicate q a1) = none) := Lib.hid fun q h1 h2 => by
          by_cases e : q = b
          · subst e; exact short_none (by omega) hen
          · exact hno.out q h1 (by omega)
        rw [decide_eq_false hen] at HE
        go_wp2_with fail
        refine HE.out.mono ?_
        rintro e w5 ⟨rfl, d5, rfl⟩
        have HB5 := Lib.hid (HB.out.trans ((drewN_below wr d5).mono HB.out.size))
        clear HE hen k5 HR HBW
        go_wp2
        go_roundw
        case rel => exact ⟨b + 1, by omega, by omega, by go_num, HN, HB5.out⟩
        case measure => simp [intOf]; omega
end Go.Proofs.Ytacncacpcllgcaa
