/- FewestStrokes and FewestOver of both sides. No condition but the texts' lengths. -/
import Derived.Test.YtohmodjigneldaaBare
import Derived.Test.YtohmodjigneldaaTxFewOver
import Derived.Test.YtohmodjigneldaaTxFewPar
namespace Go.Proofs.Ytohmodjigneldaa
open Go.RowKit

theorem fbelow_next {w w1 w2 : World} (h1 : Below w.heap.size w w1) (h2 : Below w1.heap.size w1 w2) : Below w.heap.size w w2 := h1.trans (h2.mono h1.size)
/-- one fence leads to the other one -/
def okLead (s t : ByteArray) : Bool := okFence s && okFence t && decide (s.size = t.size) && (List.range t.size).all fun i => decide (Tx.cB t i = 46 → Tx.cB s i = 46)
def foR (s t : ByteArray) : Int := if okLead s t = true then (Tx.fpF (Tx.cB t) (Tx.cB s) t.size t.size : Int) else 0
theorem okF_len {s : ByteArray} (h : okFence s = true) : 1 ≤ s.size ∧ s.size ≤ 20 := by
  unfold okFence at h
  rw [Bool.and_eq_true, decide_eq_true_iff] at h
  exact h.1
theorem okF_128 {s : ByteArray} (h : okFence s = true) (k : Nat) (hk : k < s.size) : s[k].toNat < 128 := by
  unfold okFence at h
  rw [Bool.and_eq_true, List.all_eq_true] at h
  have := h.2 s[k] (by show s.data[k] ∈ s.data.toList; simp)
  unfold okB at this
  have := of_decide_eq_true this
  omega
theorem leads_iff {s t : ByteArray} {n : Nat} : ((List.range n).all fun i => decide (Tx.cB t i = 46 → Tx.cB s i = 46)) = true ↔ Tx.leadsF (Tx.cB t) (Tx.cB s) n := by
  rw [List.all_eq_true]
  constructor
  · exact fun h i hi => of_decide_eq_true (h i (List.mem_range.2 hi))
  · exact fun h i hi => decide_eq_true (h i (List.mem_range.1 hi))
theorem foR_no {s t : ByteArray} (h : okLead s t = false) : foR s t = 0 := by unfold foR; rw [h]; rfl
theorem foR_yes {s t : ByteArray} (h : okLead s t = true) : foR s t = (Tx.fpF (Tx.cB t) (Tx.cB s) t.size t.size : Int) := by unfold foR; rw [h]; rfl

set_option maxRecDepth 20000 in
set_option maxHeartbeats 2000000 in
theorem canLead_any (s t : ByteArray) (w : World) (hs : s.size ≤ maxLen) (ht : t.size ≤ maxLen) :
    Calls Try.prog 27 #[.string s, .string t] w fun e w' => e = .returned (.bool (okLead s t)) ∧ w = w' := by
  have HS := Lib.hid fun W => implIsFence_any s W hs
  have HT := Lib.hid fun W => implIsFence_any t W ht
  have hs1 := hs
  have ht1 := ht
  unfold maxLen at hs1 ht1
  cases h1 : okFence s
  · have HO : Hid (okLead s t = false) := Lib.hid (by unfold okLead; rw [h1]; rfl)
    rw [h1] at HS
    clear h1
    go_enter Try.func27, Try.ntmps27
    go_wp2_with fail
    refine (HS.out _).mono ?_
    rintro e w1 ⟨rfl, rfl⟩
    go_wp2
    go_ret
    exact ⟨ret_bool HO.out.symm, rfl⟩
  · rw [h1] at HS
    cases h2 : okFence t
    · have HO : Hid (okLead s t = false) := Lib.hid (by unfold okLead; rw [h2, Bool.and_false]; rfl)
      rw [h2] at HT
      clear h1 h2
      go_enter Try.func27, Try.ntmps27
      go_wp2_with fail
      refine (HS.out _).mono ?_
      rintro e w1 ⟨rfl, rfl⟩
      go_wp2_with fail
      refine (HT.out _).mono ?_
      rintro e w1 ⟨rfl, rfl⟩
      go_wp2
      go_ret
      exact ⟨ret_bool HO.out.symm, rfl⟩
    · rw [h2] at HT
      by_cases h3 : s.size = t.size
      · have HO : Hid (∀ b, ((List.range t.size).all fun i => decide (Tx.cB t i = 46 → Tx.cB s i = 46)) = b → okLead s t = b) := Lib.hid fun b hb => by unfold okLead; rw [h1, h2, decide_eq_true h3, hb]; rfl
        have hl := okF_len h2
        have hne : ((s.size : Int) != (t.size : Int)) = false := by rw [h3]; simp
        have HSZ := Lib.hid h3
        clear h1 h2 h3
        go_enter Try.func27, Try.ntmps27
        go_wp2_with fail
        refine (HS.out _).mono ?_
        rintro e w1 ⟨rfl, rfl⟩
        go_wp2_with fail
        refine (HT.out _).mono ?_
        rintro e w1 ⟨rfl, rfl⟩
        go_wp2
        go_loop [23] (fun v => ∃ i : Nat, i ≤ t.size ∧ v = .int .i64 (i : Int) ∧ Hid (Tx.leadsF (Tx.cB t) (Tx.cB s) i)) (fun v => t.size - (intOf v).toNat)
        case atStart => exact ⟨0, Nat.zero_le _, rfl, Lib.hid fun i hi => absurd hi (Nat.not_lt_zero i)⟩
        case round =>
          obtain ⟨i, hi, rfl, HL⟩ := hrel
          by_cases hlt : i < t.size
          · have hls : i < s.size := by have := HSZ.out; omega
            have ce : t[i].toNat = Tx.cB t i := (Tx.cB_at t i hlt).symm
            have de : s[i].toNat = Tx.cB s i := (Tx.cB_at s i hls).symm
            have i1 : (0 : Int) ≤ (i : Int) := by omega
            have i2 : (i : Int) < (t.size : Int) := by omega
            have i3 : (i : Int) < (s.size : Int) := by omega
            by_cases hc : Tx.cB t i = 46
            · have hq1 : ((t[i].toNat : Int) == 46) = true := by rw [ce, hc]; rfl
              by_cases hd : Tx.cB s i = 46
              · have hq2 : ((s[i].toNat : Int) != 46) = false := by rw [de, hd]; rfl
                have HN := Lib.hid (Tx.leads_succ HL.out fun _ => hd)
                clear hc hd ce de
                go_wp2
                go_round
                case rel => exact ⟨i + 1, by omega, by go_num, HN⟩
                case measure => simp [intOf]; omega
              · have hq2 : ((s[i].toNat : Int) != 46) = true := by rw [de, bne_iff_ne]; omega
                have HN : Hid (okLead s t = false) := Lib.hid (HO.out false (by
                  rw [← Bool.not_eq_true, leads_iff]
                  exact fun h => hd (h i hlt hc)))
                clear hc hd ce de
                go_wp2
                go_ret
                exact ⟨ret_bool HN.out.symm, rfl⟩
            · have hq1 : ((t[i].toNat : Int) == 46) = false := by rw [ce, beq_eq_false_iff_ne]; omega
              have HN := Lib.hid (Tx.leads_succ HL.out fun h => absurd h hc)
              clear hc ce de
              go_wp2
              go_round
              case rel => exact ⟨i + 1, by omega, by go_num, HN⟩
              case measure => simp [intOf]; omega
          · obtain rfl : i = t.size := by omega
            have HN : Hid (okLead s t = true) := Lib.hid (HO.out true (leads_iff.2 HL.out))
            go_wp2
            go_ret
            exact ⟨ret_bool HN.out.symm, rfl⟩
      · have HO : Hid (okLead s t = false) := Lib.hid (by unfold okLead; rw [decide_eq_false h3, Bool.and_false]; rfl)
        have hne : ((s.size : Int) != (t.size : Int)) = true := by rw [bne_iff_ne]; omega
        clear h1 h2 h3
        go_enter Try.func27, Try.ntmps27
        go_wp2_with fail
        refine (HS.out _).mono ?_
        rintro e w1 ⟨rfl, rfl⟩
        go_wp2_with fail
        refine (HT.out _).mono ?_
        rintro e w1 ⟨rfl, rfl⟩
        go_wp2
        go_ret
        exact ⟨ret_bool HO.out.symm, rfl⟩
theorem okLead_parts {s t : ByteArray} (h : okLead s t = true) : okFence s = true ∧ okFence t = true ∧ s.size = t.size ∧ Tx.leadsF (Tx.cB t) (Tx.cB s) t.size := by
  unfold okLead at h
  simp only [Bool.and_eq_true, decide_eq_true_iff] at h
  exact ⟨h.1.1.1, h.1.1.2, h.1.2, leads_iff.1 h.2⟩

set_option maxHeartbeats 1000000 in
theorem implFewestOver_any (s t : ByteArray) (w : World) (hs : s.size ≤ maxLen) (ht : t.size ≤ maxLen) :
    Calls Try.prog 10 #[.string s, .string t] w fun e w' => e = .returned (.tuple #[.int .i64 (foR s t), .bool (okLead s t)]) ∧ Below w.heap.size w w' := by
  have HC := Lib.hid (canLead_any s t w hs ht)
  cases h : okLead s t
  · rw [foR_no h]
    rw [h] at HC
    clear h
    go_enter Try.func10, Try.ntmps10
    go_wp2_with fail
    refine HC.out.mono ?_
    rintro e w1 ⟨rfl, rfl⟩
    go_wp2
    go_ret2
    exact ⟨rfl, Below.refl _ _⟩
  · rw [foR_yes h]
    obtain ⟨a1, a2, a3, a4⟩ := okLead_parts h
    obtain ⟨l1, l20⟩ := okF_len a2
    rw [h] at HC
    have HA := Lib.hid (Tx.strokesOfParts_any t w l1 l20)
    have HB := Lib.hid fun W => Tx.fewestByParts_any s t W l1 l20 a3
    obtain ⟨C, hC⟩ : ∃ C, C = Tx.tabA (Tx.cB t) t.size := ⟨_, rfl⟩
    rw [← hC] at HA HB
    clear h a1 a2 a3 a4 hC
    go_enter Try.func10, Try.ntmps10
    go_wp2_with fail
    refine HC.out.mono ?_
    rintro e w1 ⟨rfl, rfl⟩
    go_wp2_with fail
    refine HA.out.mono ?_
    rintro e w1 ⟨rfl, hb1⟩
    have HB1 := Lib.hid hb1
    clear hb1
    go_wp2_with fail
    refine (HB.out _).mono ?_
    rintro e w2 ⟨rfl, hb2⟩
    have HB2 := Lib.hid (fbelow_next HB1.out hb2)
    clear hb2
    go_wp2
    go_ret2
    exact ⟨rfl, HB2.out⟩
theorem stTwo_any (s t : ByteArray) (w : World) (hs : s.size ≤ maxLen) (ht : t.size ≤ maxLen) :
    Calls Try.prog 26 #[.string s, .string t] w fun e w' => e = .returned (.bool (okFence s && okFence t && decide (s.size = t.size))) ∧ w = w' := by
  have HS := Lib.hid fun W => stGood_any s W hs
  have HT := Lib.hid fun W => stGood_any t W ht
  cases h1 : okFence s
  · rw [h1] at HS
    clear h1
    go_enter Try.func26, Try.ntmps26
    go_wp2_with fail
    refine (HS.out _).mono ?_
    rintro e w1 ⟨rfl, rfl⟩
    go_wp2
    go_ret
    exact ⟨rfl, rfl⟩
  · rw [h1] at HS
    cases h2 : okFence t
    · rw [h2] at HT
      clear h1 h2
      go_enter Try.func26, Try.ntmps26
      go_wp2_with fail
      refine (HS.out _).mono ?_
      rintro e w1 ⟨rfl, rfl⟩
      go_wp2_with fail
      refine (HT.out _).mono ?_
      rintro e w1 ⟨rfl, rfl⟩
      go_wp2
      go_ret
      exact ⟨rfl, rfl⟩
    · rw [h2] at HT
      have HE : Hid (((s.size : Int) == (t.size : Int)) = decide (s.size = t.size)) := Lib.hid (by rw [Bool.eq_iff_iff, beq_iff_eq, decide_eq_true_iff]; omega)
      clear h1 h2
      go_enter Try.func26, Try.ntmps26
      go_wp2_with fail
      refine (HS.out _).mono ?_
      rintro e w1 ⟨rfl, rfl⟩
      go_wp2_with fail
      refine (HT.out _).mono ?_
      rintro e w1 ⟨rfl, rfl⟩
      go_wp2
      go_ret
      exact ⟨ret_bool (by rw [HE.out]; rfl), rfl⟩

set_option maxHeartbeats 1000000 in
theorem specFewestOver_any (s t : ByteArray) (w : World) (hs : s.size ≤ maxLen) (ht : t.size ≤ maxLen) :
    Calls Try.prog 9 #[.string s, .string t] w fun e w' => e = .returned (.tuple #[.int .i64 (foR s t), .bool (okLead s t)]) ∧ Below w.heap.size w w' := by
  have HC := Lib.hid (stTwo_any s t w hs ht)
  cases h : okFence s && okFence t && decide (s.size = t.size)
  · have HN : Hid (okLead s t = false) := Lib.hid (by unfold okLead; rw [h]; rfl)
    rw [HN.out, foR_no HN.out]
    rw [h] at HC
    clear h
    go_enter Try.func9, Try.ntmps9
    go_wp2_with fail
    refine HC.out.mono ?_
    rintro e w1 ⟨rfl, rfl⟩
    go_wp2
    go_ret2
    exact ⟨rfl, Below.refl _ _⟩
  · rw [h] at HC
    have hp := h
    simp only [Bool.and_eq_true, decide_eq_true_iff] at hp
    obtain ⟨l1, l20⟩ := okF_len hp.1.2
    have HO := Lib.hid (Tx.stOver_any s t w l1 l20 hp.2 (okF_128 hp.1.2))
    have HE : Hid (okLead s t = (List.range t.size).all fun i => decide (Tx.cB t i = 46 → Tx.cB s i = 46)) := Lib.hid (by unfold okLead; rw [h, Bool.true_and])
    cases hb : okLead s t
    · have HV : Hid (Tx.ovr (Tx.cB t) (Tx.cB s) t.size = -1) := Lib.hid (by unfold Tx.ovr; rw [if_neg (by rw [← HE.out, hb]; decide)])
      rw [foR_no hb]
      rw [HV.out] at HO
      clear h hp hb
      go_enter Try.func9, Try.ntmps9
      go_wp2_with fail
      refine HC.out.mono ?_
      rintro e w1 ⟨rfl, rfl⟩
      go_wp2_with fail
      refine HO.out.mono ?_
      rintro e w1 ⟨rfl, hb1⟩
      have HB1 := Lib.hid hb1
      clear hb1
      go_wp2
      go_ret2
      exact ⟨rfl, HB1.out⟩
    · have HV : Hid (Tx.ovr (Tx.cB t) (Tx.cB s) t.size = foR s t ∧ 0 ≤ foR s t) := Lib.hid (by
        rw [foR_yes hb]; unfold Tx.ovr; rw [if_pos (by rw [← HE.out, hb])]; exact ⟨rfl, Int.natCast_nonneg _⟩)
      rw [HV.out.1] at HO
      have h0 := HV.out.2
      obtain ⟨x, hx⟩ : ∃ x, x = foR s t := ⟨_, rfl⟩
      rw [← hx] at HO h0 ⊢
      clear h hp hb hx HV
      go_enter Try.func9, Try.ntmps9
      go_wp2_with fail
      refine HC.out.mono ?_
      rintro e w1 ⟨rfl, rfl⟩
      go_wp2_with fail
      refine HO.out.mono ?_
      rintro e w1 ⟨rfl, hb1⟩
      have HB1 := Lib.hid hb1
      clear hb1
      go_wp2
      go_ret2
      exact ⟨rfl, HB1.out⟩

/-- the fewest from bare boards -/
def fsR (t : ByteArray) : Int := if okFence t = true then foR (bareS t.size) t else 0
theorem bare_ok {n : Nat} (h1 : 1 ≤ n) (h20 : n ≤ 20) : okFence (bareS n) = true := by
  unfold okFence
  rw [bareS_size, decide_eq_true ⟨h1, h20⟩, Bool.true_and, bareS_list, List.all_eq_true]
  intro c hc
  rw [List.eq_of_mem_replicate hc]
  decide
theorem bare_lead {t : ByteArray} (h : okFence t = true) : okLead (bareS t.size) t = true := by
  obtain ⟨l1, l20⟩ := okF_len h
  unfold okLead
  rw [bare_ok l1 l20, h, decide_eq_true (bareS_size _)]
  simp only [Bool.true_and]
  rw [leads_iff]
  intro i hi _
  unfold Tx.cB
  rw [bareS_list, List.getD_eq_getElem?_getD, List.getElem?_replicate, if_pos hi]
  rfl
set_option maxHeartbeats 1000000 in
theorem implFewestStrokes_any (t : ByteArray) (w : World) (ht : t.size ≤ maxLen) :
    Calls Try.prog 8 #[.string t] w fun e w' => e = .returned (.tuple #[.int .i64 (fsR t), .bool (okFence t)]) ∧ Below w.heap.size w w' := by
  have HC := Lib.hid (implIsFence_any t w ht)
  cases h : okFence t
  · rw [show fsR t = 0 by unfold fsR; rw [h]; rfl]
    rw [h] at HC
    clear h
    go_enter Try.func8, Try.ntmps8
    go_wp2_with fail
    refine HC.out.mono ?_
    rintro e w1 ⟨rfl, rfl⟩
    go_wp2
    go_ret2
    exact ⟨rfl, Below.refl _ _⟩
  · rw [show fsR t = foR (bareS t.size) t by unfold fsR; rw [if_pos h]]
    obtain ⟨l1, l20⟩ := okF_len h
    have HB := Lib.hid (bareBoards_any t.size w l20)
    have HF := Lib.hid fun W => implFewestOver_any (bareS t.size) t W (by rw [bareS_size]; unfold maxLen; omega) ht
    rw [bare_lead h] at HF
    rw [h] at HC
    obtain ⟨B, hB⟩ : ∃ B, B = bareS t.size := ⟨_, rfl⟩
    obtain ⟨x, hx⟩ : ∃ x, x = foR (bareS t.size) t := ⟨_, rfl⟩
    rw [← hx] at HF ⊢
    rw [← hB] at HF HB
    have ht1 := ht
    unfold maxLen at ht1
    clear h hB hx
    go_enter Try.func8, Try.ntmps8
    go_wp2_with fail
    refine HC.out.mono ?_
    rintro e w1 ⟨rfl, rfl⟩
    go_wp2_with fail
    refine HB.out.mono ?_
    rintro e w1 ⟨rfl, hb1⟩
    have HB1 := Lib.hid hb1
    clear hb1
    go_wp2_with fail
    refine (HF.out _).mono ?_
    rintro e w2 ⟨rfl, hb2⟩
    have HB2 := Lib.hid (fbelow_next HB1.out hb2)
    clear hb2
    go_wp2
    go_ret2
    exact ⟨rfl, HB2.out⟩
set_option maxHeartbeats 1000000 in
theorem specFewestStrokes_any (t : ByteArray) (w : World) (ht : t.size ≤ maxLen) :
    Calls Try.prog 7 #[.string t] w fun e w' => e = .returned (.tuple #[.int .i64 (fsR t), .bool (okFence t)]) ∧ Below w.heap.size w w' := by
  have HC := Lib.hid (stGood_any t w ht)
  cases h : okFence t
  · rw [show fsR t = 0 by unfold fsR; rw [h]; rfl]
    rw [h] at HC
    clear h
    go_enter Try.func7, Try.ntmps7
    go_wp2_with fail
    refine HC.out.mono ?_
    rintro e w1 ⟨rfl, rfl⟩
    go_wp2
    go_ret2
    exact ⟨rfl, Below.refl _ _⟩
  · rw [show fsR t = foR (bareS t.size) t by unfold fsR; rw [if_pos h]]
    obtain ⟨l1, l20⟩ := okF_len h
    have HB := Lib.hid (stBare_any t.size w l20)
    have HF := Lib.hid (Tx.stOver_any (bareS t.size) t w l1 l20 (bareS_size _) (okF_128 h))
    have HV : Hid (Tx.ovr (Tx.cB t) (Tx.cB (bareS t.size)) t.size = foR (bareS t.size) t) := Lib.hid (by
      rw [foR_yes (bare_lead h)]; exact Tx.ovr_yes (okLead_parts (bare_lead h)).2.2.2)
    rw [HV.out] at HF
    rw [h] at HC
    obtain ⟨B, hB⟩ : ∃ B, B = bareS t.size := ⟨_, rfl⟩
    obtain ⟨x, hx⟩ : ∃ x, x = foR (bareS t.size) t := ⟨_, rfl⟩
    rw [← hx] at HF ⊢
    rw [← hB] at HF HB
    have ht1 := ht
    unfold maxLen at ht1
    clear h hB hx HV
    go_enter Try.func7, Try.ntmps7
    go_wp2_with fail
    refine HC.out.mono ?_
    rintro e w1 ⟨rfl, rfl⟩
    go_wp2_with fail
    refine HB.out.mono ?_
    rintro e w1 ⟨rfl, rfl⟩
    go_wp2_with fail
    refine HF.out.mono ?_
    rintro e w2 ⟨rfl, hb2⟩
    have HB2 := Lib.hid hb2
    clear hb2
    go_wp2
    go_ret2
    exact ⟨rfl, HB2.out⟩
end Go.Proofs.Ytohmodjigneldaa
