/- KeptBoards of both sides. No condition but the texts' lengths. -/
import Derived.Test.YtohmodjigneldaaKeptMath
namespace Go.Proofs.Ytohmodjigneldaa
open Go.RowKit

theorem keptR_no {s t : ByteArray} (h : okFi s t = false) : keptR s t = [] := by unfold keptR; rw [h]; rfl
theorem keptR_yes {s t : ByteArray} (h : okFi s t = true) : keptR s t = keptJ (fiR s t) t.size := by unfold keptR; rw [if_pos h]
theorem okFi_parts {s t : ByteArray} (h : okFi s t = true) : okLead s t = true ∧ t.size ≤ 12 := by
  unfold okFi at h; rw [Bool.and_eq_true, decide_eq_true_iff] at h; exact h
theorem stFirst_fi (s t : ByteArray) (w : World) (h : okFi s t = true) :
    Calls Try.prog 30 #[.string s, .string t] w fun e w' => ∃ v, e = .returned (.tuple #[v, .bool true]) ∧ w'.ownsRow w.heap.size 45 3 v (fiR s t).length (strkCells (fiR s t)) ∧ Below w.heap.size w w' := by
  rw [fiR_yes h, foL_len]
  exact stFirst_yes s t w (okFi_parts h).1

set_option maxRecDepth 20000 in
set_option maxHeartbeats 2000000 in
theorem specKeptBoards_any (s t : ByteArray) (w : World) (hs : s.size ≤ maxLen) (ht : t.size ≤ maxLen) :
    Calls Try.prog 16 #[.string s, .string t] w fun e w' => ∃ v, e = .returned (.tuple #[v, .bool (okFi s t)]) ∧ OwnInts w' w.heap.size 3 v (keptR s t) ∧ Below w.heap.size w w' := by
  have HC := Lib.hid (stTwo_any s t w hs ht)
  cases hok : okFi s t
  · rw [keptR_no hok]
    cases h : okFence s && okFence t && decide (s.size = t.size)
    · rw [h] at HC
      clear h hok
      go_enter Try.func16, Try.ntmps16
      go_wp2_with fail
      refine HC.out.mono ?_
      rintro e w1 ⟨rfl, rfl⟩
      go_wp2
      go_ret2
      exact ⟨_, rfl, OwnInts.nil _ _ _, Below.refl _ _⟩
    · rw [h] at HC
      simp only [Bool.and_eq_true, decide_eq_true_iff] at h
      by_cases h12 : t.size ≤ 12
      · have hle : ¬ (12 : Int) < (t.size : Int) := by omega
        have hl : okLead s t = false := by
          cases hl : okLead s t
          · rfl
          · unfold okFi at hok; rw [hl, decide_eq_true h12] at hok; cases hok
        have HF := Lib.hid (stFirst_no s t w h.1.1 h.1.2 h.2 hl)
        clear h hl hok h12
        go_enter Try.func16, Try.ntmps16
        go_wp2_with fail
        refine HC.out.mono ?_
        rintro e w1 ⟨rfl, rfl⟩
        go_wp2_with fail
        refine HF.out.mono ?_
        rintro e w1 ⟨v, rfl, ho, hb⟩
        go_wp2
        go_ret2
        exact ⟨_, rfl, OwnInts.nil _ _ _, hb⟩
      · have hle : (12 : Int) < (t.size : Int) := by omega
        clear h hok h12
        go_enter Try.func16, Try.ntmps16
        go_wp2_with fail
        refine HC.out.mono ?_
        rintro e w1 ⟨rfl, rfl⟩
        go_wp2
        go_ret2
        exact ⟨_, rfl, OwnInts.nil _ _ _, Below.refl _ _⟩
  · rw [keptR_yes hok]
    obtain ⟨i0, hi, hz0, hz1, hz2⟩ := info_parts info_int
    obtain ⟨hl, h12⟩ := okFi_parts hok
    obtain ⟨ps, pt, pst, -⟩ := okLead_parts hl
    rw [ps, pt, decide_eq_true pst] at HC
    have HF := Lib.hid (stFirst_fi s t w hok)
    have hlen := fiR_len s t
    have HAT := fiR_ok hok
    obtain ⟨h1, h20⟩ := okF_len pt
    obtain ⟨L, hL⟩ : ∃ L, L = fiR s t := ⟨_, rfl⟩
    rw [← hL] at HF hlen ⊢
    have HCO := Lib.hid fun A cap W hW => stCoats_any t.size A cap L W h1 h20 (by omega) (by rw [hL]; exact HAT) hW
    have hle : ¬ (12 : Int) < (t.size : Int) := by omega
    clear HAT hL hl ps pt pst hok
    go_enter Try.func16, Try.ntmps16
    go_wp2_with fail
    refine HC.out.mono ?_
    rintro e w1 ⟨rfl, rfl⟩
    go_wp2_with fail
    refine HF.out.mono ?_
    rintro e w1 ⟨v, rfl, ho, hb⟩
    obtain ⟨A, c, rfl⟩ := own_any ho
    have HSL := Lib.hid (StrkSl.of_own ho)
    have HB1 := Lib.hid hb
    clear ho hb
    go_wp2_with fail
    refine (HCO.out A c _ HSL.out).mono ?_
    rintro e w2 ⟨g, rfl, hrow, hb⟩
    have HR := Lib.hid hrow
    have HB2 := Lib.hid (fbelow_next HB1.out hb)
    clear hrow hb HCO HSL HB1
    go_wp2
    go_loopw [8, 33] (fun v i wr => ∃ j : Nat, j ≤ t.size ∧ i = .int .i64 (j : Int) ∧ OwnInts wr w2.heap.size 3 v (keptJ L j) ∧ Below w2.heap.size w2 wr) (fun _ i _ => t.size - (intOf i).toNat)
    case atStart => exact ⟨0, Nat.zero_le _, rfl, OwnInts.nil _ _ _, Below.refl _ _⟩
    case round =>
      obtain ⟨j, hj, rfl, hown, hb⟩ := hrel
      have HO := Lib.hid hown
      clear hown
      by_cases hlt : j < t.size
      · have hc := (HR.out.below hb).cell j hlt
        have j0 : (0 : Int) ≤ (j : Int) := by omega
        have j1 : (j : Int) < (t.size : Int) := by omega
        obtain ⟨V, hV⟩ : ∃ V, V = coatF L L.length j := ⟨_, rfl⟩
        rw [← hV] at hc
        by_cases hz : V = 0
        · have HN := Lib.hid (keptJ_yes (L := L) (j := j) (by unfold keptB; rw [← hV, hz]; rfl))
          have hq : (V == 0) = true := by rw [hz]; rfl
          have hkl := keptJ_len L j
          have hbs := hb.size
          clear hV hz
          go_wp2_with (at_builtin; refine wpList_append_own _ rfl (.tmp 40) (.tmp 42) _ rfl w2.heap.size 3 i0 _ 1 8 Try.underlying32 hi hz0 hz1 hz2 rfl (by decide) _ (keptJ L j).length ((keptJ L j).map (Value.int .i64)) rfl (World.ownsRow.alloc HO.out _) ⟨wr.heap.size, 0, none⟩ 1 1 [.int .i64 (j : Int)] rfl rfl (World.news_of_block (cs := #[.int .i64 (j : Int)]) (t := 3) (fr := (0, 0)) (heap_alloc_new wr _)) (by simp [Value.oneCell']) (by unfold maxLen; omega) (by omega) (by simp; omega) ?_; intro v' w3 hown' hgrow _)
          have HR3 : Hid (OwnInts w3 w2.heap.size 3 v' (keptJ L (j + 1))) := Lib.hid (by rw [HN.out]; exact OwnInts.snoc hown')
          have HB3 : Hid (Below w2.heap.size w2 w3) := Lib.hid ((hb.alloc hbs _).grown hgrow (by simp; omega) fun k hk => (World.ownsRow.lt HO.out k hk).1)
          clear hown' hgrow
          go_wp2
          go_roundw
          case rel => exact ⟨j + 1, by omega, by go_num, HR3.out, HB3.out⟩
          case measure => simp [intOf]; omega
        · have HN := Lib.hid (keptJ_no (L := L) (j := j) (by unfold keptB; rw [← hV]; exact decide_eq_false hz))
          have hq : (V == 0) = false := by rw [beq_eq_false_iff_ne]; exact hz
          clear hV hz
          go_wp2
          go_roundw
          case rel => exact ⟨j + 1, by omega, by go_num, by rw [HN.out]; exact HO.out, hb⟩
          case measure => simp [intOf]; omega
      · obtain rfl : j = t.size := by omega
        go_wp2
        go_ret2
        exact ⟨_, rfl, own_mono HO.out HB2.out.size, fbelow_next HB2.out hb⟩

set_option maxRecDepth 20000 in
set_option maxHeartbeats 2000000 in
theorem implKeptBoards_any (s t : ByteArray) (w : World) (hs : s.size ≤ maxLen) (ht : t.size ≤ maxLen) :
    Calls Try.prog 17 #[.string s, .string t] w fun e w' => ∃ v, e = .returned (.tuple #[v, .bool (okFi s t)]) ∧ OwnInts w' w.heap.size 3 v (keptR s t) ∧ Below w.heap.size w w' := by
  have HF := Lib.hid (implFirstOver_any s t w hs ht)
  cases hok : okFi s t
  · rw [keptR_no hok]
    rw [hok] at HF
    clear hok
    go_enter Try.func17, Try.ntmps17
    go_wp2_with fail
    refine HF.out.mono ?_
    rintro e w1 ⟨v, rfl, ho, hb⟩
    go_wp2
    go_ret2
    exact ⟨_, rfl, OwnInts.nil _ _ _, hb⟩
  · rw [keptR_yes hok]
    rw [hok] at HF
    obtain ⟨i0, hi, hz0, hz1, hz2⟩ := info_parts info_int
    obtain ⟨hl, h12⟩ := okFi_parts hok
    have hlen := fiR_len s t
    have HAT := fiR_ok hok
    obtain ⟨L, hL⟩ : ∃ L, L = fiR s t := ⟨_, rfl⟩
    rw [← hL] at HF hlen ⊢
    obtain ⟨C, hC⟩ : ∃ C, C = (rowF 20 (coatF L L.length)).toArray := ⟨_, rfl⟩
    have HCO : Hid (∀ A cap W, StrkSl W A L → Calls Try.prog 36 #[.slice A L.length cap] W fun e w' => e = .returned (.agg C) ∧ Below W.heap.size W w') := Lib.hid fun A cap W hW => by
      rw [hC]; exact countCoats_any t.size A cap L W (by omega) (by omega) (by rw [hL]; exact HAT) hW
    have hi20 : (Try.prog.info? 50).map (·.size) = some 20 := by kernel_rfl
    have HIL : Hid ((Try.prog.info? 50).map (·.size) = some C.size) := Lib.hid (by rw [hi20, hC]; simp [rowF_len])
    have HIS : Hid (20 = C.size) := Lib.hid (by rw [hC]; simp [rowF_len])
    have HO1 : Hid (C.all (·.oneCell') = true) := Lib.hid (by
      rw [hC]
      exact all_oneCell_toArray fun v hv => by unfold rowF at hv; obtain ⟨i, _, rfl⟩ := List.mem_map.1 hv; rfl)
    have HCC := Lib.hid hC
    clear hi20 HAT hL hl hok hC
    go_enter Try.func17, Try.ntmps17
    go_wp2_with fail
    refine HF.out.mono ?_
    rintro e w1 ⟨v, rfl, ho, hb⟩
    obtain ⟨A, c, rfl⟩ := own_any ho
    have HSL := Lib.hid (StrkSl.of_own ho)
    have HB1 := Lib.hid hb
    clear ho hb
    go_wp2_with fail
    refine (HCO.out A c _ HSL.out).mono ?_
    rintro e w2 ⟨rfl, hb⟩
    have HB2 := Lib.hid (fbelow_next HB1.out hb)
    clear hb HCO HSL HB1 HF
    go_wp2_with (refine wpList_store_row rfl 50 (.tmp 8) (.tmp 20) rfl w2.heap.size C rfl rfl 50 _ (heap_alloc_new w2 _) HIL.out HIS.out HO1.out ?_)
    generalize hwS : World.setRow _ _ _ = wS
    have HRS : Hid (RowIs wS 50 w2.heap.size w2.heap.size 20 (coatF L L.length)) := Lib.hid (by
      rw [← hwS]
      refine RowIs.of_block ?_ (Nat.le_refl _) (by unfold maxLen; omega)
      rw [← HCC.out]
      exact setRow_heap _ w2.heap.size _ _ 50 (0, 0) (heap_alloc_new w2 _))
    have HBS : Hid (Below w.heap.size w wS) := Lib.hid (by
      rw [← hwS]; exact below_setRow (HB2.out.alloc HB2.out.size _) HB2.out.size)
    clear hwS HCC HIL HIS HO1
    go_loopw [9, 23] (fun v i wr => ∃ j : Nat, j ≤ t.size ∧ i = .int .i64 (j : Int) ∧ OwnInts wr wS.heap.size 3 v (keptJ L j) ∧ Below wS.heap.size wS wr) (fun _ i _ => t.size - (intOf i).toNat)
    case atStart => exact ⟨0, Nat.zero_le _, rfl, OwnInts.nil _ _ _, Below.refl _ _⟩
    case round =>
      obtain ⟨j, hj, rfl, hown, hb⟩ := hrel
      have HO := Lib.hid hown
      clear hown
      by_cases hlt : j < t.size
      · have hc := (HRS.out.below hb).cell j (by omega)
        have j0 : (0 : Int) ≤ (j : Int) := by omega
        have j1 : (j : Int) < 20 := by omega
        obtain ⟨V, hV⟩ : ∃ V, V = coatF L L.length j := ⟨_, rfl⟩
        rw [← hV] at hc
        by_cases hz : V = 0
        · have HN := Lib.hid (keptJ_yes (L := L) (j := j) (by unfold keptB; rw [← hV, hz]; rfl))
          have hq : (V == 0) = true := by rw [hz]; rfl
          have hkl := keptJ_len L j
          have hbs := hb.size
          clear hV hz
          go_wp2_with (at_builtin; refine wpList_append_own _ rfl (.tmp 30) (.tmp 32) _ rfl wS.heap.size 3 i0 _ 1 8 Try.underlying32 hi hz0 hz1 hz2 rfl (by decide) _ (keptJ L j).length ((keptJ L j).map (Value.int .i64)) rfl (World.ownsRow.alloc HO.out _) ⟨wr.heap.size, 0, none⟩ 1 1 [.int .i64 (j : Int)] rfl rfl (World.news_of_block (cs := #[.int .i64 (j : Int)]) (t := 3) (fr := (0, 0)) (heap_alloc_new wr _)) (by simp [Value.oneCell']) (by unfold maxLen; omega) (by omega) (by simp; omega) ?_; intro v' w3 hown' hgrow _)
          have HR3 : Hid (OwnInts w3 wS.heap.size 3 v' (keptJ L (j + 1))) := Lib.hid (by rw [HN.out]; exact OwnInts.snoc hown')
          have HB3 : Hid (Below wS.heap.size wS w3) := Lib.hid ((hb.alloc hbs _).grown hgrow (by simp; omega) fun k hk => (World.ownsRow.lt HO.out k hk).1)
          clear hown' hgrow
          go_wp2
          go_roundw
          case rel => exact ⟨j + 1, by omega, by go_num, HR3.out, HB3.out⟩
          case measure => simp [intOf]; omega
        · have HN := Lib.hid (keptJ_no (L := L) (j := j) (by unfold keptB; rw [← hV]; exact decide_eq_false hz))
          have hq : (V == 0) = false := by rw [beq_eq_false_iff_ne]; exact hz
          clear hV hz
          go_wp2
          go_roundw
          case rel => exact ⟨j + 1, by omega, by go_num, by rw [HN.out]; exact HO.out, hb⟩
          case measure => simp [intOf]; omega
      · obtain rfl : j = t.size := by omega
        go_wp2
        go_ret2
        exact ⟨_, rfl, own_mono HO.out HBS.out.size, fbelow_next HBS.out hb⟩
end Go.Proofs.Ytohmodjigneldaa
