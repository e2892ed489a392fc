/- LongestRun: the model's function, and the law's walk. No condition but the text's length. -/
import Derived.Test.YtcgkjhomjdgmhaaLong
namespace Go.Proofs.Ytcgkjhomjdgmhaa
open Go.RowKit Go.Maps

theorem resR_yes {s : ByteArray} (h : okFence s = true) : resR s = (runsL s s.size).filter nbR := by unfold resR; rw [if_pos h]; rfl
theorem longA_some {L : List Strk} {F M : Int} (h : longF L L.length = (F, M)) (h0 : 0 < M) : longA L = #[.int .i64 F, .int .i64 M, .bool true] := by unfold longA; rw [h]; simp [h0]
theorem longA_none {L : List Strk} {F : Int} (h : longF L L.length = (F, 0)) (hF : F = 0) : longA L = #[.int .i64 0, .int .i64 0, .bool false] := by unfold longA; rw [h, hF]; rfl
theorem ret_tup3 {x y : Array Value} (h : x = y) : Ending.returned (.tuple x) = .returned (.tuple y) := by rw [h]

set_option maxHeartbeats 1600000 in
theorem specLongest_yes (s : ByteArray) (w : World) (hs : s.size ≤ maxLen) (hok : okFence s = true) :
    Calls Try.prog 47 #[.string s] w fun e w' => e = .returned (.tuple (longA (resR s))) ∧ Below w.heap.size w w' := by
  obtain ⟨h1, h20⟩ := okFence_size hok
  rw [resR_yes hok]
  have hpos := runsL_pos h1
  have hle := runsL_le h1
  have hsm := runsL_small s s.size h20
  have HR0 := Lib.hid fun W => stRuns_any s W h20
  have H := Lib.hid hok
  obtain ⟨L, hL⟩ : ∃ L, L = runsL s s.size := ⟨_, rfl⟩
  rw [← hL] at hpos hle hsm HR0 ⊢
  have HLG := Lib.hid (longG_ok hsm)
  have HSM := Lib.hid fun j (h : j < L.length) => hsm L[j] (List.getElem_mem h)
  have HEQ := Lib.hid (long_eq L)
  clear hL hsm hok
  go_enter Try.func47, Try.ntmps47
  go_wp2_with (first
    | (go_at_call 95; refine (stGood_any s _ hs).mono ?_; rintro e w' ⟨rfl, rfl⟩; rw [H.out])
    | (go_at_call 98; refine (HR0.out _).mono ?_; rintro e w1 ⟨v, rfl, hown, hb⟩; obtain ⟨g, c, rfl, -, hg⟩ := own_some hown hpos; have HO := Lib.hid hown; have HB1 := Lib.hid hb; clear hown hb))
  go_loopw [5, 6, 15] (fun a m i wr => ∃ j : Nat, j ≤ L.length ∧ i = .int .i64 j ∧ a = .int .i64 (longG L j).1 ∧ m = .int .i64 (longG L j).2 ∧ Below w1.heap.size w1 wr) (fun _ _ i _ => L.length - (intOf i).toNat)
  case atStart => exact ⟨0, Nat.zero_le _, rfl, rfl, rfl, Below.refl _ _⟩
  case round =>
    obtain ⟨j, hj, rfl, rfl, rfl, hb⟩ := hrel
    have hok := HLG.out j hj
    by_cases hlt : j < L.length
    · obtain ⟨k1, k2, k3⟩ := strkCells_at L j hlt
      have d1 := (hb.cell (p := ⟨g, j * 3, none⟩) hg).trans ((HO.out.cellAt _ (by omega)).trans k1)
      have d2 := (hb.cell (p := ⟨g, j * 3 + 1, none⟩) hg).trans ((HO.out.cellAt _ (by omega)).trans k2)
      have d3 := (hb.cell (p := ⟨g, j * 3 + 2, none⟩) hg).trans ((HO.out.cellAt _ (by omega)).trans k3)
      clear k1 k2 k3
      have hbs := hb.size
      have HS := Lib.hid (longG_succ hlt)
      have hx := HSM.out j hlt
      unfold Small at hx
      obtain ⟨F, hF⟩ : ∃ F, F = (longG L j).1 := ⟨_, rfl⟩
      obtain ⟨M, hM⟩ : ∃ M, M = (longG L j).2 := ⟨_, rfl⟩
      obtain ⟨f, hf⟩ : ∃ f, f = L[j].f := ⟨_, rfl⟩
      obtain ⟨t, ht⟩ : ∃ t, t = L[j].t := ⟨_, rfl⟩
      have HE : Hid (longG L (j + 1) = if nbR L[j] = true then (if M < t - f + 1 then (f, t - f + 1) else (F, M)) else (F, M)) := Lib.hid (by rw [HS.out, hM, hF, hf, ht]; rfl)
      rw [← hF, ← hM] at hok ⊢
      rw [← hf, ← ht] at hx
      rw [← hf] at d1
      rw [← ht] at d2
      clear hF hM hf ht HS
      cases hn : nbR L[j]
      · have HE1 : Hid (longG L (j + 1) = (F, M)) := Lib.hid (by rw [HE.out, hn]; rfl)
        have hq : (L[j].c.toList == [46]) = true := by unfold nbR at hn; simpa using hn
        clear hn
        go_wp2
        go_roundw
        case rel => exact ⟨j + 1, by omega, by go_num, by rw [HE1.out], by rw [HE1.out], hb.alloc hbs _⟩
        case measure => simp [intOf]; omega
      · have hq : (L[j].c.toList == [46]) = false := by unfold nbR at hn; simpa using hn
        by_cases hc : M < t - f + 1
        · have HE1 : Hid (longG L (j + 1) = (f, t - f + 1)) := Lib.hid (by rw [HE.out, hn, if_pos rfl, if_pos hc])
          clear hn
          go_wp2
          go_roundw
          case rel => exact ⟨j + 1, by omega, by go_num, by rw [HE1.out], by rw [HE1.out], hb.alloc hbs _⟩
          case measure => simp [intOf]; omega
        · have HE1 : Hid (longG L (j + 1) = (F, M)) := Lib.hid (by rw [HE.out, hn, if_pos rfl, if_neg hc])
          clear hn
          go_wp2
          go_roundw
          case rel => exact ⟨j + 1, by omega, by go_num, by rw [HE1.out], by rw [HE1.out], hb.alloc hbs _⟩
          case measure => simp [intOf]; omega
    · obtain rfl : j = L.length := by omega
      obtain ⟨F, hF⟩ : ∃ F, F = (longG L L.length).1 := ⟨_, rfl⟩
      obtain ⟨M, hM⟩ : ∃ M, M = (longG L L.length).2 := ⟨_, rfl⟩
      have HE : Hid (longF (L.filter nbR) (L.filter nbR).length = (F, M)) := Lib.hid (by rw [HEQ.out, hF, hM])
      rw [← hF, ← hM] at hok ⊢
      clear hF hM
      by_cases h0 : M = 0
      · have HA := Lib.hid (longA_none (by rw [HE.out, h0]) (hok.2.2.2.2 h0))
        subst h0
        go_wp2
        go_ret3
        exact ⟨ret_tup3 HA.out.symm, below_next HB1.out hb⟩
      · have HA := Lib.hid (longA_some HE.out (by omega))
        have hp : (M == 0) = false := by rw [beq_eq_false_iff_ne]; exact h0
        clear h0
        go_wp2
        go_ret3
        exact ⟨ret_tup3 HA.out.symm, below_next HB1.out hb⟩

theorem specLongest_any (s : ByteArray) (w : World) (hs : s.size ≤ maxLen) :
    Calls Try.prog 47 #[.string s] w fun e w' => e = .returned (.tuple (longA (resR s))) ∧ Below w.heap.size w w' := by
  cases h : okFence s
  · rw [show resR s = [] by unfold resR; rw [h]; rfl]
    have H := Lib.hid h; clear h
    go_enter Try.func47, Try.ntmps47
    go_wp2_with (go_at_call 95; refine (stGood_any s _ hs).mono ?_; rintro e w' ⟨rfl, rfl⟩; rw [H.out])
    go_ret3
    exact ⟨rfl, Below.refl _ _⟩
  · exact specLongest_yes s w hs h

theorem lawLongestRun_walk (s : ByteArray) (w : World) (hs : s.size ≤ maxLen) :
    Calls Try.prog 19 #[.string s] w fun e w' => e = .returned (.bool true) ∧ Below w.heap.size w w' := by
  have hs0 := hs
  unfold maxLen at hs
  have S := fun W : World => specLongest_any s W hs0
  have I := fun W : World => implLongest_any s W hs0
  obtain ⟨p, q, r, hp⟩ : ∃ (p q : Int) (r : Bool), longA (resR s) = #[.int .i64 p, .int .i64 q, .bool r] := ⟨_, _, _, rfl⟩
  rw [hp] at S I
  clear hp
  have HS := Lib.hid S
  have HI := Lib.hid I
  clear S I
  by_cases h : s.size ≤ 1048576
  · go_enter Try.func19, Try.ntmps19
    go_wp2_with (first
      | (go_at_call 47; refine (HS.out _).mono ?_; rintro e w1 ⟨rfl, hb⟩)
      | (go_at_call 46; refine (HI.out _).mono ?_; rintro e w1 ⟨rfl, hb1⟩))
    go_ret
    exact ⟨rfl, below_next hb hb1⟩
  · go_enter Try.func19, Try.ntmps19
    go_wp2
    go_ret
    exact ⟨rfl, Below.refl _ _⟩
end Go.Proofs.Ytcgkjhomjdgmhaa
