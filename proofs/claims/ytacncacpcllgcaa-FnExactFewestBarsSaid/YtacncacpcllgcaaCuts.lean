/- RestsOfCut of the program. No condition but the lists' lengths. -/
import Derived.Test.YtacncacpcllgcaaCutMath
import Derived.StillTailTactics
namespace Go.Proofs.Ytacncacpcllgcaa
open Go.RowKit

set_option maxHeartbeats 1000000 in
theorem slIndex_any (A : Option Addr) (c : Nat) (R : List Int) (b : Int) (w : World) (hm : R.length ≤ 1048576) (h : IntSl w A R) :
    Calls Try.prog 122 #[.slice A R.length c, .int .i64 b] w fun e w' => (∃ x : Int, e = .returned (.int .i64 x) ∧ (0 ≤ x ↔ b ∈ R)) ∧ w = w' := by
  rcases Nat.eq_zero_or_pos R.length with h0 | h0
  · obtain rfl : R = [] := List.eq_nil_of_length_eq_zero h0
    clear h h0 hm
    go_enter Try.func122, Try.ntmps122
    go_wp2
    refine wp_loop_rounds 1 ?_
    rw [rounds_succ]
    go_wp2
    go_ret
    exact ⟨⟨-1, rfl, by simp⟩, rfl⟩
  · obtain ⟨g, off, rfl, -, hat⟩ := h.some h0
    have HAT := Lib.hid hat
    clear hat h
    go_enter Try.func122, Try.ntmps122
    go_wp2
    go_loop [5, 8] (fun _ i => ∃ k : Nat, k ≤ R.length ∧ i = .int .i64 k ∧ Hid (b ∉ R.take k)) (fun _ i => R.length - (intOf i).toNat)
    case atStart => exact ⟨0, Nat.zero_le _, rfl, Lib.hid (by simp)⟩
    case round =>
      obtain ⟨k, hk, rfl, HN⟩ := hrel
      by_cases hlt : k < R.length
      · have c1 := HAT.out k hlt
        have HM : Hid (R[k] ∈ R) := Lib.hid (List.getElem_mem hlt)
        have HT : Hid (b ≠ R[k] → b ∉ R.take (k + 1)) := Lib.hid fun hne => by
          rw [List.take_succ_eq_append_getElem hlt, List.mem_append, List.mem_singleton]
          exact fun h => h.elim HN.out hne
        obtain ⟨x, hx⟩ : ∃ x, x = R[k] := ⟨_, rfl⟩
        rw [← hx] at c1 HM HT
        have hk0 : (0 : Int) ≤ (k : Int) := by omega
        clear hx
        by_cases he : b = x
        · have hb : (b == x) = true := by rw [beq_iff_eq]; exact he
          have HV : Hid (0 ≤ (k : Int) ↔ b ∈ R) := Lib.hid ⟨fun _ => by rw [he]; exact HM.out, fun _ => hk0⟩
          have HB := Lib.hid hb
          subst he
          clear hb
          go_wp2
          go_ret
          exact ⟨⟨_, rfl, HV.out⟩, rfl⟩
        · have hb : (b == x) = false := by rw [beq_eq_false_iff_ne]; exact he
          have HV := Lib.hid (HT.out he)
          clear he HT HM
          go_wp2
          go_round
          case rel => exact ⟨k + 1, by omega, by go_num, HV⟩
          case measure => simp [intOf]; omega
      · obtain rfl : k = R.length := by omega
        rw [List.take_length] at HN
        go_wp2
        go_ret
        exact ⟨⟨-1, rfl, ⟨fun h => absurd h (by decide), fun h => absurd h HN.out⟩⟩, rfl⟩
theorem contains_any (A : Option Addr) (c : Nat) (R : List Int) (b : Int) (w : World) (hm : R.length ≤ 1048576) (h : IntSl w A R) :
    Calls Try.prog 93 #[.slice A R.length c, .int .i64 b] w fun e w' => e = .returned (.bool (decide (b ∈ R))) ∧ w = w' := by
  have HI := Lib.hid (slIndex_any A c R b w hm h)
  go_enter Try.func93, Try.ntmps93
  go_wp2_with fail
  refine HI.out.mono ?_
  rintro e w1 ⟨⟨x, rfl, hx⟩, rfl⟩
  have HX := Lib.hid hx
  clear hx HI
  go_wp2
  go_ret
  exact ⟨ret_bool (decide_eq_decide.2 HX.out), rfl⟩
theorem barsOf_any (A : Option Addr) (c : Nat) (S : List Int) (m : Nat) (w : World) (h0 : 0 < S.length) (hm : S.length ≤ 1048576) (h : IntSl w A S) (hb : (m : Int) = Lib.maxOf S + 1) (hm8 : m ≤ 8) :
    Calls Try.prog 92 #[.slice A S.length c] w fun e w' => e = .returned (.int .i64 m) ∧ w = w' := by
  have HX := Lib.hid (slMax_any A c S w h0 hm h)
  obtain ⟨x, hx⟩ : ∃ x, x = Lib.maxOf S := ⟨_, rfl⟩
  rw [← hx] at HX hb
  have HB := Lib.hid hb
  have hx1 : -1 ≤ x := by omega
  have hx2 : x ≤ 7 := by omega
  clear hx hb
  go_enter Try.func92, Try.ntmps92
  go_wp2_with fail
  refine HX.out.mono ?_
  rintro e w1 ⟨rfl, rfl⟩
  go_wp2
  go_ret
  exact ⟨ret_int HB.out.symm, rfl⟩

theorem restA_lit (F : Nat → Int) : restA F = #[.int .i64 (F 0), .int .i64 (F 1), .int .i64 (F 2), .int .i64 (F 3), .int .i64 (F 4), .int .i64 (F 5), .int .i64 (F 6), .int .i64 (F 7)] := rfl

set_option maxRecDepth 100000 in
set_option maxHeartbeats 4000000 in
theorem implRests_yes (A0 : Option Addr) (c0 : Nat) (L : List Int) (bar : Int) (A2 : Option Addr) (c2 : Nat) (S : List Int) (w : World) (hr : okRa L = true) (hb : okL bar = true) (hS : S.length = L.length) (h0 : IntSl w A0 L) (h2 : IntSl w A2 S) :
    Calls Try.prog 53 #[.slice A0 L.length c0, .int .i64 bar, .slice A2 S.length c2] w fun e w' => ∃ A c c', e = .returned (.tuple #[.slice A (cutL bar L S).length c, .bool (isCutB bar L S)]) ∧ OwnInts w' w.heap.size 63 (.slice A (cutL bar L S).length c') (cutL bar L S) ∧ Below w.heap.size w w' := by
  obtain ⟨hl1, hl8⟩ := okRa_len hr
  have HLX := Lib.hid (okRa_mem hr)
  have hbb := okL_at hb
  have HG := Lib.hid (implRails_any A0 c0 L w (by omega) h0)
  have HA := Lib.hid fun W A h => areL1_any bar W A h
  rw [hr] at HG
  rw [hb] at HA
  have H2 := Lib.hid (one_sl w bar 3)
  have HB := Lib.hid (below_new w (.cells #[.int .i64 bar] 3))
  obtain ⟨C, hC⟩ : ∃ C, C = restA fun _ => bar := ⟨_, rfl⟩
  have HW : Hid (∀ W, Calls Try.prog 90 #[.int .i64 bar] W fun e w' => e = .returned (.agg C) ∧ Below W.heap.size W w') := Lib.hid fun W => by rw [hC]; exact wholeBars_any bar W
  have HIL : Hid ((Try.prog.info? 63).map (·.size) = some C.size) := Lib.hid (by rw [info_rests, hC]; simp [restA, rowF_len])
  have HIS : Hid (8 = C.size) := Lib.hid (by rw [hC]; simp [restA, rowF_len])
  have HO1 : Hid (C.all (·.oneCell') = true) := Lib.hid (by rw [hC]; exact rowF_one 8 _)
  have HCC := Lib.hid hC
  have HS0 := Lib.hid h0
  have HS2 := Lib.hid h2
  have HSL := Lib.hid hS
  have hne : ((S.length : Int) != (L.length : Int)) = false := by rw [hS]; simp
  have HNo := Lib.hid fun h => cutL_no (bar := bar) (L := L) (S := S) h
  have HYes := Lib.hid fun h => cutL_yes (bar := bar) (L := L) (S := S) h
  have HWR := Lib.hid fun j (hj : j < S.length) h => cut_wrong (bar := bar) (fun x hx => (HLX.out x hx).1) hS hj h
  have HOK : Hid (isCutB bar L S = (idxOk S && restOk bar (restsL bar L S S.length (lenK S S.length)))) := Lib.hid (by unfold isCutB; rw [decide_eq_true hS, Bool.true_and])
  obtain ⟨R, hR⟩ : ∃ R, R = cutL bar L S := ⟨_, rfl⟩
  obtain ⟨ok, hk⟩ : ∃ ok, ok = isCutB bar L S := ⟨_, rfl⟩
  rw [← hR, ← hk] at HNo HYes ⊢
  rw [← hk] at HWR HOK
  clear hr hb h0 h2 hC hR hk
  go_enter Try.func53, Try.ntmps53
  go_wp2_with fail
  refine HG.out.mono ?_
  rintro e w1 ⟨rfl, rfl⟩
  go_wp2_with fail
  refine (HA.out _ _ H2.out).mono ?_
  rintro e w1 ⟨rfl, rfl⟩
  go_wp2_with fail
  refine (HW.out _).mono ?_
  rintro e w1 ⟨rfl, hb1⟩
  have HB1 := Lib.hid (below_nextN HB.out HB.out.size hb1)
  clear hb1
  go_wp2_with (refine wpList_store_row rfl 63 (.tmp 8) (.tmp 30) rfl w1.heap.size C rfl rfl 63 _ (heap_alloc_new w1 _) HIL.out HIS.out HO1.out ?_; generalize hw3 : World.setRow _ _ _ = w2; have HRW : Hid (RowIs w2 63 w1.heap.size w1.heap.size 8 fun _ => bar) := Lib.hid (by rw [← hw3]; exact RowIs.of_block (by rw [HCC.out]; exact setRow_heap _ w1.heap.size _ _ 63 (0, 0) (heap_alloc_new w1 _)) (Nat.le_refl _) (by unfold maxLen; omega)); have HB2 := Lib.hid (below_next HB1.out (show Below w1.heap.size w1 w2 by rw [← hw3]; exact below_setRow (below_new w1 _) (Nat.le_refl _))); clear hw3)
  have hbs := HB1.out.size
  obtain ⟨g8, hg8⟩ : ∃ g8, g8 = w1.heap.size := ⟨_, rfl⟩
  rw [← hg8] at HRW hbs ⊢
  have HG8 := Lib.hid hg8
  clear hg8
  go_loopw [9, 10, 11, 33] (fun _ _ _ i wr => ∃ j : Nat, j ≤ S.length ∧ i = .int .i64 j ∧ RowIs wr 63 g8 g8 8 (fun i => restK bar L S i j) ∧ Hid ((∀ k (hk : k < S.length), k < j → 0 ≤ S[k] ∧ S[k] ≤ 7) ∧ ∀ i, i < 8 → 0 ≤ restK bar L S i j) ∧ Below w.heap.size w wr) (fun _ _ _ i _ => S.length - (intOf i).toNat)
  case atStart => exact ⟨0, Nat.zero_le _, rfl, HRW.out, Lib.hid ⟨fun k _ h => absurd h (Nat.not_lt_zero _), fun i _ => by show 0 ≤ bar; omega⟩, HB2.out⟩
  case round =>
    clear HRW
    obtain ⟨j, hj, rfl, hrow, HQ, hb⟩ := hrel
    have HR := Lib.hid hrow
    have HBR := Lib.hid hb
    clear hrow hb
    by_cases hjt : j < S.length
    · have hjL : j < L.length := by have := HSL.out; omega
      obtain ⟨g0, o0, rfl, hg0, hat0⟩ := (HS0.out.below HBR.out).some (by omega)
      obtain ⟨g2, o2, rfl, hg2, hat2⟩ := (HS2.out.below HBR.out).some (by omega)
      have e1 := hat0 j hjL
      have e2 := hat2 j hjt
      have bx := HLX.out L[j] (List.getElem_mem _)
      have hgl := HR.out.lt.2
      have hg0g : g0 < w.heap.size := by
        obtain ⟨ga, oa, ea, hga, _⟩ := HS0.out.some (by omega)
        injection ea with ea
        injection ea with ea _ _
        omega
      have hne : g0 ≠ g8 := by omega
      obtain ⟨x0, hx0⟩ : ∃ x, x = restK bar L S 0 j := ⟨_, rfl⟩
      obtain ⟨x1, hx1⟩ : ∃ x, x = restK bar L S 1 j := ⟨_, rfl⟩
      obtain ⟨x2, hx2⟩ : ∃ x, x = restK bar L S 2 j := ⟨_, rfl⟩
      obtain ⟨x3, hx3⟩ : ∃ x, x = restK bar L S 3 j := ⟨_, rfl⟩
      obtain ⟨x4, hx4⟩ : ∃ x, x = restK bar L S 4 j := ⟨_, rfl⟩
      obtain ⟨x5, hx5⟩ : ∃ x, x = restK bar L S 5 j := ⟨_, rfl⟩
      obtain ⟨x6, hx6⟩ : ∃ x, x = restK bar L S 6 j := ⟨_, rfl⟩
      obtain ⟨x7, hx7⟩ : ∃ x, x = restK bar L S 7 j := ⟨_, rfl⟩
      obtain ⟨y0, hy0⟩ : ∃ y, y = cutF (fun i => restK bar L S i j) L[j] S[j] 0 := ⟨_, rfl⟩
      obtain ⟨y1, hy1⟩ : ∃ y, y = cutF (fun i => restK bar L S i j) L[j] S[j] 1 := ⟨_, rfl⟩
      obtain ⟨y2, hy2⟩ : ∃ y, y = cutF (fun i => restK bar L S i j) L[j] S[j] 2 := ⟨_, rfl⟩
      obtain ⟨y3, hy3⟩ : ∃ y, y = cutF (fun i => restK bar L S i j) L[j] S[j] 3 := ⟨_, rfl⟩
      obtain ⟨y4, hy4⟩ : ∃ y, y = cutF (fun i => restK bar L S i j) L[j] S[j] 4 := ⟨_, rfl⟩
      obtain ⟨y5, hy5⟩ : ∃ y, y = cutF (fun i => restK bar L S i j) L[j] S[j] 5 := ⟨_, rfl⟩
      obtain ⟨y6, hy6⟩ : ∃ y, y = cutF (fun i => restK bar L S i j) L[j] S[j] 6 := ⟨_, rfl⟩
      obtain ⟨y7, hy7⟩ : ∃ y, y = cutF (fun i => restK bar L S i j) L[j] S[j] 7 := ⟨_, rfl⟩
      have HCX : Hid (restA (fun i => restK bar L S i j) = #[.int .i64 x0, .int .i64 x1, .int .i64 x2, .int .i64 x3, .int .i64 x4, .int .i64 x5, .int .i64 x6, .int .i64 x7]) := Lib.hid (by rw [restA_lit, hx0, hx1, hx2, hx3, hx4, hx5, hx6, hx7])
      have HCY : Hid (restA (cutF (fun i => restK bar L S i j) L[j] S[j]) = #[.int .i64 y0, .int .i64 y1, .int .i64 y2, .int .i64 y3, .int .i64 y4, .int .i64 y5, .int .i64 y6, .int .i64 y7]) := Lib.hid (by rw [restA_lit, hy0, hy1, hy2, hy3, hy4, hy5, hy6, hy7])
      have HFB := Lib.hid fun i => restK_bd (bar := bar) (L := L) (S := S) HLX.out hl8 (by omega) (i := i) (j := j) (by omega)
      have HC : Hid (∀ W, Calls Try.prog 91 #[.agg #[.int .i64 x0, .int .i64 x1, .int .i64 x2, .int .i64 x3, .int .i64 x4, .int .i64 x5, .int .i64 x6, .int .i64 x7], .int .i64 L[j], .int .i64 S[j]] W fun e w' => e = .returned (.agg #[.int .i64 y0, .int .i64 y1, .int .i64 y2, .int .i64 y3, .int .i64 y4, .int .i64 y5, .int .i64 y6, .int .i64 y7]) ∧ Below W.heap.size W w') := Lib.hid fun W => by
        rw [← HCX.out, ← HCY.out]
        exact cutOff_any _ _ _ W (fun i _ => by have := HFB.out i; omega) bx
      have c0 : wr.cell? ⟨g8, 0, none⟩ = some (.int .i64 x0) := by rw [hx0]; exact HR.out.cell 0 (by omega)
      have c1 : wr.cell? ⟨g8, 1, none⟩ = some (.int .i64 x1) := by rw [hx1]; exact HR.out.cell 1 (by omega)
      have c2 : wr.cell? ⟨g8, 2, none⟩ = some (.int .i64 x2) := by rw [hx2]; exact HR.out.cell 2 (by omega)
      have c3 : wr.cell? ⟨g8, 3, none⟩ = some (.int .i64 x3) := by rw [hx3]; exact HR.out.cell 3 (by omega)
      have c4 : wr.cell? ⟨g8, 4, none⟩ = some (.int .i64 x4) := by rw [hx4]; exact HR.out.cell 4 (by omega)
      have c5 : wr.cell? ⟨g8, 5, none⟩ = some (.int .i64 x5) := by rw [hx5]; exact HR.out.cell 5 (by omega)
      have c6 : wr.cell? ⟨g8, 6, none⟩ = some (.int .i64 x6) := by rw [hx6]; exact HR.out.cell 6 (by omega)
      have c7 : wr.cell? ⟨g8, 7, none⟩ = some (.int .i64 x7) := by rw [hx7]; exact HR.out.cell 7 (by omega)
      have HX0 : Hid (restK bar L S 0 j = x0) := Lib.hid hx0.symm
      have HY0 : Hid (cutF (fun i => restK bar L S i j) L[j] S[j] 0 = y0) := Lib.hid hy0.symm
      have HX1 : Hid (restK bar L S 1 j = x1) := Lib.hid hx1.symm
      have HY1 : Hid (cutF (fun i => restK bar L S i j) L[j] S[j] 1 = y1) := Lib.hid hy1.symm
      have HX2 : Hid (restK bar L S 2 j = x2) := Lib.hid hx2.symm
      have HY2 : Hid (cutF (fun i => restK bar L S i j) L[j] S[j] 2 = y2) := Lib.hid hy2.symm
      have HX3 : Hid (restK bar L S 3 j = x3) := Lib.hid hx3.symm
      have HY3 : Hid (cutF (fun i => restK bar L S i j) L[j] S[j] 3 = y3) := Lib.hid hy3.symm
      have HX4 : Hid (restK bar L S 4 j = x4) := Lib.hid hx4.symm
      have HY4 : Hid (cutF (fun i => restK bar L S i j) L[j] S[j] 4 = y4) := Lib.hid hy4.symm
      have HX5 : Hid (restK bar L S 5 j = x5) := Lib.hid hx5.symm
      have HY5 : Hid (cutF (fun i => restK bar L S i j) L[j] S[j] 5 = y5) := Lib.hid hy5.symm
      have HX6 : Hid (restK bar L S 6 j = x6) := Lib.hid hx6.symm
      have HY6 : Hid (cutF (fun i => restK bar L S i j) L[j] S[j] 6 = y6) := Lib.hid hy6.symm
      have HX7 : Hid (restK bar L S 7 j = x7) := Lib.hid hx7.symm
      have HY7 : Hid (cutF (fun i => restK bar L S i j) L[j] S[j] 7 = y7) := Lib.hid hy7.symm
      clear hat0 hat2 hx0 hx1 hx2 hx3 hx4 hx5 hx6 hx7 hy0 hy1 hy2 hy3 hy4 hy5 hy6 hy7
      go_wp2_with fail
      generalize hWA : World.alloc wr _ = wa
      have hbA : Below wr.heap.size wr wa := by rw [← hWA]; exact below_new wr _
      have hbl : wr.heap.size < wa.heap.size := by rw [← hWA]; simp
      have HRA := Lib.hid (HR.out.below hbA)
      have HRB : Hid (RowIs wa 63 wr.heap.size wr.heap.size 8 fun i => restK bar L S i j) := Lib.hid (by
        rw [← hWA]; exact RowIs.of_block (by rw [show (rowF 8 fun i => restK bar L S i j).toArray = #[.int .i64 x0, .int .i64 x1, .int .i64 x2, .int .i64 x3, .int .i64 x4, .int .i64 x5, .int .i64 x6, .int .i64 x7] from HCX.out]; exact heap_alloc_new wr _) (Nat.le_refl _) (by unfold maxLen; omega))
      have HBA := Lib.hid (below_next HBR.out hbA)
      have e1' := (hbA.cell (p := ⟨g0, o0 + j, none⟩) hg0).trans e1
      have HE1 := Lib.hid e1'
      clear hWA e1 e2
      replace c0 := (hbA.cell (p := ⟨g8, 0, none⟩) hgl).trans c0
      replace c1 := (hbA.cell (p := ⟨g8, 1, none⟩) hgl).trans c1
      replace c2 := (hbA.cell (p := ⟨g8, 2, none⟩) hgl).trans c2
      replace c3 := (hbA.cell (p := ⟨g8, 3, none⟩) hgl).trans c3
      replace c4 := (hbA.cell (p := ⟨g8, 4, none⟩) hgl).trans c4
      replace c5 := (hbA.cell (p := ⟨g8, 5, none⟩) hgl).trans c5
      replace c6 := (hbA.cell (p := ⟨g8, 6, none⟩) hgl).trans c6
      replace c7 := (hbA.cell (p := ⟨g8, 7, none⟩) hgl).trans c7
      clear hbA
      go_still_tail 6, (by kernel_rfl)
      change wpList _ _ _ _ _ wa.drew
      generalize hWB : wa.drew = wb
      have hbB : Below wa.heap.size wa wb := by rw [← hWB]; exact (Below.refl _ _).drew
      have HRA2 := Lib.hid (HRA.out.below hbB)
      have HRB2 := Lib.hid (HRB.out.below hbB)
      have HBA2 := Lib.hid (below_next HBA.out hbB)
      clear hWB hbB e1' HE1 c0 c1 c2 c3 c4 c5 c6 c7
      go_wp2_with fail
      refine (HC.out _).mono ?_
      rintro e w5 ⟨rfl, hb5⟩
      have HRA3 := Lib.hid (HRA2.out.below hb5)
      have HRB3 := Lib.hid (HRB2.out.below hb5)
      have HBA3 := Lib.hid (below_next HBA2.out hb5)
      have hIL : Hid ((Try.prog.info? 63).map (·.size) = some 8) := Lib.hid info_rests
      have HO8 : Hid ((#[.int .i64 y0, .int .i64 y1, .int .i64 y2, .int .i64 y3, .int .i64 y4, .int .i64 y5, .int .i64 y6, .int .i64 y7] : Array Value).all (·.oneCell') = true) := Lib.hid (by rw [← HCY.out]; exact rowF_one 8 _)
      have HIZ : Hid ((rowF 8 fun i => restK bar L S i j).toArray.size = 8) := Lib.hid (by simp [rowF_len])
      clear hb5 HC HRA2 HRB2 HBA2 HRA HRB HBA
      by_cases hok : 0 ≤ S[j] ∧ S[j] ≤ 7 ∧ L.getD j 0 ≤ restK bar L S S[j].toNat j
      · have hbv : (y0 == x0 && (y1 == x1 && (y2 == x2 && (y3 == x3 && (y4 == x4 && (y5 == x5 && (y6 == x6 && y7 == x7))))))) = false := by
          rw [Bool.eq_false_iff]
          intro h
          have h1 := (beq8 x0 x1 x2 x3 x4 x5 x6 x7 y0 y1 y2 y3 y4 y5 y6 y7).1 h
          rw [← HCY.out, ← HCX.out] at h1
          have h2 := restA_inj h1 (i := S[j].toNat) (by omega)
          have h3 := hok.2.2
          rw [getD_lt L j hjL] at h3
          unfold cutF at h2
          rw [if_pos ⟨by omega, h3⟩] at h2
          have h4 : restK bar L S S[j].toNat j - L[j] = restK bar L S S[j].toNat j := h2
          omega
        have HRK : Hid (∀ i, i < 8 → cutF (fun i => restK bar L S i j) L[j] S[j] i = restK bar L S i (j + 1)) := Lib.hid fun i hi => by
          have h1 := cutF_step hjt hok
          rw [getD_lt L j hjL] at h1
          exact restA_inj h1 hi
        have HQ2 := Lib.hid (step_ok hjt hok HQ.out)
        clear hok
        have heq : ∀ W, (Op.equalIn 10000 63 (.agg #[.int .i64 y0, .int .i64 y1, .int .i64 y2, .int .i64 y3, .int .i64 y4, .int .i64 y5, .int .i64 y6, .int .i64 y7]) (.agg #[.int .i64 x0, .int .i64 x1, .int .i64 x2, .int .i64 x3, .int .i64 x4, .int .i64 x5, .int .i64 x6, .int .i64 x7])).run Try.prog W = .ok false W := fun W => (eq_rests 9998 y0 y1 y2 y3 y4 y5 y6 y7 x0 x1 x2 x3 x4 x5 x6 x7 W).trans (by rw [hbv])
        clear hbv
        go_wp2_with (refine wpList_store_row rfl 63 (.tmp 8) (.tmp 45) rfl g8 #[.int .i64 y0, .int .i64 y1, .int .i64 y2, .int .i64 y3, .int .i64 y4, .int .i64 y5, .int .i64 y6, .int .i64 y7] rfl rfl 63 _ HRA3.out.block hIL.out HIZ.out HO8.out ?_; generalize hw6 : World.setRow _ _ _ = w6; have HRN : Hid (RowIs w6 63 g8 g8 8 (cutF (fun i => restK bar L S i j) L[j] S[j])) := Lib.hid (by rw [← hw6, ← HCY.out]; exact RowIs.set w5 HRA3.out.block (by unfold maxLen; omega)); have HRO : Hid (RowIs w6 63 wr.heap.size wr.heap.size 8 fun i => restK bar L S i j) := Lib.hid (by rw [← hw6]; exact HRB3.out.farRow (by omega) _ (by unfold maxLen; omega)); have HBN := Lib.hid (show Below w.heap.size w w6 by rw [← hw6]; exact below_setRow HBA3.out hbs); clear hw6; have a0 : w6.cell? ⟨g8, 0, none⟩ = some (.int .i64 y0) := (HRN.out.cell 0 (by omega)).trans (congrArg (fun z => some (Value.int .i64 z)) HY0.out); have b0 : w6.cell? ⟨wr.heap.size, 0, none⟩ = some (.int .i64 x0) := (HRO.out.cell 0 (by omega)).trans (congrArg (fun z => some (Value.int .i64 z)) HX0.out); have a1 : w6.cell? ⟨g8, 1, none⟩ = some (.int .i64 y1) := (HRN.out.cell 1 (by omega)).trans (congrArg (fun z => some (Value.int .i64 z)) HY1.out); have b1 : w6.cell? ⟨wr.heap.size, 1, none⟩ = some (.int .i64 x1) := (HRO.out.cell 1 (by omega)).trans (congrArg (fun z => some (Value.int .i64 z)) HX1.out); have a2 : w6.cell? ⟨g8, 2, none⟩ = some (.int .i64 y2) := (HRN.out.cell 2 (by omega)).trans (congrArg (fun z => some (Value.int .i64 z)) HY2.out); have b2 : w6.cell? ⟨wr.heap.size, 2, none⟩ = some (.int .i64 x2) := (HRO.out.cell 2 (by omega)).trans (congrArg (fun z => some (Value.int .i64 z)) HX2.out); have a3 : w6.cell? ⟨g8, 3, none⟩ = some (.int .i64 y3) := (HRN.out.cell 3 (by omega)).trans (congrArg (fun z => some (Value.int .i64 z)) HY3.out); have b3 : w6.cell? ⟨wr.heap.size, 3, none⟩ = some (.int .i64 x3) := (HRO.out.cell 3 (by omega)).trans (congrArg (fun z => some (Value.int .i64 z)) HX3.out); have a4 : w6.cell? ⟨g8, 4, none⟩ = some (.int .i64 y4) := (HRN.out.cell 4 (by omega)).trans (congrArg (fun z => some (Value.int .i64 z)) HY4.out); have b4 : w6.cell? ⟨wr.heap.size, 4, none⟩ = some (.int .i64 x4) := (HRO.out.cell 4 (by omega)).trans (congrArg (fun z => some (Value.int .i64 z)) HX4.out); have a5 : w6.cell? ⟨g8, 5, none⟩ = some (.int .i64 y5) := (HRN.out.cell 5 (by omega)).trans (congrArg (fun z => some (Value.int .i64 z)) HY5.out); have b5 : w6.cell? ⟨wr.heap.size, 5, none⟩ = some (.int .i64 x5) := (HRO.out.cell 5 (by omega)).trans (congrArg (fun z => some (Value.int .i64 z)) HX5.out); have a6 : w6.cell? ⟨g8, 6, none⟩ = some (.int .i64 y6) := (HRN.out.cell 6 (by omega)).trans (congrArg (fun z => some (Value.int .i64 z)) HY6.out); have b6 : w6.cell? ⟨wr.heap.size, 6, none⟩ = some (.int .i64 x6) := (HRO.out.cell 6 (by omega)).trans (congrArg (fun z => some (Value.int .i64 z)) HX6.out); have a7 : w6.cell? ⟨g8, 7, none⟩ = some (.int .i64 y7) := (HRN.out.cell 7 (by omega)).trans (congrArg (fun z => some (Value.int .i64 z)) HY7.out); have b7 : w6.cell? ⟨wr.heap.size, 7, none⟩ = some (.int .i64 x7) := (HRO.out.cell 7 (by omega)).trans (congrArg (fun z => some (Value.int .i64 z)) HX7.out))
        clear a0 b0 a1 b1 a2 b2 a3 b3 a4 b4 a5 b5 a6 b6 a7 b7 heq
        go_roundw
        case rel => exact ⟨j + 1, by omega, by go_num, HRN.out.congr HRK.out, HQ2, HBN.out⟩
        case measure => simp [intOf]; omega
      · have hbv : (y0 == x0 && (y1 == x1 && (y2 == x2 && (y3 == x3 && (y4 == x4 && (y5 == x5 && (y6 == x6 && y7 == x7))))))) = true := by
          rw [beq8 x0 x1 x2 x3 x4 x5 x6 x7 y0 y1 y2 y3 y4 y5 y6 y7, ← HCY.out, ← HCX.out]
          have h1 := cutF_same (bar := bar) (L := L) (S := S) (j := j) (by rw [getD_lt S j hjt]; exact hok)
          rw [getD_lt S j hjt, getD_lt L j hjL] at h1
          exact h1
        have HV : Hid (ok = false) := Lib.hid (HWR.out j hjt hok)
        clear hok
        have heq : ∀ W, (Op.equalIn 10000 63 (.agg #[.int .i64 y0, .int .i64 y1, .int .i64 y2, .int .i64 y3, .int .i64 y4, .int .i64 y5, .int .i64 y6, .int .i64 y7]) (.agg #[.int .i64 x0, .int .i64 x1, .int .i64 x2, .int .i64 x3, .int .i64 x4, .int .i64 x5, .int .i64 x6, .int .i64 x7])).run Try.prog W = .ok true W := fun W => (eq_rests 9998 y0 y1 y2 y3 y4 y5 y6 y7 x0 x1 x2 x3 x4 x5 x6 x7 W).trans (by rw [hbv])
        clear hbv
        go_wp2_with (refine wpList_store_row rfl 63 (.tmp 8) (.tmp 45) rfl g8 #[.int .i64 y0, .int .i64 y1, .int .i64 y2, .int .i64 y3, .int .i64 y4, .int .i64 y5, .int .i64 y6, .int .i64 y7] rfl rfl 63 _ HRA3.out.block hIL.out HIZ.out HO8.out ?_; generalize hw6 : World.setRow _ _ _ = w6; have HRN : Hid (RowIs w6 63 g8 g8 8 (cutF (fun i => restK bar L S i j) L[j] S[j])) := Lib.hid (by rw [← hw6, ← HCY.out]; exact RowIs.set w5 HRA3.out.block (by unfold maxLen; omega)); have HRO : Hid (RowIs w6 63 wr.heap.size wr.heap.size 8 fun i => restK bar L S i j) := Lib.hid (by rw [← hw6]; exact HRB3.out.farRow (by omega) _ (by unfold maxLen; omega)); have HBN := Lib.hid (show Below w.heap.size w w6 by rw [← hw6]; exact below_setRow HBA3.out hbs); clear hw6; have a0 : w6.cell? ⟨g8, 0, none⟩ = some (.int .i64 y0) := (HRN.out.cell 0 (by omega)).trans (congrArg (fun z => some (Value.int .i64 z)) HY0.out); have b0 : w6.cell? ⟨wr.heap.size, 0, none⟩ = some (.int .i64 x0) := (HRO.out.cell 0 (by omega)).trans (congrArg (fun z => some (Value.int .i64 z)) HX0.out); have a1 : w6.cell? ⟨g8, 1, none⟩ = some (.int .i64 y1) := (HRN.out.cell 1 (by omega)).trans (congrArg (fun z => some (Value.int .i64 z)) HY1.out); have b1 : w6.cell? ⟨wr.heap.size, 1, none⟩ = some (.int .i64 x1) := (HRO.out.cell 1 (by omega)).trans (congrArg (fun z => some (Value.int .i64 z)) HX1.out); have a2 : w6.cell? ⟨g8, 2, none⟩ = some (.int .i64 y2) := (HRN.out.cell 2 (by omega)).trans (congrArg (fun z => some (Value.int .i64 z)) HY2.out); have b2 : w6.cell? ⟨wr.heap.size, 2, none⟩ = some (.int .i64 x2) := (HRO.out.cell 2 (by omega)).trans (congrArg (fun z => some (Value.int .i64 z)) HX2.out); have a3 : w6.cell? ⟨g8, 3, none⟩ = some (.int .i64 y3) := (HRN.out.cell 3 (by omega)).trans (congrArg (fun z => some (Value.int .i64 z)) HY3.out); have b3 : w6.cell? ⟨wr.heap.size, 3, none⟩ = some (.int .i64 x3) := (HRO.out.cell 3 (by omega)).trans (congrArg (fun z => some (Value.int .i64 z)) HX3.out); have a4 : w6.cell? ⟨g8, 4, none⟩ = some (.int .i64 y4) := (HRN.out.cell 4 (by omega)).trans (congrArg (fun z => some (Value.int .i64 z)) HY4.out); have b4 : w6.cell? ⟨wr.heap.size, 4, none⟩ = some (.int .i64 x4) := (HRO.out.cell 4 (by omega)).trans (congrArg (fun z => some (Value.int .i64 z)) HX4.out); have a5 : w6.cell? ⟨g8, 5, none⟩ = some (.int .i64 y5) := (HRN.out.cell 5 (by omega)).trans (congrArg (fun z => some (Value.int .i64 z)) HY5.out); have b5 : w6.cell? ⟨wr.heap.size, 5, none⟩ = some (.int .i64 x5) := (HRO.out.cell 5 (by omega)).trans (congrArg (fun z => some (Value.int .i64 z)) HX5.out); have a6 : w6.cell? ⟨g8, 6, none⟩ = some (.int .i64 y6) := (HRN.out.cell 6 (by omega)).trans (congrArg (fun z => some (Value.int .i64 z)) HY6.out); have b6 : w6.cell? ⟨wr.heap.size, 6, none⟩ = some (.int .i64 x6) := (HRO.out.cell 6 (by omega)).trans (congrArg (fun z => some (Value.int .i64 z)) HX6.out); have a7 : w6.cell? ⟨g8, 7, none⟩ = some (.int .i64 y7) := (HRN.out.cell 7 (by omega)).trans (congrArg (fun z => some (Value.int .i64 z)) HY7.out); have b7 : w6.cell? ⟨wr.heap.size, 7, none⟩ = some (.int .i64 x7) := (HRO.out.cell 7 (by omega)).trans (congrArg (fun z => some (Value.int .i64 z)) HX7.out))
        clear a0 b0 a1 b1 a2 b2 a3 b3 a4 b4 a5 b5 a6 b6 a7 b7 heq
        go_ret2
        exact ⟨none, 0, 0, by (rw [HV.out, HNo.out HV.out]; first | done | rfl), by rw [HNo.out HV.out]; exact OwnInts.nil _ _ _, HBN.out⟩
    · obtain rfl : j = S.length := by omega
      have hidx : idxOk S = true := idxOk_of fun k hk => HQ.out.1 k hk hk
      have hm8 := lenK_le hidx S.length (Nat.le_refl _)
      have hmx := lenK_max hidx (by omega)
      have hm1 : 1 ≤ lenK S S.length := by
        have h1 := lenK_mem (S := S) (j := S.length) (t := 0) (by omega)
        have h2 := HQ.out.1 0 (by omega) (by omega)
        rw [getD_lt S 0 (by omega)] at h1
        omega
      obtain ⟨m, hm⟩ : ∃ m, m = lenK S S.length := ⟨_, rfl⟩
      rw [← hm] at hm8 hmx hm1 HOK HYes
      rw [hidx, Bool.true_and] at HOK
      have HBO : Hid (∀ W, IntSl W A2 S → Calls Try.prog 92 #[.slice A2 L.length c2] W fun e w' => e = .returned (.int .i64 m) ∧ W = w') := Lib.hid fun W x => by rw [← HSL.out]; exact barsOf_any A2 c2 S m W (by omega) (by omega) x hmx hm8
      have hPL := restsL_len bar L S S.length m
      have HPT := Lib.hid (HR.out.part hm8 (by unfold maxLen; omega))
      obtain ⟨Q, hQ'⟩ : ∃ Q, Q = restsL bar L S S.length m := ⟨_, rfl⟩
      rw [show (List.range m).map (fun i => restK bar L S i S.length) = restsL bar L S S.length m from rfl, ← hQ'] at HPT
      rw [← hQ'] at HOK HYes hPL
      have HCO := Lib.hid (contains_any (some ⟨g8, 0, none⟩) 8 Q bar wr (by omega) (IntSl.of_own HPT.out))
      rw [hPL] at HCO HPT
      have HQN : Hid (∀ x ∈ Q, 0 ≤ x) := Lib.hid fun x hx => by
        rw [hQ'] at hx
        unfold restsL at hx
        obtain ⟨i, hi, rfl⟩ := List.mem_map.1 hx
        exact HQ.out.2 i (by have := List.mem_range.1 hi; omega)
      have HS2R := Lib.hid (HS2.out.below HBR.out)
      have HPL := Lib.hid hPL
      have i0 : (0 : Int) ≤ (m : Int) := by omega
      have i1 : (m : Int) ≤ 8 := by omega
      clear hm hQ' hidx hmx hPL HR HQ
      by_cases hin : bar ∈ Q
      · have HV : Hid (ok = false) := Lib.hid (by rw [HOK.out, restOk_no hin (.inr rfl)])
        rw [decide_eq_true hin] at HCO
        clear hin
        go_wp2_with fail
        refine (HBO.out _ HS2R.out).mono ?_
        rintro e w6 ⟨rfl, rfl⟩
        go_wp2_with fail
        refine HCO.out.mono ?_
        rintro e w6 ⟨rfl, rfl⟩
        go_wp2
        go_ret2
        exact ⟨none, 0, 0, by (rw [HV.out, HNo.out HV.out]; first | done | rfl), by rw [HNo.out HV.out]; exact OwnInts.nil _ _ _, HBR.out⟩
      · have HV : Hid (ok = true) := Lib.hid (by rw [HOK.out]; exact restOk_of fun k hk => ⟨HQN.out _ (List.getElem_mem hk), fun h => hin (by rw [← h]; exact List.getElem_mem hk)⟩)
        rw [decide_eq_false hin] at HCO
        clear hin
        go_wp2_with fail
        refine (HBO.out _ HS2R.out).mono ?_
        rintro e w6 ⟨rfl, rfl⟩
        go_wp2_with fail
        refine HCO.out.mono ?_
        rintro e w6 ⟨rfl, rfl⟩
        go_wp2
        go_ret2
        exact ⟨some ⟨g8, 0, none⟩, m, 8, by (rw [HV.out, HYes.out HV.out, HPL.out]; first | done | rfl), by rw [HYes.out HV.out, HPL.out]; exact HPT.out.mono hbs, HBR.out⟩
end Go.Proofs.Ytacncacpcllgcaa
