/- FirstFit of the program. No condition but the lists' lengths. -/
import Derived.Test.YtacncacpcllgcaaFits
namespace Go.Proofs.Ytacncacpcllgcaa
open Go.RowKit

theorem fitFn_any (b1 : Nat) (r x : Int) (w : World) (k1 : w.cell? ⟨b1, 0, none⟩ = some (.int .i64 r)) :
    Calls Try.prog 101 #[.int .i64 x, .pointer (some ⟨b1, 0, none⟩)] w fun e w' => e = .returned (.bool (decide (r ≤ x))) ∧ w = w' := by
  go_enter Try.func101, Try.ntmps101
  go_wp2
  go_ret
  exact ⟨rfl, rfl⟩
set_option maxHeartbeats 1000000 in
theorem indexFit_any (g b1 : Nat) (A : Option Addr) (c : Nat) (R : List Int) (r : Int) (k : Nat) (w : World) (hg : g = 101) (hm : R.length ≤ 1048576) (hk : k < R.length) (hR : r ≤ R[k]) (hlo : ∀ i (hi : i < R.length), i < k → R[i] < r) (h : IntSl w A R) (k1 : w.cell? ⟨b1, 0, none⟩ = some (.int .i64 r)) :
    Calls Try.prog 100 #[.slice A R.length c, .func (.func g) #[] #[.pointer (some ⟨b1, 0, none⟩)]] w fun e w' => e = .returned (.int .i64 k) ∧ w = w' := by
  subst hg
  obtain ⟨ga, off, rfl, -, hat⟩ := h.some (by omega)
  have HAT := Lib.hid hat
  have HLO := Lib.hid hlo
  have HF := Lib.hid fun x => fitFn_any b1 r x w k1
  clear hat h hlo k1
  go_enter Try.func100, Try.ntmps100
  go_wp2
  go_loop [5, 8] (fun _ i => ∃ q : Nat, q ≤ k ∧ i = .int .i64 q) (fun _ i => k + 1 - (intOf i).toNat)
  case atStart => exact ⟨0, Nat.zero_le _, rfl⟩
  case round =>
    obtain ⟨q, hq, rfl⟩ := hrel
    have c1 := HAT.out q (by omega)
    have HC := Lib.hid (HF.out R[q])
    have hq0 : (0 : Int) ≤ (q : Int) := by omega
    have hq1 : (q : Int) < (R.length : Int) := by omega
    by_cases hqk : q < k
    · rw [decide_eq_false (by have := HLO.out q (by omega) hqk; omega)] at HC
      obtain ⟨x, hx⟩ : ∃ x, x = R[q] := ⟨_, rfl⟩
      rw [← hx] at HC c1
      clear hx hR
      go_wp2_with fail
      refine HC.out.mono ?_
      rintro e w1 ⟨rfl, rfl⟩
      go_wp2
      go_round
      case rel => exact ⟨q + 1, by omega, by go_num⟩
      case measure => simp [intOf]; omega
    · obtain rfl : q = k := by omega
      rw [decide_eq_true hR] at HC
      obtain ⟨x, hx⟩ : ∃ x, x = R[q] := ⟨_, rfl⟩
      rw [← hx] at HC c1
      clear hx hR
      go_wp2_with fail
      refine HC.out.mono ?_
      rintro e w1 ⟨rfl, rfl⟩
      go_wp2
      go_ret
      exact ⟨rfl, rfl⟩

theorem cell_apart0 {g g' : Nat} (w : World) (u : Value) (a i : Nat) (hne : g' ≠ g) : (w.setCell ⟨g, a, none⟩ u).cell? ⟨g', i, none⟩ = w.cell? ⟨g', i, none⟩ :=
  World.cell?_of_block (Below.heap_setCell w ⟨g, a, none⟩ u g' (fun e => hne e))

set_option maxRecDepth 100000 in
set_option maxHeartbeats 4000000 in
theorem cell_apart {g g' : Nat} (h : g' ≠ g) (i j : Nat) (u : Value) (W : World) : (W.setCell ⟨g, j, none⟩ u).cell? ⟨g', i, none⟩ = W.cell? ⟨g', i, none⟩ := cell_apart0 W u j i h
section
variable {w wr : World} {base n size c : Nat} {e : TypeId} {v : Value} {xs : List Value}
/-- another block is written whole -/
theorem Filled.farRow (h : Filled w base e size v n xs c wr) (g : Nat) (cs : Array Value) (hg : base ≤ g) (hv : ∀ k, v.ownBlock = some k → k ≠ g) : Filled w base e size v n xs c (wr.setRow g cs) := by
  obtain ⟨ys, ho, hm, hB⟩ := h
  refine ⟨ys, ⟨ho.1, ?_⟩, hm, below_setRow hB hg⟩
  rcases ho.2 with h0 | ⟨g', cap, cur, rfl, h1, hg', rest⟩
  · exact .inl h0
  · exact .inr ⟨g', cap, cur, rfl, h1, (setRow_other wr g g' cs (hv g' rfl)).trans hg', rest⟩
theorem Filled.mono {b' : Nat} (h : wr.ownsRow base e size v n xs) (hb : b' ≤ base) (hB : Below b' w wr) {ys : List Value} : Filled w b' e size v n ys 0 wr := ⟨_, own_mono h hb, fun _ hi => absurd hi (Nat.not_lt_zero _), hB⟩
end
theorem fit_vals (bar : Int) (L : List Int) (j : Nat) (hj : j < L.length) : ((fitS bar L L.length).map (Value.int .i64))[j]? = some (.int .i64 (fitK bar L j : Nat)) := by
  have hl := fitS_len bar L L.length
  have h := fitS_get bar L L.length j hj
  rw [List.getElem?_map, List.getElem?_eq_getElem (by omega)]
  rw [List.getD_eq_getElem?_getD, List.getElem?_eq_getElem (by omega)] at h
  show some (Value.int .i64 _) = _
  congr 2

set_option maxRecDepth 100000 in
set_option maxHeartbeats 4000000 in
theorem implFirstFit_any (A0 : Option Addr) (c0 : Nat) (L0 : List Int) (a1 : Int) (w : World) (l0 : L0.length ≤ 1048576) (_ : WfL L0) (_ : L0.length ≤ c0) (h0 : IntSl w A0 L0) (_ : (Lit.int .i64 a1).wf = true) :
    Calls Try.prog 59 #[.slice A0 L0.length c0, .int .i64 a1] w fun e w' => ∃ v, e = .returned (.tuple #[v, .bool (okFit L0 a1)]) ∧ OwnInts w' w.heap.size 3 v (fitL L0 a1) ∧ Below w.heap.size w w' := by
  obtain ⟨i0, hi, hz0, hz1, hz2⟩ := info_parts info_int
  have HP := Lib.hid (canBeCut_any A0 c0 L0 a1 w l0 h0)
  cases hok : okFit L0 a1
  · rw [fitL_no hok]
    rw [hok] at HP
    clear hok
    go_enter Try.func59, Try.ntmps59
    go_wp2_with fail
    refine HP.out.mono ?_
    rintro e w1 ⟨rfl, hb⟩
    go_wp2
    go_ret2
    exact ⟨_, rfl, OwnInts.nil _ _ _, hb⟩
  · rw [fitL_yes hok]
    rw [hok] at HP
    obtain ⟨hr, hb, hL⟩ := okFit_at hok
    obtain ⟨hl1, hl8⟩ := okRa_len hr
    have hbb := okL_at hb
    have HLX := Lib.hid hL
    have HL5 := Lib.hid (okRa_mem hr)
    have HFI := Lib.hid fun j (hj : j < L0.length) => fit_is (by omega) hL hj (by omega)
    have HFA := Lib.hid fun j (hj : j ≤ L0.length) => fit_all (by omega) hL j hj (by omega)
    obtain ⟨C, hC⟩ : ∃ C, C = restA fun _ => a1 := ⟨_, rfl⟩
    have HW : Hid (∀ W, Calls Try.prog 90 #[.int .i64 a1] W fun e w' => e = .returned (.agg C) ∧ Below W.heap.size W w') := Lib.hid fun W => by rw [hC]; exact wholeBars_any a1 W
    have HIL : Hid ((Try.prog.info? 63).map (·.size) = some C.size) := Lib.hid (by rw [info_rests, hC]; simp [restA, rowF_len])
    have HIS : Hid (8 = C.size) := Lib.hid (by rw [hC]; simp [restA, rowF_len])
    have HO1 : Hid (C.all (·.oneCell') = true) := Lib.hid (by rw [hC]; exact rowF_one 8 _)
    have HCC := Lib.hid hC
    have H0 := Lib.hid h0
    have HSL := Lib.hid (fitS_len a1 L0 L0.length)
    clear hok hr hb hL h0 hC
    go_enter Try.func59, Try.ntmps59
    go_wp2_with fail
    refine HP.out.mono ?_
    rintro e w1 ⟨rfl, hb1⟩
    have HB0 := Lib.hid hb1
    clear hb1
    go_wp2_with fail
    refine (HW.out _).mono ?_
    rintro e w1a ⟨rfl, hb1⟩
    have HB1 := Lib.hid (below_next HB0.out hb1)
    clear hb1
    go_wp2_with (first
      | (refine wpList_store_row rfl 63 (.tmp 6) (.tmp 15) rfl w1a.heap.size C rfl rfl 63 _ (heap_alloc_new w1a _) HIL.out HIS.out HO1.out ?_; generalize hw3 : World.setRow _ _ _ = w2; have HRW : Hid (RowIs w2 63 w1a.heap.size w1a.heap.size 8 fun _ => a1) := Lib.hid (by rw [← hw3]; exact RowIs.of_block (by rw [HCC.out]; exact setRow_heap _ w1a.heap.size _ _ 63 (0, 0) (heap_alloc_new w1a _)) (Nat.le_refl _) (by unfold maxLen; omega)); have HB2 := Lib.hid (below_next HB1.out (show Below w1a.heap.size w1a w2 by rw [← hw3]; exact below_setRow (below_new w1a _) (Nat.le_refl _))); clear hw3)
      | (at_make; refine wpList_make_full _ rfl (.tmp 17) (.tmp 17) _ rfl w2.heap.size 3 i0 _ 1 Try.underlying26 hi hz0 hz1 .i64 .i64 _ _ L0.length rfl rfl rfl rfl (by rw [hz2]; omega) (by unfold maxLen; omega) (Nat.le_refl _) ?_; intro w3 hown hgrow))
    have hbs := HB1.out.size
    have hbs2 := HB2.out.size
    have hg6s := HRW.out.lt.2
    have HRW3 := Lib.hid (own_apart HRW.out hgrow fun k hk e => by cases e)
    have HF : Hid (Filled w w.heap.size 3 1 (.slice (some ⟨w2.heap.size, 0, none⟩) L0.length L0.length) L0.length ((fitS a1 L0 L0.length).map (Value.int .i64)) 0 w3) := Lib.hid (Filled.mono hown hbs2 (HB2.out.grown hgrow hbs2 fun k hk => by cases hk))
    obtain ⟨g6, hg6⟩ : ∃ g, g = w1a.heap.size := ⟨_, rfl⟩
    obtain ⟨g7, hg7⟩ : ∃ g, g = w2.heap.size := ⟨_, rfl⟩
    rw [← hg6] at HRW3 hbs hg6s ⊢
    rw [← hg7] at HF hg6s hbs2 ⊢
    have hn67 : g6 ≠ g7 := by omega
    have HRI : Hid (RowIs w3 63 g6 g6 8 (fitR a1 L0 0)) := HRW3
    have HG8 := Lib.hid hg6
    have HG9 := Lib.hid hg7
    clear hown hgrow hg6 hg7 HRW HRW3 HW
    go_loopw [8, 9, 21] (fun _ _ i wr => ∃ j : Nat, j ≤ L0.length ∧ i = .int .i64 j ∧ RowIs wr 63 g6 g6 8 (fitR a1 L0 j) ∧ Filled w w.heap.size 3 1 (.slice (some ⟨g7, 0, none⟩) L0.length L0.length) L0.length ((fitS a1 L0 L0.length).map (Value.int .i64)) j wr) (fun _ _ i _ => L0.length - (intOf i).toNat)
    case atStart => exact ⟨0, Nat.zero_le _, rfl, HRI.out, HF.out⟩
    case round =>
      clear HRI HF
      obtain ⟨j, hj, rfl, hrow, hf⟩ := hrel
      have HR := Lib.hid hrow
      have HF1 := Lib.hid hf
      clear hrow hf
      by_cases hlt : j < L0.length
      · obtain ⟨⟨f1, f2, f3⟩, f4, f5⟩ := HFI.out j hlt
        have hbw := HF1.out.below0
        obtain ⟨g0, o0, hA0, hg0, hat0⟩ := (H0.out.below hbw).some (by omega)
        subst hA0
        have e1 := hat0 j hlt
        have bx := HL5.out L0[j] (List.getElem_mem _)
        have hgl := HR.out.lt.2
        have HK1 := Lib.hid (fit_vals a1 L0 j hlt)
        have HCF := Lib.hid (fit_cut (HFI.out j hlt).1)
        have HFB : Hid (∀ i, i < 8 → -1000000 ≤ fitR a1 L0 j i ∧ fitR a1 L0 j i ≤ 1000000) := Lib.hid fun i _ => by
          have h1 := restK_bd (bar := a1) (L := L0) (S := fitS a1 L0 j) HL5.out hl8 (by omega) (i := i) (j := j) hj
          have h2 : restK a1 L0 (fitS a1 L0 j) i j = fitR a1 L0 j i := rfl
          rw [h2] at h1
          omega
        obtain ⟨kf, hkf⟩ : ∃ k, k = fitK a1 L0 j := ⟨_, rfl⟩
        obtain ⟨r, hr⟩ : ∃ r, r = L0[j] := ⟨_, rfl⟩
        rw [getD_lt L0 j hlt] at f2 f3 HCF
        rw [← hkf] at f1 f2 f3 HK1 HCF
        rw [← hr] at e1 bx f2 f3 HCF
        have HGF : Hid (∀ i, i < 8 → cutF (fitR a1 L0 j) r (kf : Int) i = fitR a1 L0 (j + 1) i) := Lib.hid fun i hi => restA_inj HCF.out hi
        obtain ⟨x0, hx0⟩ : ∃ x, x = fitR a1 L0 j 0 := ⟨_, rfl⟩
        obtain ⟨x1, hx1⟩ : ∃ x, x = fitR a1 L0 j 1 := ⟨_, rfl⟩
        obtain ⟨x2, hx2⟩ : ∃ x, x = fitR a1 L0 j 2 := ⟨_, rfl⟩
        obtain ⟨x3, hx3⟩ : ∃ x, x = fitR a1 L0 j 3 := ⟨_, rfl⟩
        obtain ⟨x4, hx4⟩ : ∃ x, x = fitR a1 L0 j 4 := ⟨_, rfl⟩
        obtain ⟨x5, hx5⟩ : ∃ x, x = fitR a1 L0 j 5 := ⟨_, rfl⟩
        obtain ⟨x6, hx6⟩ : ∃ x, x = fitR a1 L0 j 6 := ⟨_, rfl⟩
        obtain ⟨x7, hx7⟩ : ∃ x, x = fitR a1 L0 j 7 := ⟨_, rfl⟩
        obtain ⟨y0, hy0⟩ : ∃ y, y = cutF (fitR a1 L0 j) r kf 0 := ⟨_, rfl⟩
        obtain ⟨y1, hy1⟩ : ∃ y, y = cutF (fitR a1 L0 j) r kf 1 := ⟨_, rfl⟩
        obtain ⟨y2, hy2⟩ : ∃ y, y = cutF (fitR a1 L0 j) r kf 2 := ⟨_, rfl⟩
        obtain ⟨y3, hy3⟩ : ∃ y, y = cutF (fitR a1 L0 j) r kf 3 := ⟨_, rfl⟩
        obtain ⟨y4, hy4⟩ : ∃ y, y = cutF (fitR a1 L0 j) r kf 4 := ⟨_, rfl⟩
        obtain ⟨y5, hy5⟩ : ∃ y, y = cutF (fitR a1 L0 j) r kf 5 := ⟨_, rfl⟩
        obtain ⟨y6, hy6⟩ : ∃ y, y = cutF (fitR a1 L0 j) r kf 6 := ⟨_, rfl⟩
        obtain ⟨y7, hy7⟩ : ∃ y, y = cutF (fitR a1 L0 j) r kf 7 := ⟨_, rfl⟩
        have HCX : Hid (restA (fitR a1 L0 j) = #[.int .i64 x0, .int .i64 x1, .int .i64 x2, .int .i64 x3, .int .i64 x4, .int .i64 x5, .int .i64 x6, .int .i64 x7]) := Lib.hid (by rw [restA_lit, hx0, hx1, hx2, hx3, hx4, hx5, hx6, hx7])
        have HCY : Hid (restA (cutF (fitR a1 L0 j) r (kf : Int)) = #[.int .i64 y0, .int .i64 y1, .int .i64 y2, .int .i64 y3, .int .i64 y4, .int .i64 y5, .int .i64 y6, .int .i64 y7]) := Lib.hid (by rw [restA_lit, hy0, hy1, hy2, hy3, hy4, hy5, hy6, hy7])
        have HC : Hid (∀ W, Calls Try.prog 91 #[.agg #[.int .i64 x0, .int .i64 x1, .int .i64 x2, .int .i64 x3, .int .i64 x4, .int .i64 x5, .int .i64 x6, .int .i64 x7], .int .i64 r, .int .i64 (kf : Int)] W fun e w' => e = .returned (.agg #[.int .i64 y0, .int .i64 y1, .int .i64 y2, .int .i64 y3, .int .i64 y4, .int .i64 y5, .int .i64 y6, .int .i64 y7]) ∧ Below W.heap.size W w') := Lib.hid fun W => by
          rw [← HCX.out, ← HCY.out]
          exact cutOff_any _ _ _ W HFB.out bx
        have c0 : wr.cell? ⟨g6, 0, none⟩ = some (.int .i64 x0) := by rw [hx0]; exact HR.out.cell 0 (by omega)
        have c1 : wr.cell? ⟨g6, 1, none⟩ = some (.int .i64 x1) := by rw [hx1]; exact HR.out.cell 1 (by omega)
        have c2 : wr.cell? ⟨g6, 2, none⟩ = some (.int .i64 x2) := by rw [hx2]; exact HR.out.cell 2 (by omega)
        have c3 : wr.cell? ⟨g6, 3, none⟩ = some (.int .i64 x3) := by rw [hx3]; exact HR.out.cell 3 (by omega)
        have c4 : wr.cell? ⟨g6, 4, none⟩ = some (.int .i64 x4) := by rw [hx4]; exact HR.out.cell 4 (by omega)
        have c5 : wr.cell? ⟨g6, 5, none⟩ = some (.int .i64 x5) := by rw [hx5]; exact HR.out.cell 5 (by omega)
        have c6 : wr.cell? ⟨g6, 6, none⟩ = some (.int .i64 x6) := by rw [hx6]; exact HR.out.cell 6 (by omega)
        have c7 : wr.cell? ⟨g6, 7, none⟩ = some (.int .i64 x7) := by rw [hx7]; exact HR.out.cell 7 (by omega)
        have HXR : Hid (∀ b1 W, IntSl W (some ⟨g6, 0, none⟩) ((List.range 8).map (fitR a1 L0 j)) → W.cell? ⟨b1, 0, none⟩ = some (.int .i64 r) → Calls Try.prog 100 #[.slice (some ⟨g6, 0, none⟩) 8 8, .func (.func 101) #[] #[.pointer (some ⟨b1, 0, none⟩)]] W fun e w' => e = .returned (.int .i64 kf) ∧ W = w') := Lib.hid fun b1 W x y => by
          have := indexFit_any 101 b1 (some ⟨g6, 0, none⟩) 8 ((List.range 8).map (fitR a1 L0 j)) r kf W rfl (by simp) (by simpa using f1) (by simpa using f2) (fun i hi hik => by simpa using f3 i hik) x y
          simpa using this
        have hj0 : (0 : Int) ≤ (j : Int) := by omega
        have hj1 : (j : Int) < (L0.length : Int) := by omega
        have hk0 : (0 : Int) ≤ (kf : Int) := by omega
        clear hat0 hx0 hx1 hx2 hx3 hx4 hx5 hx6 hx7 hy0 hy1 hy2 hy3 hy4 hy5 hy6 hy7 hkf hr f2 f3
        go_wp2_with fail
        generalize hWA : World.alloc wr _ = wa
        have hbA : Below wr.heap.size wr wa := by rw [← hWA]; exact below_new wr _
        have k9 : wa.cell? ⟨wr.heap.size, 0, none⟩ = some (.int .i64 r) := by rw [← hWA, cell_of_row _ wr.heap.size 0 _ _ (0, 0) (heap_alloc_new wr _)]; rfl
        have hg7l : g7 < wr.heap.size := by
          obtain ⟨ys, ho, _, _⟩ := HF1.out
          exact (World.ownsRow.lt ho g7 rfl).2
        have HRA := Lib.hid (HR.out.below hbA)
        have HFA1 := Lib.hid (HF1.out.below hbA (Nat.le_refl _))
        have hn9 : wr.heap.size ≠ g7 := by omega
        replace c0 := (hbA.cell (p := ⟨g6, 0, none⟩) hgl).trans c0
        replace c1 := (hbA.cell (p := ⟨g6, 1, none⟩) hgl).trans c1
        replace c2 := (hbA.cell (p := ⟨g6, 2, none⟩) hgl).trans c2
        replace c3 := (hbA.cell (p := ⟨g6, 3, none⟩) hgl).trans c3
        replace c4 := (hbA.cell (p := ⟨g6, 4, none⟩) hgl).trans c4
        replace c5 := (hbA.cell (p := ⟨g6, 5, none⟩) hgl).trans c5
        replace c6 := (hbA.cell (p := ⟨g6, 6, none⟩) hgl).trans c6
        replace c7 := (hbA.cell (p := ⟨g6, 7, none⟩) hgl).trans c7
        clear hWA hbA e1
        refine (HXR.out _ _ HRA.out.sl k9).mono ?_
        rintro e w5 ⟨rfl, rfl⟩
        obtain ⟨⟨u1, d1⟩, fz1⟩ := HFA1.out.cell j (by omega)
        clear HXR
        go_wp2_with fail
        generalize hWB : World.setCell wa _ _ = wb
        have HRB : Hid (RowIs wb 63 g6 g6 8 (fitR a1 L0 j)) := Lib.hid (by rw [← hWB]; exact HRA.out.far hn67 j _)
        have HFB1 : Hid (Filled w w.heap.size 3 1 (.slice (some ⟨g7, 0, none⟩) L0.length L0.length) L0.length ((fitS a1 L0 L0.length).map (Value.int .i64)) (j + 1) wb) := Lib.hid (by rw [← hWB]; exact HFA1.out.step (by omega) hbs2 HK1.out)
        replace k9 : wb.cell? ⟨wr.heap.size, 0, none⟩ = some (.int .i64 r) := by rw [← hWB]; exact (cell_apart hn9 0 j _ wa).trans k9
        have d7 : wb.cell? ⟨g7, j, none⟩ = some (.int .i64 (kf : Int)) := by
          obtain ⟨ys, ho, hm, _⟩ := HFB1.out
          rw [ho.cellAt j (by omega), hm j (by omega)]
          exact HK1.out
        replace c0 : wb.cell? ⟨g6, 0, none⟩ = some (.int .i64 x0) := by rw [← hWB]; exact (cell_apart hn67 0 j _ wa).trans c0
        replace c1 : wb.cell? ⟨g6, 1, none⟩ = some (.int .i64 x1) := by rw [← hWB]; exact (cell_apart hn67 1 j _ wa).trans c1
        replace c2 : wb.cell? ⟨g6, 2, none⟩ = some (.int .i64 x2) := by rw [← hWB]; exact (cell_apart hn67 2 j _ wa).trans c2
        replace c3 : wb.cell? ⟨g6, 3, none⟩ = some (.int .i64 x3) := by rw [← hWB]; exact (cell_apart hn67 3 j _ wa).trans c3
        replace c4 : wb.cell? ⟨g6, 4, none⟩ = some (.int .i64 x4) := by rw [← hWB]; exact (cell_apart hn67 4 j _ wa).trans c4
        replace c5 : wb.cell? ⟨g6, 5, none⟩ = some (.int .i64 x5) := by rw [← hWB]; exact (cell_apart hn67 5 j _ wa).trans c5
        replace c6 : wb.cell? ⟨g6, 6, none⟩ = some (.int .i64 x6) := by rw [← hWB]; exact (cell_apart hn67 6 j _ wa).trans c6
        replace c7 : wb.cell? ⟨g6, 7, none⟩ = some (.int .i64 x7) := by rw [← hWB]; exact (cell_apart hn67 7 j _ wa).trans c7
        clear hWB d1 fz1
        go_still_tail 6, (by kernel_rfl)
        change wpList _ _ _ _ _ wb.drew
        generalize hWC : wb.drew = wc
        have hbC : Below wb.heap.size wb wc := by rw [← hWC]; exact (Below.refl _ _).drew
        have HRC := Lib.hid (HRB.out.below hbC)
        have HFC := Lib.hid (HFB1.out.below hbC (Nat.le_refl _))
        clear hWC hbC k9 d7 c0 c1 c2 c3 c4 c5 c6 c7
        go_wp2_with fail
        refine (HC.out _).mono ?_
        rintro e w7 ⟨rfl, hb7⟩
        have HRD := Lib.hid (HRC.out.below hb7)
        have HFD := Lib.hid (HFC.out.below hb7 (Nat.le_refl _))
        have hIL : Hid ((Try.prog.info? 63).map (·.size) = some 8) := Lib.hid info_rests
        have HO8 : Hid ((#[.int .i64 y0, .int .i64 y1, .int .i64 y2, .int .i64 y3, .int .i64 y4, .int .i64 y5, .int .i64 y6, .int .i64 y7] : Array Value).all (·.oneCell') = true) := Lib.hid (by rw [← HCY.out]; exact rowF_one 8 _)
        have HIZ : Hid ((rowF 8 (fitR a1 L0 j)).toArray.size = 8) := Lib.hid (by simp [rowF_len])
        clear hb7 HC HRB HRC HFB1 HFC HRA HFA1
        go_wp2_with (refine wpList_store_row rfl 63 (.tmp 6) (.tmp 38) rfl g6 #[.int .i64 y0, .int .i64 y1, .int .i64 y2, .int .i64 y3, .int .i64 y4, .int .i64 y5, .int .i64 y6, .int .i64 y7] rfl rfl 63 _ HRD.out.block hIL.out HIZ.out HO8.out ?_; generalize hw8 : World.setRow _ _ _ = w8; have HRN : Hid (RowIs w8 63 g6 g6 8 (fitR a1 L0 (j + 1))) := Lib.hid (RowIs.congr (by rw [← hw8, ← HCY.out]; exact RowIs.set w7 HRD.out.block (by unfold maxLen; omega)) HGF.out); have HFN : Hid (Filled w w.heap.size 3 1 (.slice (some ⟨g7, 0, none⟩) L0.length L0.length) L0.length ((fitS a1 L0 L0.length).map (Value.int .i64)) (j + 1) w8) := Lib.hid (by rw [← hw8]; exact HFD.out.farRow g6 _ hbs fun k hk e => by (have h1 : some g7 = some k := hk; injection h1 with h1; omega)); clear hw8)
        go_roundw
        case rel => exact ⟨j + 1, by omega, by go_num, HRN.out, HFN.out⟩
        case measure => simp [intOf]; omega
      · obtain rfl : j = L0.length := by omega
        have HA := Lib.hid (Filled.all (by rw [Nat.mul_one]; exact HF1.out) (by rw [List.length_map, HSL.out, Nat.mul_one]))
        have HV : Hid (OwnInts wr w.heap.size 3 (.slice (some ⟨g7, 0, none⟩) L0.length L0.length) (fitS a1 L0 L0.length)) := Lib.hid (by unfold OwnInts; rw [HSL.out]; exact HA.out.1)
        go_wp2
        go_ret2
        exact ⟨_, rfl, HV.out, HA.out.2⟩
end Go.Proofs.Ytacncacpcllgcaa
