/- FirstFit of the model; who checks that rails can be cut. No condition but the lists' lengths. -/
import Derived.Test.YtacncacpcllgcaaFitM
import Derived.Test.YtacncacpcllgcaaCuts
import Derived.Maps.AppendAt
namespace Go.Proofs.Ytacncacpcllgcaa
open Go.RowKit

theorem canBeCut_any (A0 : Option Addr) (c0 : Nat) (L0 : List Int) (a1 : Int) (w : World) (l0 : L0.length ≤ 1048576) (h0 : IntSl w A0 L0) :
    Calls Try.prog 96 #[.slice A0 L0.length c0, .int .i64 a1] w fun e w' => e = .returned (.bool (okFit L0 a1)) ∧ Below w.heap.size w w' := by
  have HG := Lib.hid (implRails_any A0 c0 L0 w l0 h0)
  have HA := Lib.hid fun W A h => areL1_any a1 W A h
  have H2 := Lib.hid (one_sl w a1 3)
  have HB := Lib.hid (below_new w (.cells #[.int .i64 a1] 3))
  cases hg : okRa L0
  · have hok : okFit L0 a1 = false := by unfold okFit; rw [hg]; rfl
    rw [hok]
    rw [hg] at HG
    clear hok hg HA h0
    go_enter Try.func96, Try.ntmps96
    go_wp2_with fail
    refine HG.out.mono ?_
    rintro e w1 ⟨rfl, rfl⟩
    go_wp2
    go_ret
    exact ⟨rfl, Below.refl _ _⟩
  · cases ha : okL a1
    · have hok : okFit L0 a1 = false := by unfold okFit; rw [hg, ha]; rfl
      rw [hok]
      rw [hg] at HG
      rw [ha] at HA
      clear hok hg ha h0
      go_enter Try.func96, Try.ntmps96
      go_wp2_with fail
      refine HG.out.mono ?_
      rintro e w1 ⟨rfl, rfl⟩
      go_wp2_with fail
      refine (HA.out _ _ H2.out).mono ?_
      rintro e w1 ⟨rfl, rfl⟩
      go_wp2
      go_ret
      exact ⟨rfl, HB.out⟩
    · obtain ⟨hl1, hl8⟩ := okRa_len hg
      have hX := okRa_mem hg
      have HE : Hid (okFit L0 a1 = decide (Lib.maxOf L0 ≤ a1)) := Lib.hid (by
        unfold okFit
        rw [hg, ha, Bool.true_and, Bool.true_and, ← minMax_all (by omega), decide_eq_true ((minOf_ge (by omega) 1).2 fun x hx => (hX x hx).1), Bool.true_and])
      have HX := Lib.hid (slMax_any A0 c0 L0 _ (by omega) l0 (h0.below HB.out))
      obtain ⟨x, hx⟩ : ∃ x, x = Lib.maxOf L0 := ⟨_, rfl⟩
      rw [← hx] at HE HX
      rw [hg] at HG
      rw [ha] at HA
      clear hg ha h0 hX hx
      go_enter Try.func96, Try.ntmps96
      go_wp2_with fail
      refine HG.out.mono ?_
      rintro e w1 ⟨rfl, rfl⟩
      go_wp2_with fail
      refine (HA.out _ _ H2.out).mono ?_
      rintro e w1 ⟨rfl, rfl⟩
      go_wp2_with fail
      refine HX.out.mono ?_
      rintro e w1 ⟨rfl, rfl⟩
      go_wp2
      go_ret
      exact ⟨ret_bool HE.out.symm, HB.out⟩
theorem poFits_any (A0 : Option Addr) (c0 : Nat) (L0 : List Int) (a1 : Int) (w : World) (l0 : L0.length ≤ 1048576) (h0 : IntSl w A0 L0) :
    Calls Try.prog 94 #[.slice A0 L0.length c0, .int .i64 a1] w fun e w' => e = .returned (.bool (okFit L0 a1)) ∧ w = w' := by
  have HG := Lib.hid (poGood_any A0 c0 L0 w l0 h0)
  have HA := Lib.hid (poLong_any a1 w)
  have HL := Lib.hid (l1All_any A0 c0 L0 1 a1 w l0 h0)
  cases hg : okRa L0
  · have hok : okFit L0 a1 = false := by unfold okFit; rw [hg]; rfl
    rw [hok]
    rw [hg] at HG
    clear hok hg HA h0 HL
    go_enter Try.func94, Try.ntmps94
    go_wp2_with fail
    refine HG.out.mono ?_
    rintro e w1 ⟨rfl, rfl⟩
    go_wp2
    go_ret
    exact ⟨rfl, rfl⟩
  · cases ha : okL a1
    · have hok : okFit L0 a1 = false := by unfold okFit; rw [hg, ha]; rfl
      rw [hok]
      rw [hg] at HG
      rw [ha] at HA
      clear hok hg ha h0 HL
      go_enter Try.func94, Try.ntmps94
      go_wp2_with fail
      refine HG.out.mono ?_
      rintro e w1 ⟨rfl, rfl⟩
      go_wp2_with fail
      refine HA.out.mono ?_
      rintro e w1 ⟨rfl, rfl⟩
      go_wp2
      go_ret
      exact ⟨rfl, rfl⟩
    · have HE : Hid (okFit L0 a1 = allIn 1 a1 L0) := Lib.hid (by unfold okFit; rw [hg, ha]; rfl)
      rw [hg] at HG
      rw [ha] at HA
      obtain ⟨x, hx⟩ : ∃ x, x = allIn 1 a1 L0 := ⟨_, rfl⟩
      rw [← hx] at HE HL
      clear hg ha h0 hx
      go_enter Try.func94, Try.ntmps94
      go_wp2_with fail
      refine HG.out.mono ?_
      rintro e w1 ⟨rfl, rfl⟩
      go_wp2_with fail
      refine HA.out.mono ?_
      rintro e w1 ⟨rfl, rfl⟩
      go_wp2_with fail
      refine HL.out.mono ?_
      rintro e w1 ⟨rfl, rfl⟩
      go_wp2
      go_ret
      exact ⟨ret_bool HE.out.symm, rfl⟩

theorem restsL_fit (bar : Int) (L : List Int) (j m : Nat) : restsL bar L (fitS bar L j) j m = (List.range m).map (fitR bar L j) := rfl
def fitQ (bar : Int) (L : List Int) (j m : Nat) : List Int := (List.range m).map (fitR bar L j)
theorem fitQ_len (bar : Int) (L : List Int) (j m : Nat) : (fitQ bar L j m).length = m := by simp [fitQ]
theorem fitQ_val (bar : Int) (L : List Int) (j m i : Nat) (h : i < m) : ((fitQ bar L j m).map (Value.int .i64))[i]? = some (.int .i64 (fitR bar L j i)) := by
  unfold fitQ; rw [List.map_map, List.getElem?_map, List.getElem?_range h]; rfl
theorem fitQ_snoc (bar : Int) (L : List Int) (j m : Nat) : fitQ bar L j (m + 1) = fitQ bar L j m ++ [fitR bar L j m] := by
  unfold fitQ; rw [List.range_succ, List.map_append]; rfl
theorem fitQ_store (bar : Int) (L : List Int) (j m : Nat) (h : fitK bar L j < m) : ((fitQ bar L j m).map (Value.int .i64)).set (fitK bar L j) (.int .i64 (fitR bar L j (fitK bar L j) - L.getD j 0)) = (fitQ bar L (j + 1) m).map (Value.int .i64) := by
  apply List.ext_getElem?
  intro i
  rw [List.getElem?_set, List.length_map, fitQ_len]
  by_cases hi : i < m
  · rw [fitQ_val bar L (j + 1) m i hi, fitR_succ]
    by_cases e : fitK bar L j = i
    · rw [if_pos e, if_pos h, if_pos e, e]
    · rw [if_neg e, fitQ_val bar L j m i hi, if_neg e]
  · rw [List.getElem?_eq_none (by rw [List.length_map, fitQ_len]; omega), List.getElem?_eq_none (by rw [List.length_map, fitQ_len]; omega)]
    by_cases e : fitK bar L j = i
    · omega
    · rw [if_neg e]

set_option maxHeartbeats 1000000 in
theorem specFirstFit_no (A0 : Option Addr) (c0 : Nat) (L0 : List Int) (a1 : Int) (w : World) (l0 : L0.length ≤ 1048576) (h0 : IntSl w A0 L0) (hok : (okFit L0 a1) = false) :
    Calls Try.prog 58 #[.slice A0 L0.length c0, .int .i64 a1] w fun e w' => e = .returned (.tuple #[.slice none 0 0, .bool false]) ∧ Below w.heap.size w w' := by
  have H0 := Lib.hid (poFits_any A0 c0 L0 a1 w l0 h0)
  cases h0 : okFit L0 a1
  · clear hok
    rw [h0] at H0
    clear h0
    go_enter Try.func58, Try.ntmps58
    go_wp2_with fail
    refine H0.out.mono ?_
    rintro e w1 ⟨rfl, rfl⟩
    go_wp2
    go_ret2
    exact ⟨rfl, Below.refl _ _⟩
  · rw [h0] at hok; simp at hok
set_option maxRecDepth 100000 in
set_option maxHeartbeats 4000000 in
theorem specFirstFit_any (A0 : Option Addr) (c0 : Nat) (L0 : List Int) (a1 : Int) (w : World) (l0 : L0.length ≤ 1048576) (_ : WfL L0) (_ : L0.length ≤ c0) (h0 : IntSl w A0 L0) (_ : (Lit.int .i64 a1).wf = true) :
    Calls Try.prog 58 #[.slice A0 L0.length c0, .int .i64 a1] w fun e w' => ∃ v, e = .returned (.tuple #[v, .bool (okFit L0 a1)]) ∧ OwnInts w' w.heap.size 3 v (fitL L0 a1) ∧ Below w.heap.size w w' := by
  obtain ⟨i0, hi, hz0, hz1, hz2⟩ := info_parts info_int
  cases hok : okFit L0 a1
  · rw [fitL_no hok]
    exact (specFirstFit_no A0 c0 L0 a1 w l0 h0 hok).mono fun e w' h => ⟨_, h.1, OwnInts.nil _ _ _, h.2⟩
  · rw [fitL_yes hok]
    have HP := Lib.hid (poFits_any A0 c0 L0 a1 w l0 h0)
    rw [hok] at HP
    obtain ⟨hr, hb, hL⟩ := okFit_at hok
    obtain ⟨hl1, hl8⟩ := okRa_len hr
    have hbb := okL_at hb
    have HLX := Lib.hid hL
    have HFI := Lib.hid fun j (hj : j < L0.length) => fit_is (by omega) hL hj (by omega)
    have HFA := Lib.hid fun j (hj : j ≤ L0.length) => fit_all (by omega) hL j hj (by omega)
    have H0 := Lib.hid h0
    clear hok hr hb hL h0
    go_enter Try.func58, Try.ntmps58
    go_wp2_with fail
    refine HP.out.mono ?_
    rintro e w1 ⟨rfl, rfl⟩
    go_wp2
    go_loopw [6, 7, 9, 10, 17] (fun u v _ _ i wr => ∃ j m : Nat, j ≤ L0.length ∧ i = .int .i64 j ∧ Hid (m = fitN a1 L0 j) ∧ m ≤ j ∧ OwnInts wr w.heap.size 3 u (fitS a1 L0 j) ∧ OwnInts wr w.heap.size 3 v (fitQ a1 L0 j m) ∧ Hid (∀ x y, u.ownBlock = some x → v.ownBlock = some y → x ≠ y) ∧ Below w.heap.size w wr) (fun _ _ _ _ i _ => L0.length - (intOf i).toNat)
    case atStart => exact ⟨0, 0, Nat.zero_le _, rfl, Lib.hid rfl, Nat.le_refl _, OwnInts.nil _ _ _, OwnInts.nil _ _ _, Lib.hid (by intro x y h; cases h), Below.refl _ _⟩
    case round =>
      obtain ⟨j, m, hj, rfl, HM, hmj, hown, hown2, HD, hb⟩ := hrel
      have HO := Lib.hid hown
      have HR := Lib.hid hown2
      have HB := Lib.hid hb
      clear hown hown2 hb
      by_cases hlt : j < L0.length
      · obtain ⟨⟨f1, f2, f3⟩, f4, f5⟩ := HFI.out j hlt
        obtain ⟨g0, o0, hA0, hg0, hat0⟩ := (H0.out.below HB.out).some (by omega)
        subst hA0
        have e1 := hat0 j hlt
        have bx := HLX.out L0[j] (List.getElem_mem _)
        rw [getD_lt L0 j hlt] at f2 f3
        have HFX0 := Lib.hid (HFA.out j hj).2
        obtain ⟨kf, hkf⟩ : ∃ k, k = fitK a1 L0 j := ⟨_, rfl⟩
        have HKF := Lib.hid hkf
        have HNS : Hid (fitN a1 L0 (j + 1) = max m (kf + 1)) := Lib.hid (by rw [fitN_succ, ← HM.out, ← hkf])
        have hkm : kf ≤ m := by have := HM.out; omega
        rw [← hkf] at f1 f2 f3
        obtain ⟨x, hx⟩ : ∃ x, x = fitR a1 L0 j kf := ⟨_, rfl⟩
        have HFX : Hid (fitR a1 L0 j kf = x) := Lib.hid hx.symm
        obtain ⟨r, hr⟩ : ∃ r, r = L0[j] := ⟨_, rfl⟩
        have HRX := Lib.hid hr
        have F3 := Lib.hid f3
        rw [← hx, ← hr] at f2
        rw [← hr] at e1 bx F3
        have hxb : x ≤ 4000 := by
          have h1 := restK_bd (bar := a1) (L := L0) (S := fitS a1 L0 j) (fun y hy => ⟨(HLX.out y hy).1, by have := (HLX.out y hy).2; omega⟩) hl8 (by omega) (i := kf) (j := j) hj
          rw [hx]
          have : restK a1 L0 (fitS a1 L0 j) kf j = fitR a1 L0 j kf := rfl
          omega
        have hx0 : 0 ≤ x := by rw [hx]; exact HFX0.out kf
        obtain ⟨A7, c7, hv7⟩ := HR.out.len
        rw [fitQ_len] at hv7
        subst hv7
        have HSQ := Lib.hid (IntSl.of_own HR.out)
        have hbs := HB.out.size
        have hj0 : (0 : Int) ≤ (j : Int) := by omega
        have hj1 : (j : Int) < (L0.length : Int) := by omega
        clear hat0 hkf hx hr f3 f4 f5
        go_wp2
        go_loopw [10] (fun i wi => ∃ q : Nat, q ≤ kf ∧ i = .int .i64 q ∧ wi = wr) (fun i _ => kf - (intOf i).toNat)
        case atStart => exact ⟨0, Nat.zero_le _, rfl, rfl⟩
        case round =>
          obtain ⟨q, hq, rfl, rfl⟩ := hrel
          have hq0 : (0 : Int) ≤ (q : Int) := by omega
          by_cases hqk : q < kf
          · obtain ⟨gq, oq, hAq, hgq, hatq⟩ := HSQ.out.some (by rw [fitQ_len]; omega)
            subst hAq
            have eq := hatq q (by rw [fitQ_len]; omega)
            rw [show (fitQ a1 L0 j m)[q]'(by rw [fitQ_len]; omega) = fitR a1 L0 j q by simp [fitQ]] at eq
            have hlt2 := F3.out q hqk
            have hqm : (q : Int) < (m : Int) := by omega
            obtain ⟨y, hy⟩ : ∃ y, y = fitR a1 L0 j q := ⟨_, rfl⟩
            rw [← hy] at eq hlt2
            clear hatq hy
            go_wp2
            go_roundw
            case rel => exact ⟨q + 1, by omega, by go_num, by trivial⟩
            case measure => simp [intOf]; omega
          · obtain rfl : q = kf := by omega
            by_cases hkm2 : q < m
            · obtain ⟨gq, oq, hAq, hgq, hatq⟩ := HSQ.out.some (by rw [fitQ_len]; omega)
              subst hAq
              have eq := hatq q (by rw [fitQ_len]; omega)
              rw [show (fitQ a1 L0 j m)[q]'(by rw [fitQ_len]; omega) = fitR a1 L0 j q by simp [fitQ], HFX.out] at eq
              have hqm : (q : Int) < (m : Int) := by omega
              have hne : ((q : Int) == (m : Int)) = false := by rw [beq_eq_false_iff_ne]; omega
              clear hatq
              have HR1 := HR
              have hm1 : max m (q + 1) = m := by omega
              have ho : wr.ownsRow w.heap.size 3 1 (.slice (some ⟨gq, oq, none⟩) m c7) m ((fitQ a1 L0 j m).map (Value.int .i64)) := by
                have := HR.out
                unfold OwnInts at this
                rw [fitQ_len] at this
                exact this
              obtain ⟨g, cg, hvg, hbg, hgl⟩ := own_some ho (by omega)
              injection hvg with hvA _ hvc
              injection hvA with hvA
              injection hvA with hva hvo _
              have hva' := hva.symm
              subst hva' hvo hvc
              have d1 : wr.cell? ⟨g, q, none⟩ = some (.int .i64 x) := by
                rw [ho.cellAt q (by omega), fitQ_val a1 L0 j m q (by omega), HFX.out]
              have fr1 := ho.frozenAt q
              have HST := Lib.hid (ho.stored q (.int .i64 (x - r)))
              have HSE : Hid (((fitQ a1 L0 j m).map (Value.int .i64)).set q (.int .i64 (x - r)) = (fitQ a1 L0 (j + 1) m).map (Value.int .i64)) := Lib.hid (by
                have := fitQ_store a1 L0 j m (by rw [← HKF.out]; omega)
                rw [getD_lt L0 j hlt, ← HKF.out, ← HRX.out, HFX.out] at this
                exact this)
              have HG := Lib.hid hbg
              have hos := fitS_len a1 L0 j
              have HO5 : Hid (OwnInts (wr.setCell ⟨g, q, none⟩ (.int .i64 (x - r))) w.heap.size 3 u6 (fitS a1 L0 j)) := Lib.hid (own_apart HO.out HST.out.2 fun k hk e => by
                have h1 : some g = some k := e
                injection h1 with h1
                exact HD.out k g hk rfl h1.symm)
              have HR5 : Hid (OwnInts (wr.setCell ⟨g, q, none⟩ (.int .i64 (x - r))) w.heap.size 3 (.slice (some ⟨g, 0, none⟩) m c7) (fitQ a1 L0 (j + 1) m)) := Lib.hid (by
                have h2 := HST.out.1
                rw [HSE.out] at h2
                unfold OwnInts
                rw [fitQ_len]
                exact h2)
              have HB5 := Lib.hid (below_store HB.out HG.out q (.int .i64 (x - r)))
              have hb5s := HB5.out.size
              have kk0 : (0 : Int) ≤ (q : Int) := by omega
              have kk1 : (q : Int) < ((m : Nat) : Int) := by omega
              have HSN : Hid (fitS a1 L0 (j + 1) = fitS a1 L0 j ++ [(q : Int)]) := Lib.hid (by rw [fitS_succ, ← HKF.out])
              clear ho
              go_wp2_with (at_builtin; refine wpList_append_own_at _ rfl (.tmp 50) (.tmp 52) _ rfl w.heap.size 3 i0 _ 1 8 Try.underlying26 hi hz0 hz1 hz2 rfl (by decide) _ (fitS a1 L0 j).length ((fitS a1 L0 j).map (Value.int .i64)) rfl (World.ownsRow.alloc HO5.out _) ⟨_, 0, none⟩ 1 1 [.int .i64 (q)] rfl rfl (World.news_of_block (cs := #[.int .i64 (q)]) (t := 3) (fr := (0, 0)) (by first | exact heap_alloc_new _ _ | exact heap_new_set _ _ _ _ _)) (by simp [Value.oneCell']) (by unfold maxLen; omega) (by omega) (by simp; omega) ?_; intro v' w3 hown' hgrow _ hat)
              have HO6 : Hid (OwnInts w3 w.heap.size 3 v' (fitS a1 L0 (j + 1))) := Lib.hid (by rw [HSN.out]; exact OwnInts.snoc hown')
              have HR6 : Hid (OwnInts w3 w.heap.size 3 (.slice (some ⟨g, 0, none⟩) m c7) (fitQ a1 L0 (j + 1) m)) := Lib.hid (own_apart (HR5.out.below (below_new _ _)) hgrow fun k hk e => HD.out k g e rfl (by
                have h1 : some g = some k := hk
                injection h1 with h1
                exact h1.symm))
              have HD6 : Hid (∀ a b, v'.ownBlock = some a → (Value.slice (some ⟨g, 0, none⟩) m c7).ownBlock = some b → a ≠ b) := Lib.hid fun a b ha hb' => by
                have h1 : some g = some b := hb'
                injection h1 with h1
                have hgz : g < (wr.setCell ⟨g, q, none⟩ (.int .i64 (x - r))).heap.size := (OwnInts.lt HR5.out g rfl).2
                rcases hat with h2 | h2
                · rw [h2] at ha
                  exact HD.out a b ha hb'
                · rw [h2] at ha
                  injection ha with ha
                  rw [World.size_alloc] at ha
                  omega
              have HB6 : Hid (Below w.heap.size w w3) := Lib.hid ((HB5.out.alloc hb5s _).grown hgrow (by simp; omega) fun k hk => (World.ownsRow.lt HO5.out k hk).1)
              clear hown' hgrow hat
              go_wp2
              go_roundw
              case rel => exact ⟨j + 1, m, by omega, by go_num, Lib.hid (by rw [HNS.out]; omega), by omega, HO6.out, HR6.out, HD6, HB6.out⟩
              case measure => simp [intOf]; omega
            · obtain rfl : m = q := by omega
              have HWH : Hid (fitR a1 L0 j m = a1) := Lib.hid (fitR_whole (by rw [← HM.out]; exact Nat.le_refl _))
              have heq : ((m : Int) == (m : Int)) = true := by rw [beq_iff_eq]
              have hnlt : ¬ (m : Int) < (m : Int) := by omega
              have HQN : Hid (fitQ a1 L0 j (m + 1) = fitQ a1 L0 j m ++ [a1]) := Lib.hid (by rw [fitQ_snoc, HWH.out])
              have hlq := fitQ_len a1 L0 j m
              go_wp2_with (at_builtin; refine wpList_append_own_at _ rfl (.tmp 39) (.tmp 41) _ rfl w.heap.size 3 i0 _ 1 8 Try.underlying26 hi hz0 hz1 hz2 rfl (by decide) _ (fitQ a1 L0 j m).length ((fitQ a1 L0 j m).map (Value.int .i64)) rfl (World.ownsRow.alloc HR.out _) ⟨_, 0, none⟩ 1 1 [.int .i64 (a1)] rfl rfl (World.news_of_block (cs := #[.int .i64 (a1)]) (t := 3) (fr := (0, 0)) (by first | exact heap_alloc_new _ _ | exact heap_new_set _ _ _ _ _)) (by simp [Value.oneCell']) (by unfold maxLen; omega) (by omega) (by simp; omega) ?_; intro v' w3 hown' hgrow _ hat)
              have HRn : Hid (OwnInts w3 w.heap.size 3 v' (fitQ a1 L0 j (m + 1))) := Lib.hid (by rw [HQN.out]; exact OwnInts.snoc hown')
              have HOn : Hid (OwnInts w3 w.heap.size 3 u6 (fitS a1 L0 j)) := Lib.hid (own_apart (HO.out.below (below_new _ _)) hgrow fun k hk e => HD.out k k hk e rfl)
              have HDn : Hid (∀ a b, u6.ownBlock = some a → v'.ownBlock = some b → a ≠ b) := Lib.hid fun a b ha hb' => by
                have hgz := (OwnInts.lt HO.out a ha).2
                rcases hat with h2 | h2
                · rw [h2] at hb'
                  exact HD.out a b ha hb'
                · rw [h2] at hb'
                  injection hb' with hb'
                  rw [World.size_alloc] at hb'
                  omega
              have HBn : Hid (Below w.heap.size w w3) := Lib.hid ((HB.out.alloc hbs _).grown hgrow (by simp; omega) fun k hk => (World.ownsRow.lt HR.out k hk).1)
              obtain ⟨A8, c8, hv8⟩ := HRn.out.len
              rw [fitQ_len] at hv8
              subst hv8
              clear hown' hgrow hat
              have hbs4 := HBn.out.size
              obtain ⟨w4, hw4⟩ : ∃ w4, w4 = w3 := ⟨_, rfl⟩
              rw [← hw4] at HRn HOn HBn hbs4 ⊢
              clear hw4
              have ho : w4.ownsRow w.heap.size 3 1 (.slice A8 (m + 1) c8) (m + 1) ((fitQ a1 L0 j (m + 1)).map (Value.int .i64)) := by
                have := HRn.out
                unfold OwnInts at this
                rw [fitQ_len] at this
                exact this
              obtain ⟨g, cg, hvg, hbg, hgl⟩ := own_some ho (by omega)
              injection hvg with hvA _ hvc
              subst hvA hvc
              have d1 : w4.cell? ⟨g, m, none⟩ = some (.int .i64 x) := by
                rw [ho.cellAt m (by omega), fitQ_val a1 L0 j (m + 1) m (by omega), HFX.out]
              have fr1 := ho.frozenAt m
              have HST := Lib.hid (ho.stored m (.int .i64 (x - r)))
              have HSE : Hid (((fitQ a1 L0 j (m + 1)).map (Value.int .i64)).set m (.int .i64 (x - r)) = (fitQ a1 L0 (j + 1) (m + 1)).map (Value.int .i64)) := Lib.hid (by
                have := fitQ_store a1 L0 j (m + 1) (by rw [← HKF.out]; omega)
                rw [getD_lt L0 j hlt, ← HKF.out, ← HRX.out, HFX.out] at this
                exact this)
              have HG := Lib.hid hbg
              have hos := fitS_len a1 L0 j
              have HO5 : Hid (OwnInts (w4.setCell ⟨g, m, none⟩ (.int .i64 (x - r))) w.heap.size 3 u6 (fitS a1 L0 j)) := Lib.hid (own_apart HOn.out HST.out.2 fun k hk e => by
                have h1 : some g = some k := e
                injection h1 with h1
                exact HDn.out k g hk rfl h1.symm)
              have HR5 : Hid (OwnInts (w4.setCell ⟨g, m, none⟩ (.int .i64 (x - r))) w.heap.size 3 (.slice (some ⟨g, 0, none⟩) (m + 1) c8) (fitQ a1 L0 (j + 1) (m + 1))) := Lib.hid (by
                have h2 := HST.out.1
                rw [HSE.out] at h2
                unfold OwnInts
                rw [fitQ_len]
                exact h2)
              have HB5 := Lib.hid (below_store HBn.out HG.out m (.int .i64 (x - r)))
              have hb5s := HB5.out.size
              have kk0 : (0 : Int) ≤ (m : Int) := by omega
              have kk1 : (m : Int) < (((m + 1) : Nat) : Int) := by omega
              have HSN : Hid (fitS a1 L0 (j + 1) = fitS a1 L0 j ++ [(m : Int)]) := Lib.hid (by rw [fitS_succ, ← HKF.out])
              clear ho
              go_wp2_with (at_builtin; refine wpList_append_own_at _ rfl (.tmp 50) (.tmp 52) _ rfl w.heap.size 3 i0 _ 1 8 Try.underlying26 hi hz0 hz1 hz2 rfl (by decide) _ (fitS a1 L0 j).length ((fitS a1 L0 j).map (Value.int .i64)) rfl (World.ownsRow.alloc HO5.out _) ⟨_, 0, none⟩ 1 1 [.int .i64 (m)] rfl rfl (World.news_of_block (cs := #[.int .i64 (m)]) (t := 3) (fr := (0, 0)) (by first | exact heap_alloc_new _ _ | exact heap_new_set _ _ _ _ _)) (by simp [Value.oneCell']) (by unfold maxLen; omega) (by omega) (by simp; omega) ?_; intro v' w3 hown' hgrow _ hat)
              have HO6 : Hid (OwnInts w3 w.heap.size 3 v' (fitS a1 L0 (j + 1))) := Lib.hid (by rw [HSN.out]; exact OwnInts.snoc hown')
              have HR6 : Hid (OwnInts w3 w.heap.size 3 (.slice (some ⟨g, 0, none⟩) (m + 1) c8) (fitQ a1 L0 (j + 1) (m + 1))) := Lib.hid (own_apart (HR5.out.below (below_new _ _)) hgrow fun k hk e => HDn.out k g e rfl (by
                have h1 : some g = some k := hk
                injection h1 with h1
                exact h1.symm))
              have HD6 : Hid (∀ a b, v'.ownBlock = some a → (Value.slice (some ⟨g, 0, none⟩) (m + 1) c8).ownBlock = some b → a ≠ b) := Lib.hid fun a b ha hb' => by
                have h1 : some g = some b := hb'
                injection h1 with h1
                have hgz : g < (w4.setCell ⟨g, m, none⟩ (.int .i64 (x - r))).heap.size := (OwnInts.lt HR5.out g rfl).2
                rcases hat with h2 | h2
                · rw [h2] at ha
                  exact HDn.out a b ha hb'
                · rw [h2] at ha
                  injection ha with ha
                  rw [World.size_alloc] at ha
                  omega
              have HB6 : Hid (Below w.heap.size w w3) := Lib.hid ((HB5.out.alloc hb5s _).grown hgrow (by simp; omega) fun k hk => (World.ownsRow.lt HO5.out k hk).1)
              clear hown' hgrow hat
              go_wp2
              go_roundw
              case rel => exact ⟨j + 1, (m + 1), by omega, by go_num, Lib.hid (by rw [HNS.out]; omega), by omega, HO6.out, HR6.out, HD6, HB6.out⟩
              case measure => simp [intOf]; omega
      · obtain rfl : j = L0.length := by omega
        go_wp2
        go_ret2
        exact ⟨_, rfl, HO.out, HB.out⟩
end Go.Proofs.Ytacncacpcllgcaa
