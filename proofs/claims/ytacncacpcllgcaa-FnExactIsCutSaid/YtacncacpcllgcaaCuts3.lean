/- RestsOfCut and IsCut of the model. No condition but the lists' lengths. -/
import Derived.Test.YtacncacpcllgcaaCutMath
namespace Go.Proofs.Ytacncacpcllgcaa
open Go.RowKit

set_option maxRecDepth 100000 in
set_option maxHeartbeats 4000000 in
theorem poRests_any (A0 : Option Addr) (c0 : Nat) (L : List Int) (bar : Int) (A2 : Option Addr) (c2 : Nat) (S : List Int) (w : World) (hr : okRa L = true) (hb : okL bar = true) (hS : S.length = L.length) (h0 : IntSl w A0 L) (h2 : IntSl w A2 S) :
    Calls Try.prog 89 #[.slice A0 L.length c0, .int .i64 bar, .slice A2 S.length c2] w fun e w' => ∃ v, e = .returned (.tuple #[v, .bool (isCutB bar L S)]) ∧ OwnInts w' w.heap.size 3 v (cutL bar L S) ∧ Below w.heap.size w w' := by
  obtain ⟨i0, hi, hz0, hz1, hz2⟩ := info_parts info_int
  obtain ⟨hl1, hl8⟩ := okRa_len hr
  have HLX := Lib.hid (okRa_mem hr)
  have hbb := okL_at hb
  have HNo := Lib.hid fun h => cutL_no (bar := bar) (L := L) (S := S) h
  have HYes := Lib.hid fun h => cutL_yes (bar := bar) (L := L) (S := S) h
  have HIW := Lib.hid fun j (hj : j < S.length) h => idx_wrong (bar := bar) (L := L) hj h
  have HOK : Hid (isCutB bar L S = (idxOk S && restOk bar (restsL bar L S S.length (lenK S S.length)))) := Lib.hid (by unfold isCutB; rw [decide_eq_true hS, Bool.true_and])
  obtain ⟨R, hR⟩ : ∃ R, R = cutL bar L S := ⟨_, rfl⟩
  obtain ⟨ok, hk⟩ : ∃ ok, ok = isCutB bar L S := ⟨_, rfl⟩
  rw [← hR, ← hk] at HNo HYes ⊢
  rw [← hk] at HIW HOK
  have HFB := Lib.hid fun i j (hj : j ≤ L.length) => restK_bd (bar := bar) (L := L) (S := S) HLX.out hl8 (by omega) (i := i) (j := j) hj
  have HSL := Lib.hid hS
  have H0 := Lib.hid h0
  have H2 := Lib.hid h2
  have hS8 : S.length ≤ 8 := by omega
  clear hr hb hR hk h0 h2 hS
  go_enter Try.func89, Try.ntmps89
  go_wp2
  go_loopw [8, 9, 10, 15] (fun v _ _ i wr => ∃ j : Nat, j ≤ S.length ∧ i = .int .i64 j ∧ Hid (∀ k (hk : k < S.length), k < j → 0 ≤ S[k] ∧ S[k] ≤ 7) ∧ lenK S j ≤ 8 ∧ OwnInts wr w.heap.size 3 v (restsL bar L S j (lenK S j)) ∧ Below w.heap.size w wr) (fun _ _ _ i _ => S.length - (intOf i).toNat)
  case atStart => exact ⟨0, Nat.zero_le _, rfl, Lib.hid fun k _ h => absurd h (Nat.not_lt_zero _), Nat.zero_le _, OwnInts.nil _ _ _, Below.refl _ _⟩
  case round =>
    obtain ⟨j, hj, rfl, HQ, hle, hown, hb⟩ := hrel
    have HO := Lib.hid hown
    have HB := Lib.hid hb
    clear hown hb
    by_cases hjt : j < S.length
    · have hjL : j < L.length := by have := HSL.out; omega
      obtain ⟨g2, o2, hA2, hg2, hat2⟩ := (H2.out.below HB.out).some (by omega)
      subst hA2
      have e2 := hat2 j hjt
      have HI := Lib.hid fun W => l1In_any S[j] 0 7 W
      clear hat2
      by_cases hk : 0 ≤ S[j] ∧ S[j] ≤ 7
      · rw [decide_eq_true hk] at HI
        obtain ⟨k, hkk⟩ : ∃ k : Nat, S[j] = (k : Int) := ⟨S[j].toNat, by omega⟩
        have HKK := Lib.hid hkk
        have hk7 : k ≤ 7 := by omega
        rw [hkk] at HI e2
        have HM : Hid (lenK S (j + 1) = max (lenK S j) (k + 1)) := Lib.hid (by
          show max (lenK S j) (S.getD j 0 + 1).toNat = _
          rw [getD_lt S j hjt, hkk]
          omega)
        have HQ2 : Hid (∀ k (hk : k < S.length), k < j + 1 → 0 ≤ S[k] ∧ S[k] ≤ 7) := Lib.hid fun k2 hk2 hlt => by
          by_cases e : k2 = j
          · subst e; exact hk
          · exact HQ.out k2 hk2 (by omega)
        have hj0 : (0 : Int) ≤ (j : Int) := by omega
        have hj1 : (j : Int) < (S.length : Int) := by omega
        obtain ⟨q0, hq0⟩ : ∃ q, q = lenK S j := ⟨_, rfl⟩
        have HQ0 := Lib.hid hq0
        rw [← hq0] at HO HM hle
        clear hk hkk hq0
        go_wp2_with fail
        refine (HI.out _).mono ?_
        rintro e w1 ⟨rfl, rfl⟩
        go_wp2
        go_loopw [8] (fun v wi => ∃ q : Nat, q0 ≤ q ∧ q ≤ max q0 (k + 1) ∧ OwnInts wi w.heap.size 3 v (restsL bar L S j q) ∧ Below w.heap.size w wi) (fun v _ => 9 - lenV v)
        case atStart => exact ⟨q0, Nat.le_refl _, by omega, HO.out, HB.out⟩
        case round =>
          obtain ⟨q, hq1, hq2, hown, hb⟩ := hrel
          have HOq := Lib.hid hown
          have HBq := Lib.hid hb
          have hqs := hb.size
          obtain ⟨A, c, hv⟩ := hown.len
          have hlq := restsL_len bar L S j q
          rw [hlq] at hv
          subst hv
          clear hown hb HO HB
          by_cases hqk : q ≤ k
          · have HW : Hid (restsL bar L S j (q + 1) = restsL bar L S j q ++ [bar]) := Lib.hid (by rw [restsL_snoc, restK_whole j (by rw [← HQ0.out]; exact hq1)])
            go_wp2_with (at_builtin; refine wpList_append_own _ rfl (.tmp 27) (.tmp 29) _ rfl w.heap.size 3 i0 _ 1 8 Try.underlying26 hi hz0 hz1 hz2 rfl (by decide) _ (restsL bar L S j q).length ((restsL bar L S j q).map (Value.int .i64)) rfl (World.ownsRow.alloc HOq.out _) ⟨_, 0, none⟩ 1 1 [.int .i64 (bar)] rfl rfl (World.news_of_block (cs := #[.int .i64 (bar)]) (t := 3) (fr := (0, 0)) (heap_alloc_new _ _)) (by simp [Value.oneCell']) (by unfold maxLen; omega) (by omega) (by simp; omega) ?_; intro v' w3 hown' hgrow _)
            have HR : Hid (OwnInts w3 w.heap.size 3 v' (restsL bar L S j (q + 1))) := Lib.hid (by rw [HW.out]; exact OwnInts.snoc hown')
            have HB3 : Hid (Below w.heap.size w w3) := Lib.hid ((HBq.out.alloc hqs _).grown hgrow (by simp; omega) fun k hk => (World.ownsRow.lt HOq.out k hk).1)
            obtain ⟨A', c', hv'⟩ := HR.out.len
            rw [restsL_len] at hv'
            subst hv'
            clear hown' hgrow
            go_wp2
            go_roundw
            case rel => exact ⟨q + 1, by omega, by omega, HR.out, HB3.out⟩
            case measure => simp [lenV]; omega
          · have hqe : q = max q0 (k + 1) := by omega
            have ho : wr.ownsRow w.heap.size 3 1 (.slice A q c) q ((restsL bar L S j q).map (Value.int .i64)) := by
              have := HOq.out
              unfold OwnInts at this
              rw [hlq] at this
              exact this
            obtain ⟨g, cg, hvg, hbg, hgl⟩ := own_some ho (by omega)
            injection hvg with hvA _ hvc
            subst hvA hvc
            have d1 : wr.cell? ⟨g, k, none⟩ = some (.int .i64 (restK bar L S k j)) := by
              rw [ho.cellAt k (by omega), restsL_val bar L S j q k (by omega)]
            have f1 := ho.frozenAt k
            have HST := Lib.hid (ho.stored k (.int .i64 (restK bar L S k j - L.getD j 0)))
            have HSE := Lib.hid (restsL_store (bar := bar) (L := L) (S := S) (q := q) hjt HKK.out (by omega))
            obtain ⟨g0, o0, hA0, hg0, hat0⟩ := (H0.out.below HBq.out).some (by omega)
            subst hA0
            have e1 := hat0 j hjL
            have bx := HLX.out L[j] (List.getElem_mem _)
            have bf := HFB.out k j (by omega)
            rw [getD_lt L j hjL] at HST HSE
            obtain ⟨x, hxx⟩ : ∃ x, x = L[j] := ⟨_, rfl⟩
            obtain ⟨f, hff⟩ : ∃ f, f = restK bar L S k j := ⟨_, rfl⟩
            rw [← hxx] at e1 bx HST HSE
            rw [← hff] at d1 bf HST HSE
            have HG := Lib.hid hbg
            have kk0 : (0 : Int) ≤ (k : Int) := by omega
            have kk1 : (k : Int) < (q : Int) := by omega
            have kj1 : (j : Int) < (L.length : Int) := by omega
            have k2 : IntKind.i64.wrap (f - x) = f - x := by rw [IntKind.wrap_i64]; omega
            clear hat0 ho hxx hff
            go_wp2
            go_region
            go_wp2
            go_roundw
            case rel =>
              refine ⟨j + 1, by omega, by go_num, HQ2, by rw [HM.out]; omega, ?_, (below_store HBq.out HG.out k _).drew⟩
              have h2 := HST.out.1
              rw [HSE.out] at h2
              rw [HM.out, ← hqe]
              unfold OwnInts
              rw [restsL_len]
              exact World.ownsRow.drew h2
            case measure => simp [intOf]; omega
      · rw [decide_eq_false hk] at HI
        have HV : Hid (ok = false) := Lib.hid (HIW.out j hjt hk)
        clear hk
        go_wp2_with fail
        refine (HI.out _).mono ?_
        rintro e w1 ⟨rfl, rfl⟩
        go_wp2
        go_ret2
        exact ⟨_, by (rw [HV.out]; first | done | rfl), by rw [HNo.out HV.out]; exact OwnInts.nil _ _ _, HB.out⟩
    · obtain rfl : j = S.length := by omega
      have hidx : idxOk S = true := idxOk_of fun k hk => HQ.out k hk hk
      obtain ⟨m, hm⟩ : ∃ m, m = lenK S S.length := ⟨_, rfl⟩
      rw [← hm] at HOK HYes HO hle
      rw [hidx, Bool.true_and] at HOK
      have hPL := restsL_len bar L S S.length m
      obtain ⟨Q, hQ'⟩ : ∃ Q, Q = restsL bar L S S.length m := ⟨_, rfl⟩
      rw [← hQ'] at HOK HYes HO hPL
      have hQl : Q.length ≤ 8 := by omega
      have HRN := Lib.hid fun x hx h => restOk_no (bar := bar) (R := Q) (x := x) hx h
      obtain ⟨A, c, hv⟩ := HO.out.len
      subst hv
      have HSI := Lib.hid (IntSl.of_own HO.out)
      clear hm hidx hPL hQ'
      go_wp2
      go_loopw [12, 44] (fun _ i wi => ∃ k : Nat, k ≤ Q.length ∧ i = .int .i64 k ∧ wi = wr ∧ Hid (∀ i (hi : i < Q.length), i < k → 0 ≤ Q[i] ∧ Q[i] ≠ bar)) (fun _ i _ => Q.length - (intOf i).toNat)
      case atStart => exact ⟨0, Nat.zero_le _, rfl, rfl, Lib.hid fun i _ h => absurd h (Nat.not_lt_zero _)⟩
      case round =>
        obtain ⟨k, hk, rfl, rfl, HG⟩ := hrel
        by_cases hkt : k < Q.length
        · obtain ⟨g0, o0, hA, hg0, hat0⟩ := HSI.out.some (by omega)
          subst hA
          have e1 := hat0 k hkt
          have HMem : Hid (Q[k] ∈ Q) := Lib.hid (List.getElem_mem hkt)
          have HG2 : Hid (0 ≤ Q[k] ∧ Q[k] ≠ bar → ∀ i (hi : i < Q.length), i < k + 1 → 0 ≤ Q[i] ∧ Q[i] ≠ bar) := Lib.hid fun h i hi h2 => by
            by_cases e : i = k
            · subst e; exact h
            · exact HG.out i hi (by omega)
          obtain ⟨x, hxx⟩ : ∃ x, x = Q[k] := ⟨_, rfl⟩
          rw [← hxx] at e1 HMem HG2
          have hk0 : (0 : Int) ≤ (k : Int) := by omega
          have hk1 : (k : Int) < (Q.length : Int) := by omega
          clear hat0 hxx
          by_cases hx0 : x < 0
          · have HV : Hid (ok = false) := Lib.hid (by rw [HOK.out, HRN.out x HMem.out (.inl hx0)])
            go_wp2
            go_ret2
            exact ⟨_, by (rw [HV.out]; first | done | rfl), by rw [HNo.out HV.out]; exact OwnInts.nil _ _ _, HB.out⟩
          · by_cases hxb : x = bar
            · have HV : Hid (ok = false) := Lib.hid (by rw [HOK.out, HRN.out x HMem.out (.inr hxb)])
              have hb1 : (x == bar) = true := by rw [beq_iff_eq]; exact hxb
              clear hxb
              go_wp2
              go_ret2
              exact ⟨_, by (rw [HV.out]; first | done | rfl), by rw [HNo.out HV.out]; exact OwnInts.nil _ _ _, HB.out⟩
            · have hb1 : (x == bar) = false := by rw [beq_eq_false_iff_ne]; exact hxb
              have HG3 := Lib.hid (HG2.out ⟨by omega, hxb⟩)
              clear hxb HG2
              go_wp2
              go_roundw
              case rel => exact ⟨k + 1, by omega, by go_num, by trivial, HG3⟩
              case measure => simp [intOf]; omega
        · obtain rfl : k = Q.length := by omega
          have HV : Hid (ok = true) := Lib.hid (by rw [HOK.out]; exact restOk_of fun k hk => HG.out k hk hk)
          go_wp2
          go_ret2
          exact ⟨_, by (rw [HV.out]; first | done | rfl), by rw [HYes.out HV.out]; exact HO.out, HB.out⟩

theorem poIs_any (A0 : Option Addr) (c0 : Nat) (L : List Int) (bar : Int) (A2 : Option Addr) (c2 : Nat) (S : List Int) (w : World) (hr : okRa L = true) (hb : okL bar = true) (h0 : IntSl w A0 L) (h2 : IntSl w A2 S) :
    Calls Try.prog 88 #[.slice A0 L.length c0, .int .i64 bar, .slice A2 S.length c2] w fun e w' => e = .returned (.bool (isCutB bar L S)) ∧ Below w.heap.size w w' := by
  by_cases hS : S.length = L.length
  · have HP := Lib.hid (poRests_any A0 c0 L bar A2 c2 S w hr hb hS h0 h2)
    have hne : ((S.length : Int) != (L.length : Int)) = false := by rw [hS]; simp
    rw [hS] at HP ⊢
    rw [hS] at hne
    obtain ⟨ok, hk⟩ : ∃ ok, ok = isCutB bar L S := ⟨_, rfl⟩
    rw [← hk] at HP ⊢
    clear hr hb hS h0 h2 hk
    go_enter Try.func88, Try.ntmps88
    go_wp2_with fail
    refine HP.out.mono ?_
    rintro e w1 ⟨v, rfl, -, hb⟩
    go_wp2
    go_ret
    exact ⟨rfl, hb⟩
  · have hno : isCutB bar L S = false := by unfold isCutB; rw [decide_eq_false hS]; rfl
    rw [hno]
    have hne : ((S.length : Int) != (L.length : Int)) = true := by rw [bne_iff_ne]; omega
    clear hno hr hb hS h0 h2
    go_enter Try.func88, Try.ntmps88
    go_wp2
    go_ret
    exact ⟨rfl, Below.refl _ _⟩
set_option maxHeartbeats 1000000 in
theorem specIsCut_no (A0 : Option Addr) (c0 : Nat) (L0 : List Int) (a1 : Int) (A2 : Option Addr) (c2 : Nat) (L2 : List Int) (w : World) (l0 : L0.length ≤ 1048576) (h0 : IntSl w A0 L0) (hok : (okRa L0 && okL a1) = false) :
    Calls Try.prog 50 #[.slice A0 L0.length c0, .int .i64 a1, .slice A2 L2.length c2] w fun e w' => e = .returned (.tuple #[.bool false, .bool false]) ∧ Below w.heap.size w w' := by
  have H0 := Lib.hid (poGood_any A0 c0 L0 w l0 h0)
  have H1 := Lib.hid (poLong_any a1 w)
  cases h0 : okRa L0
  · clear hok
    rw [h0] at H0
    clear h0 H1
    go_enter Try.func50, Try.ntmps50
    go_wp2_with fail
    refine H0.out.mono ?_
    rintro e w1 ⟨rfl, rfl⟩
    go_wp2
    go_ret2
    exact ⟨rfl, Below.refl _ _⟩
  · skip
    cases h1 : okL a1
    · clear hok
      rw [h0] at H0
      rw [h1] at H1
      clear h0 h1
      go_enter Try.func50, Try.ntmps50
      go_wp2_with fail
      refine H0.out.mono ?_
      rintro e w1 ⟨rfl, rfl⟩
      go_wp2_with fail
      refine H1.out.mono ?_
      rintro e w1 ⟨rfl, rfl⟩
      go_wp2
      go_ret2
      exact ⟨rfl, Below.refl _ _⟩
    · rw [h0, h1] at hok; simp at hok
theorem specIsCut_any (A0 : Option Addr) (c0 : Nat) (L0 : List Int) (a1 : Int) (A2 : Option Addr) (c2 : Nat) (L2 : List Int) (w : World) (l0 : L0.length ≤ 1048576) (_ : WfL L0) (_ : L0.length ≤ c0) (h0 : IntSl w A0 L0) (_ : (Lit.int .i64 a1).wf = true) (_ : L2.length ≤ 1048576) (_ : WfL L2) (_ : L2.length ≤ c2) (h2 : IntSl w A2 L2) :
    Calls Try.prog 50 #[.slice A0 L0.length c0, .int .i64 a1, .slice A2 L2.length c2] w fun e w' => e = .returned (.tuple #[.bool (okCt L0 a1 L2), .bool (okRa L0 && okL a1)]) ∧ Below w.heap.size w w' := by
  cases hok : (okRa L0 && okL a1)
  · rw [show okCt L0 a1 L2 = false by unfold okCt; rw [hok]; rfl]
    exact specIsCut_no A0 c0 L0 a1 A2 c2 L2 w l0 h0 hok
  · have hk : okCt L0 a1 L2 = isCutB a1 L0 L2 := by unfold okCt; rw [hok]; rfl
    rw [hk]
    rw [Bool.and_eq_true] at hok
    obtain ⟨hg, ha⟩ := hok
    have HG := Lib.hid (poGood_any A0 c0 L0 w l0 h0)
    have HA := Lib.hid (poLong_any a1 w)
    rw [hg] at HG
    rw [ha] at HA
    have HI := Lib.hid (poIs_any A0 c0 L0 a1 A2 c2 L2 w hg ha h0 h2)
    obtain ⟨ok, hk⟩ : ∃ ok, ok = isCutB a1 L0 L2 := ⟨_, rfl⟩
    rw [← hk] at HI ⊢
    clear hg ha hk h0 h2
    go_enter Try.func50, Try.ntmps50
    go_wp2_with fail
    refine HG.out.mono ?_
    rintro e w1 ⟨rfl, rfl⟩
    go_wp2_with fail
    refine HA.out.mono ?_
    rintro e w1 ⟨rfl, rfl⟩
    go_wp2_with fail
    refine HI.out.mono ?_
    rintro e w1 ⟨rfl, hb⟩
    go_wp2
    go_ret2
    exact ⟨rfl, hb⟩
theorem specRestsOfCut_any (A0 : Option Addr) (c0 : Nat) (L0 : List Int) (a1 : Int) (A2 : Option Addr) (c2 : Nat) (L2 : List Int) (w : World) (l0 : L0.length ≤ 1048576) (_ : WfL L0) (_ : L0.length ≤ c0) (h0 : IntSl w A0 L0) (_ : (Lit.int .i64 a1).wf = true) (_ : L2.length ≤ 1048576) (_ : WfL L2) (_ : L2.length ≤ c2) (h2 : IntSl w A2 L2) :
    Calls Try.prog 52 #[.slice A0 L0.length c0, .int .i64 a1, .slice A2 L2.length c2] w fun e w' => ∃ v, e = .returned (.tuple #[v, .bool (okCt L0 a1 L2)]) ∧ OwnInts w' w.heap.size 3 v (ctL L0 a1 L2) ∧ Below w.heap.size w w' := by
  have HG := Lib.hid (poGood_any A0 c0 L0 w l0 h0)
  have HA := Lib.hid (poLong_any a1 w)
  cases hg : okRa L0
  · have hok : okCt L0 a1 L2 = false := by unfold okCt; rw [hg]; rfl
    have hl : ctL L0 a1 L2 = [] := by unfold ctL; rw [hg]; rfl
    rw [hok, hl]
    rw [hg] at HG
    clear hok hl hg HA h0 h2
    go_enter Try.func52, Try.ntmps52
    go_wp2_with fail
    refine HG.out.mono ?_
    rintro e w1 ⟨rfl, rfl⟩
    go_wp2
    go_ret2
    exact ⟨_, rfl, OwnInts.nil _ _ _, Below.refl _ _⟩
  · cases ha : okL a1
    · have hok : okCt L0 a1 L2 = false := by unfold okCt; rw [hg, ha]; rfl
      have hl : ctL L0 a1 L2 = [] := by unfold ctL; rw [hg, ha]; rfl
      rw [hok, hl]
      rw [hg] at HG
      rw [ha] at HA
      clear hok hl hg ha h0 h2
      go_enter Try.func52, Try.ntmps52
      go_wp2_with fail
      refine HG.out.mono ?_
      rintro e w1 ⟨rfl, rfl⟩
      go_wp2_with fail
      refine HA.out.mono ?_
      rintro e w1 ⟨rfl, rfl⟩
      go_wp2
      go_ret2
      exact ⟨_, rfl, OwnInts.nil _ _ _, Below.refl _ _⟩
    · have hk : okCt L0 a1 L2 = isCutB a1 L0 L2 := by unfold okCt; rw [hg, ha]; rfl
      have hl : ctL L0 a1 L2 = cutL a1 L0 L2 := by unfold ctL; rw [hg, ha]; rfl
      rw [hk, hl]
      have HI := Lib.hid (poIs_any A0 c0 L0 a1 A2 c2 L2 w hg ha h0 h2)
      rw [hg] at HG
      rw [ha] at HA
      cases hc : isCutB a1 L0 L2
      · rw [cutL_no hc]
        rw [hc] at HI
        clear hk hl hg ha h0 h2 hc
        go_enter Try.func52, Try.ntmps52
        go_wp2_with fail
        refine HG.out.mono ?_
        rintro e w1 ⟨rfl, rfl⟩
        go_wp2_with fail
        refine HA.out.mono ?_
        rintro e w1 ⟨rfl, rfl⟩
        go_wp2_with fail
        refine HI.out.mono ?_
        rintro e w1 ⟨rfl, hb⟩
        go_wp2
        go_ret2
        exact ⟨_, rfl, OwnInts.nil _ _ _, hb⟩
      · have hS : L2.length = L0.length := by
          unfold isCutB at hc
          rw [Bool.and_eq_true, decide_eq_true_iff] at hc
          exact hc.1
        have HP := Lib.hid fun W x y => poRests_any A0 c0 L0 a1 A2 c2 L2 W hg ha hS x y
        rw [hc] at HI HP
        have H0' := Lib.hid h0
        have H2' := Lib.hid h2
        clear hk hl hg ha h0 h2 hc hS
        go_enter Try.func52, Try.ntmps52
        go_wp2_with fail
        refine HG.out.mono ?_
        rintro e w1 ⟨rfl, rfl⟩
        go_wp2_with fail
        refine HA.out.mono ?_
        rintro e w1 ⟨rfl, rfl⟩
        go_wp2_with fail
        refine HI.out.mono ?_
        rintro e w1 ⟨rfl, hb⟩
        have HB := Lib.hid hb
        clear hb
        go_wp2_with fail
        refine (HP.out _ (H0'.out.below HB.out) (H2'.out.below HB.out)).mono ?_
        rintro e w2 ⟨v, rfl, hown, hb2⟩
        go_wp2
        go_ret2
        exact ⟨_, rfl, hown.mono HB.out.size, below_next HB.out hb2⟩
end Go.Proofs.Ytacncacpcllgcaa
