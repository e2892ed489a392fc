/- PutGate of both sides. No condition but the list's length. -/
import Derived.Test.YtbocdhibimcobaaInsI
namespace Go.Proofs.Ytbocdhibimcobaa
open Go.RowKit

set_option maxRecDepth 100000 in
set_option maxHeartbeats 4000000 in
theorem implPutGate_any (a0 : Int) (A1 : Option Addr) (c1 : Nat) (L1 : List Int) (a2 : Int) (w : World) (_ : (Lit.int .i64 a0).wf = true) (l1 : L1.length ≤ 1048576) (_ : WfL L1) (q1 : L1.length ≤ c1) (h1 : IntSl w A1 L1) (_ : (Lit.int .i64 a2).wf = true) :
    Calls Try.prog 47 #[.int .i64 a0, .slice A1 L1.length c1, .int .i64 a2] w fun e w' => ∃ v, e = .returned (.tuple #[v, .bool (okPu a0 L1 a2)]) ∧ OwnInts w' w.heap.size 3 v (putR a0 L1 a2) ∧ Below w.heap.size w w' := by
  have HG := Lib.hid (areGates_any a0 A1 c1 L1 w l1 h1)
  cases hg : okGa a0 L1
  · have hk : okPu a0 L1 a2 = false := by unfold okPu; rw [hg]; rfl
    rw [putR_no hk, hk]
    rw [hg] at HG
    clear hk hg h1
    go_enter Try.func47, Try.ntmps47
    go_wp2_with fail
    refine HG.out.mono ?_
    rintro e w1 ⟨rfl, rfl⟩
    go_wp2
    go_ret2
    exact ⟨_, rfl, OwnInts.nil _ _ _, Below.refl _ _⟩
  · obtain ⟨hn, hl, hinc⟩ := okGa_at hg
    have HB := Lib.hid (binS_any A1 c1 L1 a2 w l1 (incF_sorted hinc) h1)
    rw [hg] at HG
    have HC := Lib.hid fun W (hW : Below w.heap.size w W) => cloneAny_any A1 c1 L1 W l1 (h1.below hW)
    have hok := okPu_ins (x := a2) hg
    have hins := insR_take (x := a2) hinc
    have hple := lessN_le L1 a2
    obtain ⟨p, hp⟩ : ∃ p, p = lessN L1 a2 := ⟨_, rfl⟩
    obtain ⟨b, hb⟩ : ∃ b, b = decide (a2 ∈ L1) := ⟨_, rfl⟩
    rw [← hp, ← hb] at HB
    rw [← hp] at hins hple
    have HIN := Lib.hid hins
    have HOK := Lib.hid hok
    have hil : (insR a2 L1).length = L1.length + 1 := insR_len a2 L1
    have HIL := Lib.hid hil
    have HNO := Lib.hid fun h => putR_no (n := a0) (L := L1) (x := a2) h
    have HYES := Lib.hid fun h => putR_yes (n := a0) (L := L1) (x := a2) h
    clear hg h1 hp hb hins hok hinc hil
    go_enter Try.func47, Try.ntmps47
    go_wp2_with fail
    refine HG.out.mono ?_
    rintro e w1 ⟨rfl, rfl⟩
    go_wp2_with fail
    refine HB.out.mono ?_
    rintro e w1 ⟨rfl, q, rfl⟩
    have HBD := Lib.hid (below_drewN (Below.refl w.heap.size w) q)
    go_wp2_with fail
    refine (HC.out _ HBD.out).mono ?_
    rintro e w1 ⟨A', cap, rfl, hown, hb1⟩
    have HB1 : Hid (Below w.heap.size w w1) := Lib.hid (below_nextN HBD.out HBD.out.size hb1)
    have HO : Hid (OwnInts w1 w.heap.size 3 (.slice A' L1.length cap) L1) := Lib.hid hown
    have HI := Lib.hid (insert_own a2 HO.out HB1.out.size hple (by omega))
    rw [← HIN.out] at HI
    clear hown hb1
    go_wp2_with fail
    refine HI.out.mono ?_
    rintro e w2 ⟨v, rfl, hown, hb2⟩
    have HO2 := Lib.hid hown
    have HB2 := Lib.hid (HB1.out.trans hb2)
    obtain ⟨A2, cap2, hv⟩ := hown.len
    subst hv
    have HA := Lib.hid (areGates_any a0 A2 cap2 (insR a2 L1) w2 (by rw [HIL.out]; omega) (IntSl.of_own HO2.out))
    rw [HOK.out] at HA
    clear hown hb2
    cases hk : okPu a0 L1 a2
    · rw [hk] at HA
      have HE := Lib.hid (HNO.out hk)
      have HK := Lib.hid hk
      clear hk
      go_wp2_with fail
      refine HA.out.mono ?_
      rintro e w3 ⟨rfl, rfl⟩
      go_wp2
      go_ret2
      exact ⟨_, congrArg (fun b => Ending.returned (.tuple #[.slice none 0 0, .bool b])) HK.out.symm, by rw [HE.out]; exact OwnInts.nil _ _ _, HB2.out⟩
    · rw [hk] at HA
      have HE := Lib.hid (HYES.out hk)
      have HK := Lib.hid hk
      clear hk
      go_wp2_with fail
      refine HA.out.mono ?_
      rintro e w3 ⟨rfl, rfl⟩
      go_wp2
      go_ret2
      exact ⟨_, congrArg (fun b => Ending.returned (.tuple #[.slice A2 (insR a2 L1).length cap2, .bool b])) HK.out.symm, by rw [HE.out]; exact HO2.out, HB2.out⟩
set_option maxRecDepth 20000 in
set_option maxHeartbeats 8000000 in
theorem specPutGate_any (a0 : Int) (A1 : Option Addr) (c1 : Nat) (L1 : List Int) (a2 : Int) (w : World) (_ : (Lit.int .i64 a0).wf = true) (l1 : L1.length ≤ 1048576) (_ : WfL L1) (_ : L1.length ≤ c1) (h1 : IntSl w A1 L1) (_ : (Lit.int .i64 a2).wf = true) :
    Calls Try.prog 46 #[.int .i64 a0, .slice A1 L1.length c1, .int .i64 a2] w fun e w' => ∃ v, e = .returned (.tuple #[v, .bool (okPu a0 L1 a2)]) ∧ OwnInts w' w.heap.size 3 v (putR a0 L1 a2) ∧ Below w.heap.size w w' := by
  obtain ⟨i0, hi, hz0, hz1, hz2⟩ := info_parts info_int
  have HG := Lib.hid (gaAre_any a0 A1 c1 L1 w l1 h1)
  have HI := Lib.hid fun W => l1In_any a2 1 (a0 - 1) W
  have HH := Lib.hid fun W h => l1Has_any A1 c1 L1 a2 W l1 h
  have HSL := Lib.hid h1
  cases hg : okGa a0 L1
  · have hk : okPu a0 L1 a2 = false := by unfold okPu; rw [hg]; rfl
    rw [putR_no hk, hk]
    rw [hg] at HG
    clear hk hg h1
    go_enter Try.func46, Try.ntmps46
    go_wp2_with fail
    refine HG.out.mono ?_
    rintro e w1 ⟨rfl, rfl⟩
    go_wp2
    go_ret2
    exact ⟨_, rfl, OwnInts.nil _ _ _, Below.refl _ _⟩
  obtain ⟨hn, hl, -⟩ := okGa_at hg
  rw [hg] at HG
  by_cases hin : 1 ≤ a2 ∧ a2 ≤ a0 - 1
  · rw [decide_eq_true hin] at HI
    by_cases hx : a2 ∈ L1
    · have hk : okPu a0 L1 a2 = false := by unfold okPu; rw [decide_eq_true hx]; simp
      rw [putR_no hk, hk]
      rw [decide_eq_true hx] at HH
      clear hk hg h1 hx hin
      go_enter Try.func46, Try.ntmps46
      go_wp2_with fail
      refine HG.out.mono ?_
      rintro e w1 ⟨rfl, rfl⟩
      go_wp2_with fail
      refine (HI.out _).mono ?_
      rintro e w1 ⟨rfl, rfl⟩
      go_wp2_with fail
      refine (HH.out _ HSL.out).mono ?_
      rintro e w1 ⟨rfl, rfl⟩
      go_wp2
      go_ret2
      exact ⟨_, rfl, OwnInts.nil _ _ _, Below.refl _ _⟩
    · rw [decide_eq_false hx] at HH
      by_cases h10 : L1.length = 10
      · have hk : okPu a0 L1 a2 = false := by unfold okPu; rw [decide_eq_true h10]; simp
        rw [putR_no hk, hk]
        have h10' : ((L1.length : Int) == 10) = true := by rw [beq_iff_eq]; omega
        rw [h10] at HG HH ⊢
        clear hk hg h1 hx hin h10'
        go_enter Try.func46, Try.ntmps46
        go_wp2_with fail
        refine HG.out.mono ?_
        rintro e w1 ⟨rfl, rfl⟩
        go_wp2_with fail
        refine (HI.out _).mono ?_
        rintro e w1 ⟨rfl, rfl⟩
        go_wp2_with fail
        refine (HH.out _ HSL.out).mono ?_
        rintro e w1 ⟨rfl, rfl⟩
        go_wp2
        go_ret2
        exact ⟨_, rfl, OwnInts.nil _ _ _, Below.refl _ _⟩
      · have hk : okPu a0 L1 a2 = true := by unfold okPu; rw [hg, decide_eq_true hin, decide_eq_false hx, decide_eq_false h10]; rfl
        rw [putR_yes hk, hk]
        have h10' : ((L1.length : Int) == 10) = false := by rw [beq_eq_false_iff_ne]; omega
        have HOL := Lib.hid fun k => outP_len L1 a2 k
        have HPT := Lib.hid fun k (h : k < L1.length) hp => outP_put (x := a2) h hp
        have HNW := Lib.hid fun k (h : k < L1.length) hp h2 => outP_now (x := a2) h hx hp h2
        have HLT := Lib.hid fun k (h : k < L1.length) hp h2 => outP_later (x := a2) h hp h2
        have HEN := Lib.hid (outP_end hx)
        clear hk hg h1 hx hin h10
        go_enter Try.func46, Try.ntmps46
        go_wp2_with fail
        refine HG.out.mono ?_
        rintro e w1 ⟨rfl, rfl⟩
        go_wp2_with fail
        refine (HI.out _).mono ?_
        rintro e w1 ⟨rfl, rfl⟩
        go_wp2_with fail
        refine (HH.out _ HSL.out).mono ?_
        rintro e w1 ⟨rfl, rfl⟩
        go_wp2
        go_loopw [8, 9, 35] (fun v pb i wr => ∃ k : Nat, k ≤ L1.length ∧ i = .int .i64 k ∧ pb = .bool (putB L1 a2 k) ∧ OwnInts wr w.heap.size 3 v (outP L1 a2 k) ∧ Below w.heap.size w wr) (fun _ _ i _ => L1.length - (intOf i).toNat)
        case atStart => exact ⟨0, Nat.zero_le _, rfl, rfl, OwnInts.nil _ _ _, Below.refl _ _⟩
        case round =>
          obtain ⟨k, hk, rfl, rfl, hown, hb⟩ := hrel
          have HO := Lib.hid hown
          have HB := Lib.hid hb
          have hbs := hb.size
          clear hown hb
          have hol := HOL.out k
          by_cases hlt : k < L1.length
          · obtain ⟨g, off, rfl, hg, hat⟩ := (HSL.out.below HB.out).some (by omega)
            have c1 := hat k hlt
            have HP := Lib.hid (HPT.out k hlt)
            have HN := Lib.hid (HNW.out k hlt)
            have HL := Lib.hid (HLT.out k hlt)
            obtain ⟨y, hy⟩ : ∃ y, y = L1[k] := ⟨_, rfl⟩
            rw [← hy] at c1 HP HN HL
            obtain ⟨T, hT⟩ : ∃ T, T = outP L1 a2 k := ⟨_, rfl⟩
            rw [← hT] at HO HP HN HL hol
            clear hat hy hT
            have ht11 : T.length ≤ 11 := by omega
            clear hol
            have HKP := Lib.hid HSL.out
            cases hpb : putB L1 a2 k
            · by_cases hc : a2 < y
              · have HE := Lib.hid (HN.out hpb hc)
                have HB0 := Lib.hid hpb
                clear HN HL HP hpb
                have hl3 : (T ++ [a2]).length = T.length + 1 := by simp
                go_wp2_with (first
                  | (at_builtin; refine wpList_append_own _ rfl (.tmp 46) (.tmp 48) _ rfl w.heap.size 3 i0 _ 1 8 Try.underlying22 hi hz0 hz1 hz2 rfl (by decide) _ (T).length ((T).map (Value.int .i64)) rfl (World.ownsRow.alloc HO.out _) ⟨_, 0, none⟩ 1 1 [.int .i64 (a2)] rfl rfl (World.news_of_block (cs := #[.int .i64 (a2)]) (t := 3) (fr := (0, 0)) (by first | exact heap_alloc_new _ _ | exact heap_new_set _ _ _ _ _)) (by simp [Value.oneCell']) (by unfold maxLen; omega) (by omega) (by simp; omega) ?_; intro v' w3 hown' hgrow _; have HR := Lib.hid (OwnInts.snoc hown'); have HB3 := Lib.hid ((HB.out.alloc hbs _).grown hgrow (by simp; omega) fun k hk => (World.ownsRow.lt HO.out k hk).1); have hbs3 := HB3.out.size; clear hown' hgrow)
                  | (at_builtin; refine wpList_append_own _ rfl (.tmp 50) (.tmp 52) _ rfl w.heap.size 3 i0 _ 1 8 Try.underlying22 hi hz0 hz1 hz2 rfl (by decide) _ (T ++ [a2]).length ((T ++ [a2]).map (Value.int .i64)) rfl (World.ownsRow.alloc HR.out _) ⟨_, 0, none⟩ 1 1 [.int .i64 (y)] rfl rfl (World.news_of_block (cs := #[.int .i64 (y)]) (t := 3) (fr := (0, 0)) (by first | exact heap_alloc_new _ _ | exact heap_new_set _ _ _ _ _)) (by simp [Value.oneCell']) (by unfold maxLen; omega) (by omega) (by simp; omega) ?_; intro v' w3 hown' hgrow _; have HR2 := Lib.hid (OwnInts.snoc hown'); have HB4 := Lib.hid ((HB3.out.alloc hbs3 _).grown hgrow (by simp; omega) fun k hk => (World.ownsRow.lt HR.out k hk).1); clear hown' hgrow))
                rw [← HE.out.1] at HR2
                go_wp2
                go_roundw
                case rel => exact ⟨k + 1, by omega, by go_num, by rw [HE.out.2], HR2.out, HB4.out⟩
                case measure => simp [intOf]; omega
              · have HE := Lib.hid (HL.out hpb (by omega))
                clear HN HL HP hpb
                go_wp2_with (at_builtin; refine wpList_append_own _ rfl (.tmp 50) (.tmp 52) _ rfl w.heap.size 3 i0 _ 1 8 Try.underlying22 hi hz0 hz1 hz2 rfl (by decide) _ (T).length ((T).map (Value.int .i64)) rfl (World.ownsRow.alloc HO.out _) ⟨_, 0, none⟩ 1 1 [.int .i64 (y)] rfl rfl (World.news_of_block (cs := #[.int .i64 (y)]) (t := 3) (fr := (0, 0)) (by first | exact heap_alloc_new _ _ | exact heap_new_set _ _ _ _ _)) (by simp [Value.oneCell']) (by unfold maxLen; omega) (by omega) (by simp; omega) ?_; intro v' w3 hown' hgrow _)
                have HR2 : Hid (OwnInts w3 w.heap.size 3 v' (outP L1 a2 (k + 1))) := Lib.hid (by rw [HE.out.1]; exact OwnInts.snoc hown')
                have HB4 : Hid (Below w.heap.size w w3) := Lib.hid ((HB.out.alloc hbs _).grown hgrow (by simp; omega) fun k hk => (World.ownsRow.lt HO.out k hk).1)
                clear hown' hgrow
                go_wp2
                go_roundw
                case rel => exact ⟨k + 1, by omega, by go_num, by rw [HE.out.2], HR2.out, HB4.out⟩
                case measure => simp [intOf]; omega
            · have HE := Lib.hid (HP.out hpb)
              clear HN HL HP hpb
              go_wp2_with (at_builtin; refine wpList_append_own _ rfl (.tmp 50) (.tmp 52) _ rfl w.heap.size 3 i0 _ 1 8 Try.underlying22 hi hz0 hz1 hz2 rfl (by decide) _ (T).length ((T).map (Value.int .i64)) rfl (World.ownsRow.alloc HO.out _) ⟨_, 0, none⟩ 1 1 [.int .i64 (y)] rfl rfl (World.news_of_block (cs := #[.int .i64 (y)]) (t := 3) (fr := (0, 0)) (by first | exact heap_alloc_new _ _ | exact heap_new_set _ _ _ _ _)) (by simp [Value.oneCell']) (by unfold maxLen; omega) (by omega) (by simp; omega) ?_; intro v' w3 hown' hgrow _)
              have HR2 : Hid (OwnInts w3 w.heap.size 3 v' (outP L1 a2 (k + 1))) := Lib.hid (by rw [HE.out.1]; exact OwnInts.snoc hown')
              have HB4 : Hid (Below w.heap.size w w3) := Lib.hid ((HB.out.alloc hbs _).grown hgrow (by simp; omega) fun k hk => (World.ownsRow.lt HO.out k hk).1)
              clear hown' hgrow
              go_wp2
              go_roundw
              case rel => exact ⟨k + 1, by omega, by go_num, by rw [HE.out.2], HR2.out, HB4.out⟩
              case measure => simp [intOf]; omega
          · obtain rfl : k = L1.length := by omega
            obtain ⟨T, hT⟩ : ∃ T, T = outP L1 a2 L1.length := ⟨_, rfl⟩
            have HEE := HEN
            rw [← hT] at HO HEN hol
            have ht11 : T.length ≤ 11 := by omega
            clear hol hT HEE
            cases hpb : putB L1 a2 L1.length
            · rw [hpb, if_neg (by decide)] at HEN
              clear hpb
              go_wp2_with (at_builtin; refine wpList_append_own _ rfl (.tmp 57) (.tmp 59) _ rfl w.heap.size 3 i0 _ 1 8 Try.underlying22 hi hz0 hz1 hz2 rfl (by decide) _ (T).length ((T).map (Value.int .i64)) rfl (World.ownsRow.alloc HO.out _) ⟨_, 0, none⟩ 1 1 [.int .i64 (a2)] rfl rfl (World.news_of_block (cs := #[.int .i64 (a2)]) (t := 3) (fr := (0, 0)) (by first | exact heap_alloc_new _ _ | exact heap_new_set _ _ _ _ _)) (by simp [Value.oneCell']) (by unfold maxLen; omega) (by omega) (by simp; omega) ?_; intro v' w3 hown' hgrow _)
              have HR2 : Hid (OwnInts w3 w.heap.size 3 v' (insR a2 L1)) := Lib.hid (by rw [HEN.out]; exact OwnInts.snoc hown')
              have HB4 : Hid (Below w.heap.size w w3) := Lib.hid ((HB.out.alloc hbs _).grown hgrow (by simp; omega) fun k hk => (World.ownsRow.lt HO.out k hk).1)
              clear hown' hgrow
              go_wp2
              go_ret2
              exact ⟨_, rfl, HR2.out, HB4.out⟩
            · rw [hpb, if_pos rfl] at HEN
              clear hpb
              go_wp2
              go_ret2
              exact ⟨_, rfl, by rw [HEN.out]; exact HO.out, HB.out⟩
  · have hk : okPu a0 L1 a2 = false := by unfold okPu; rw [decide_eq_false hin]; simp
    rw [putR_no hk, hk]
    rw [decide_eq_false hin] at HI
    clear hk hg h1 hin
    go_enter Try.func46, Try.ntmps46
    go_wp2_with fail
    refine HG.out.mono ?_
    rintro e w1 ⟨rfl, rfl⟩
    go_wp2_with fail
    refine (HI.out _).mono ?_
    rintro e w1 ⟨rfl, rfl⟩
    go_wp2
    go_ret2
    exact ⟨_, rfl, OwnInts.nil _ _ _, Below.refl _ _⟩
end Go.Proofs.Ytbocdhibimcobaa
