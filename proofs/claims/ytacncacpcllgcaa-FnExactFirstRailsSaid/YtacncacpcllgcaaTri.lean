/- FirstRails of both sides. No condition. -/
import Derived.Test.YtacncacpcllgcaaPost
import Derived.Test.YtacncacpcllgcaaRoot
import Derived.Test.YtacncacpcllgcaaSS2
import Derived.Test.YtacncacpcllgcaaTriMath
namespace Go.Proofs.Ytacncacpcllgcaa
open Go.RowKit

def triL (a : Int) : List (List Int) := if okL a = true then triR a.toNat else []
theorem triL_len (a : Int) : (triL a).length ≤ 250000 := by
  unfold triL
  split
  · next h =>
    have := okL_at h
    have := triR_len (m := 500) (Nat.le_refl _) a.toNat (by omega)
    omega
  · exact Nat.zero_le _
theorem triL_three (a : Int) : ∀ L ∈ triL a, L.length = 3 := by
  unfold triL
  split
  · exact triR_three _
  · intro L h; cases h
theorem szL_three : ∀ LL : List (List Int), (∀ L ∈ LL, L.length = 3) → szL LL = 3 * LL.length
  | [], _ => rfl
  | L :: R, h => by
    have h1 := szL_three R fun M hM => h M (List.mem_cons_of_mem _ hM)
    have h2 := h L (List.mem_cons_self ..)
    show L.length + szL R = 3 * (R.length + 1)
    omega

theorem heap_two (w : World) (o p : Obj) : ((w.alloc o).alloc p).heap[w.heap.size + 1]? = some p := by
  have h := heap_alloc_new (w.alloc o) p
  rw [show (w.alloc o).heap.size = w.heap.size + 1 by simp] at h
  exact h
theorem OwnSS.of_rows {w : World} {b t : Nat} {V : Value} {vs : List Value} {LL MM : List (List Int)} (h : RowsTo w b t V vs (LL.map intsV)) (e : MM = LL) : OwnSS w b t V MM := by rw [e]; exact ⟨vs, h⟩
theorem OwnSS.of_eq {w : World} {b t : Nat} {V : Value} {LL MM : List (List Int)} (h : OwnSS w b t V LL) (e : MM = LL) : OwnSS w b t V MM := by rw [e]; exact h
theorem triL_ok (a : Int) : SSok (triL a) := by
  have h1 := triL_len a
  have h2 := triL_three a
  refine ⟨by omega, fun L hL => by rw [h2 L hL]; omega, ?_⟩
  rw [szL_three _ h2]; omega

set_option maxHeartbeats 1000000 in
theorem specFirstRails_no (a0 : Int) (w : World)  (hok : (okL a0) = false) :
    Calls Try.prog 68 #[.int .i64 a0] w fun e w' => e = .returned (.tuple #[.slice none 0 0, .bool false]) ∧ Below w.heap.size w w' := by
  have H0 := Lib.hid (poLong_any a0 w)
  cases h0 : okL a0
  · clear hok
    rw [h0] at H0
    clear h0
    go_enter Try.func68, Try.ntmps68
    go_wp2_with fail
    refine H0.out.mono ?_
    rintro e w1 ⟨rfl, rfl⟩
    go_wp2
    go_ret2
    exact ⟨rfl, Below.refl _ _⟩
  · rw [h0] at hok; simp at hok
set_option maxRecDepth 20000 in
set_option maxHeartbeats 2000000 in
theorem specFirstRails_any (a0 : Int) (w : World) (_ : (Lit.int .i64 a0).wf = true) :
    Calls Try.prog 68 #[.int .i64 a0] w fun e w' => ∃ v, e = .returned (.tuple #[v, .bool (okL a0)]) ∧ OwnSS w' w.heap.size w'.heap.size v (triL a0) ∧ Below w.heap.size w w' := by
  obtain ⟨i0, hi, hz0, hz1, hz2⟩ := info_parts info_intsl
  cases hok : okL a0
  · rw [show triL a0 = [] by unfold triL; rw [hok]; rfl]
    exact (specFirstRails_no a0 w hok).mono fun e w' h => ⟨_, h.1, OwnSS.nil _ _ _, h.2⟩
  · have HA := Lib.hid fun W => poLong_any a0 W
    rw [hok] at HA
    obtain ⟨m, rfl, m1, m2⟩ := okL_nat hok
    have HT : Hid (triL m = TR (m + 1) 1) := Lib.hid (by unfold triL; rw [if_pos hok, Int.toNat_natCast, TR_last])
    rw [HT.out]
    clear hok HT
    have H0 : Hid (OwnSS w w.heap.size w.heap.size (.slice none 0 0) (TR 1 1)) := Lib.hid (OwnSS.nil _ _ _)
    go_enter Try.func68, Try.ntmps68
    go_wp2_with fail
    refine (HA.out _).mono ?_
    rintro e w1 ⟨rfl, rfl⟩
    go_wp2
    go_loopw [4, 5, 6, 7] (fun v i _ _ wr => ∃ l : Nat, 1 ≤ l ∧ l ≤ m + 1 ∧ i = .int .i64 l ∧ OwnSS wr w.heap.size wr.heap.size v (TR l 1) ∧ Below w.heap.size w wr) (fun _ i _ _ _ => m + 1 - (intOf i).toNat)
    case atStart => exact ⟨1, Nat.le_refl _, by omega, rfl, H0.out, Below.refl _ _⟩
    case round =>
      clear H0
      obtain ⟨l, l1, l2, rfl, hown, hb⟩ := hrel
      have HO := Lib.hid hown
      have HB := Lib.hid hb
      clear hown hb
      by_cases hlm : l ≤ m
      · go_wp2
        go_loopw [4, 6, 7] (fun v i _ wi => ∃ g : Nat, 1 ≤ g ∧ g ≤ l ∧ i = .int .i64 g ∧ OwnSS wi w.heap.size wi.heap.size v (TR l g) ∧ Below w.heap.size w wi) (fun _ i _ _ => l - (intOf i).toNat)
        case atStart => exact ⟨1, Nat.le_refl _, l1, rfl, HO.out, HB.out⟩
        case round =>
          clear HO HB
          obtain ⟨g, g1, g2, rfl, hown, hb⟩ := hrel
          have HB := Lib.hid hb
          clear hb
          by_cases hgl : g < l
          · obtain ⟨vs, hrows⟩ := hown
            have hvl : vs.length ≤ 251000 := by rw [hrows.len, List.length_map]; exact TR_len (by omega) (by omega)
            have HO := Lib.hid hrows
            clear hrows
            obtain ⟨n1, n2, eN, p1, q0, pq⟩ := tri_bd (show l ≤ 500 by omega) hgl
            have HC := Lib.hid fun W => poRoot_any (triN l g) W (by omega)
            have HY := Lib.hid fun r => tri_root (r := r) hgl
            have HTy := Lib.hid fun h => TR_yes (l := l) g1 h
            have HTn := Lib.hid fun h => TR_no (l := l) g1 h
            rw [eN] at HC
            have HN := Lib.hid n2
            clear eN n1 n2
            go_wp2_with fail
            refine (HC.out _).mono ?_
            rintro e w1 ⟨r, rfl, hr, rfl⟩
            obtain ⟨y1, y2⟩ := HY.out r hr.1 hr.2.1
            have hrr : r * r ≤ 250000 := Nat.le_trans hr.1 HN.out
            have er := Int.natCast_mul r r
            have r0 : (0 : Int) ≤ (r : Int) * (r : Int) := by omega
            have r1 : (r : Int) * (r : Int) ≤ 250000 := by omega
            have eg := Int.natCast_mul g g
            have el := Int.natCast_mul l l
            by_cases hrg : r ≤ g
            · by_cases hE : r * r + g * g = l * l
              · have hok := y1.2 ⟨hrg, hE⟩
                have HV : Hid (TR l (g + 1) = TR l g ++ [[(g : Int), ((r : Nat) : Int), (l : Int)]]) := Lib.hid (by rw [HTy.out hok, y2 hok])
                have hE2 : (r : Int) * (r : Int) + (g : Int) * (g : Int) = (l : Int) * (l : Int) := by omega
                have hbs := HB.out.size
                clear hok y1 y2 hr hrr er eg el hE HTy HTn HY HC
                go_wp2_with (at_builtin; refine wpList_append_own_at _ rfl (.tmp 45) (.tmp 50) _ rfl w.heap.size 26 i0 _ 1 24 Try.underlying50 hi hz0 hz1 hz2 rfl (by decide) _ vs.length vs rfl (World.ownsRow.alloc (World.ownsRow.alloc HO.out.out _) _) ⟨_, 0, none⟩ 1 1 [.slice (some ⟨wr.heap.size, 0, none⟩) 3 3] rfl rfl (World.news_of_block (cs := #[.slice (some ⟨wr.heap.size, 0, none⟩) 3 3]) (t := 26) (fr := (0, 0)) (heap_two _ _ _)) (by simp [Value.oneCell']) (by unfold maxLen; omega) (by omega) (by simp; omega) ?_; intro v' w3 hown' hgrow _ hat)
                have HR : Hid (OwnSS w3 w.heap.size w3.heap.size v' (TR l (g + 1))) := Lib.hid (by rw [HV.out]; exact OwnSS.push HO.out hbs rfl (Nat.le_of_lt (by decide : 3 < maxLen)) hown' hgrow hat)
                have HB3 : Hid (Below w.heap.size w w3) := Lib.hid (((HB.out.alloc hbs _).alloc (by simp; omega) _).grown hgrow (by simp; omega) fun k hk => (World.ownsRow.lt HO.out.out k hk).1)
                clear hown' hgrow hat
                go_wp2
                go_roundw
                case rel => exact ⟨g + 1, by omega, by omega, by go_num, HR.out, HB3.out⟩
                case measure => simp [intOf]; omega
              · have hno : triOk l g = false := by
                  cases h : triOk l g
                  · rfl
                  · exact absurd (y1.1 h).2 hE
                have HV := Lib.hid (OwnSS.of_rows HO.out (HTn.out hno))
                have hE2 : ¬ ((r : Int) * (r : Int) + (g : Int) * (g : Int) = (l : Int) * (l : Int)) := by omega
                clear hno y1 y2 hr hrr er eg el hE HTy HTn HY HC
                go_wp2
                go_roundw
                case rel => exact ⟨g + 1, by omega, by omega, by go_num, HV.out, HB.out⟩
                case measure => simp [intOf]; omega
            · have hno : triOk l g = false := by
                cases h : triOk l g
                · rfl
                · exact absurd (y1.1 h).1 hrg
              have HV := Lib.hid (OwnSS.of_rows HO.out (HTn.out hno))
              clear hno y1 y2 hr hrr er eg el HTy HTn HY HC
              go_wp2
              go_roundw
              case rel => exact ⟨g + 1, by omega, by omega, by go_num, HV.out, HB.out⟩
              case measure => simp [intOf]; omega
          · obtain rfl : g = l := by omega
            have HV := Lib.hid (OwnSS.of_eq hown (TR_end l1).symm)
            clear hown
            go_wp2
            go_roundw
            case rel => exact ⟨g + 1, by omega, by omega, by go_num, HV.out, HB.out⟩
            case measure => simp [intOf]; omega
      · obtain rfl : l = m + 1 := by omega
        go_wp2
        go_ret2
        exact ⟨_, rfl, HO.out, HB.out⟩

set_option maxRecDepth 20000 in
set_option maxHeartbeats 2000000 in
theorem implFirstRails_any (a0 : Int) (w : World) (_ : (Lit.int .i64 a0).wf = true) :
    Calls Try.prog 69 #[.int .i64 a0] w fun e w' => ∃ v, e = .returned (.tuple #[v, .bool (okL a0)]) ∧ OwnSS w' w.heap.size w'.heap.size v (triL a0) ∧ Below w.heap.size w w' := by
  obtain ⟨i0, hi, hz0, hz1, hz2⟩ := info_parts info_intsl
  have HA := Lib.hid fun W A h => areL1_any a0 W A h
  have H2 := Lib.hid (one_sl w a0 3)
  have HB0 := Lib.hid (below_new w (.cells #[.int .i64 a0] 3))
  cases hok : okL a0
  · rw [show triL a0 = [] by unfold triL; rw [hok]; rfl]
    rw [hok] at HA
    clear hok
    go_enter Try.func69, Try.ntmps69
    go_wp2_with (go_at_call 74; refine (HA.out _ _ H2.out).mono ?_; rintro e w1 ⟨rfl, rfl⟩)
    go_ret2
    exact ⟨_, rfl, OwnSS.nil _ _ _, HB0.out⟩
  · rw [hok] at HA
    obtain ⟨m, rfl, m1, m2⟩ := okL_nat hok
    have HT : Hid (triL m = TR (m + 1) 1) := Lib.hid (by unfold triL; rw [if_pos hok, Int.toNat_natCast, TR_last])
    rw [HT.out]
    clear hok HT
    have H0 := Lib.hid fun W : World => (OwnSS.nil W w.heap.size W.heap.size : OwnSS W w.heap.size W.heap.size (.slice none 0 0) (TR 1 1))
    go_enter Try.func69, Try.ntmps69
    go_wp2_with fail
    refine (HA.out _ _ H2.out).mono ?_
    rintro e w1 ⟨rfl, rfl⟩
    go_wp2
    go_loopw [4, 5, 6, 7, 8] (fun v i _ _ _ wr => ∃ l : Nat, 1 ≤ l ∧ l ≤ m + 1 ∧ i = .int .i64 l ∧ OwnSS wr w.heap.size wr.heap.size v (TR l 1) ∧ Below w.heap.size w wr) (fun _ i _ _ _ _ => m + 1 - (intOf i).toNat)
    case atStart => exact ⟨1, Nat.le_refl _, by omega, rfl, H0.out _, HB0.out⟩
    case round =>
      clear H0
      obtain ⟨l, l1, l2, rfl, hown, hb⟩ := hrel
      have HO := Lib.hid hown
      have HB := Lib.hid hb
      clear hown hb
      by_cases hlm : l ≤ m
      · go_wp2
        go_loopw [4, 6, 7, 8] (fun v i _ _ wi => ∃ g : Nat, 1 ≤ g ∧ g ≤ l ∧ i = .int .i64 g ∧ OwnSS wi w.heap.size wi.heap.size v (TR l g) ∧ Below w.heap.size w wi) (fun _ i _ _ _ => l - (intOf i).toNat)
        case atStart => exact ⟨1, Nat.le_refl _, l1, rfl, HO.out, HB.out⟩
        case round =>
          clear HO HB
          obtain ⟨g, g1, g2, rfl, hown, hb⟩ := hrel
          by_cases hgl : g < l
          · obtain ⟨vs, hrows⟩ := hown
            have hvl : vs.length ≤ 251000 := by rw [hrows.len, List.length_map]; exact TR_len (by omega) (by omega)
            have HO := Lib.hid hrows
            have HB := Lib.hid hb
            clear hrows hb
            obtain ⟨n1, n2, eN, p1, q0, pq⟩ := tri_bd (show l ≤ 500 by omega) hgl
            have HC := Lib.hid fun W => wholeRoot_any (triN l g) W n1 (by omega)
            rw [eN] at HC
            have HV : Hid ((isSq (triN l g) = true → upRoot (triN l g) ≤ g → TR l (g + 1) = TR l g ++ [[(g : Int), ((upRoot (triN l g) : Nat) : Int), (l : Int)]]) ∧ (isSq (triN l g) = false → TR l (g + 1) = TR l g) ∧ (¬ upRoot (triN l g) ≤ g → TR l (g + 1) = TR l g)) := Lib.hid
              ⟨fun h1 h2 => TR_yes g1 (by unfold triOk; rw [h1, Bool.true_and]; exact decide_eq_true h2), fun h1 => TR_no g1 (by unfold triOk; rw [h1, Bool.false_and]), fun h1 => TR_no g1 (by unfold triOk; rw [decide_eq_false h1, Bool.and_false])⟩
            have hub : upRoot (triN l g) ≤ 300000 := Nat.le_trans (up_le _) (by omega)
            obtain ⟨u, hu⟩ : ∃ u, u = upRoot (triN l g) := ⟨_, rfl⟩
            obtain ⟨q, hq⟩ : ∃ q, q = isSq (triN l g) := ⟨_, rfl⟩
            rw [← hu, ← hq] at HC HV
            rw [← hu] at hub
            clear eN n1 n2 hu hq
            go_wp2_with fail
            refine (HC.out _).mono ?_
            rintro e w1 ⟨rfl, hb1⟩
            have HO1 := Lib.hid ((HO.out.below hb1).wide hb1.size)
            have HB1 := Lib.hid (below_nextN HB.out HB.out.size hb1)
            clear hb1 HO HB HC
            cases q
            · have HN := Lib.hid (OwnSS.of_rows HO1.out (HV.out.2.1 rfl))
              clear HV
              go_wp2
              go_roundw
              case rel => exact ⟨g + 1, by omega, by omega, by go_num, HN.out, HB1.out⟩
              case measure => simp [intOf]; omega
            · by_cases hug : u ≤ g
              · have HW := Lib.hid (HV.out.1 rfl hug)
                have hbs := HB1.out.size
                clear HV
                go_wp2_with (at_builtin; refine wpList_append_own_at _ rfl (.tmp 40) (.tmp 45) _ rfl w.heap.size 26 i0 _ 1 24 Try.underlying50 hi hz0 hz1 hz2 rfl (by decide) _ vs.length vs rfl (World.ownsRow.alloc (World.ownsRow.alloc HO1.out.out _) _) ⟨_, 0, none⟩ 1 1 [.slice (some ⟨w1.heap.size, 0, none⟩) 3 3] rfl rfl (World.news_of_block (cs := #[.slice (some ⟨w1.heap.size, 0, none⟩) 3 3]) (t := 26) (fr := (0, 0)) (heap_two _ _ _)) (by simp [Value.oneCell']) (by unfold maxLen; omega) (by omega) (by simp; omega) ?_; intro v' w3 hown' hgrow _ hat)
                have HR : Hid (OwnSS w3 w.heap.size w3.heap.size v' (TR l (g + 1))) := Lib.hid (by rw [HW.out]; exact OwnSS.push HO1.out hbs rfl (Nat.le_of_lt (by decide : 3 < maxLen)) hown' hgrow hat)
                have HB3 : Hid (Below w.heap.size w w3) := Lib.hid (((HB1.out.alloc hbs _).alloc (by simp; omega) _).grown hgrow (by simp; omega) fun k hk => (World.ownsRow.lt HO1.out.out k hk).1)
                clear hown' hgrow hat
                go_wp2
                go_roundw
                case rel => exact ⟨g + 1, by omega, by omega, by go_num, HR.out, HB3.out⟩
                case measure => simp [intOf]; omega
              · have HN := Lib.hid (OwnSS.of_rows HO1.out (HV.out.2.2 hug))
                clear HV
                go_wp2
                go_roundw
                case rel => exact ⟨g + 1, by omega, by omega, by go_num, HN.out, HB1.out⟩
                case measure => simp [intOf]; omega
          · obtain rfl : g = l := by omega
            have HB := Lib.hid hb
            have HV := Lib.hid (OwnSS.of_eq hown (TR_end l1).symm)
            clear hown hb
            go_wp2
            go_roundw
            case rel => exact ⟨g + 1, by omega, by omega, by go_num, HV.out, HB.out⟩
            case measure => simp [intOf]; omega
      · obtain rfl : l = m + 1 := by omega
        go_wp2
        go_ret2
        exact ⟨_, rfl, HO.out, HB.out⟩
end Go.Proofs.Ytacncacpcllgcaa
