/- LevelSteps of the model. No condition but the lists' lengths. -/
import Derived.Test.YtacncacpcllgcaaLevel
namespace Go.Proofs.Ytacncacpcllgcaa
open Go.RowKit

theorem poMost_any (a b : Int) (w : World) : Calls Try.prog 103 #[.int .i64 a, .int .i64 b] w fun e w' => e = .returned (.int .i64 (max a b)) ∧ w = w' := by
  by_cases h : b < a
  · have HM : Hid (max a b = a) := Lib.hid (by omega)
    rw [HM.out]
    go_enter Try.func103, Try.ntmps103
    go_wp2
    go_ret
    exact ⟨rfl, rfl⟩
  · have HM : Hid (max a b = b) := Lib.hid (by omega)
    rw [HM.out]
    go_enter Try.func103, Try.ntmps103
    go_wp2
    go_ret
    exact ⟨rfl, rfl⟩
theorem poLeast_any (a b : Int) (w : World) : Calls Try.prog 113 #[.int .i64 a, .int .i64 b] w fun e w' => e = .returned (.int .i64 (min a b)) ∧ w = w' := by
  by_cases h : a < b
  · have HM : Hid (min a b = a) := Lib.hid (by omega)
    rw [HM.out]
    go_enter Try.func113, Try.ntmps113
    go_wp2
    go_ret
    exact ⟨rfl, rfl⟩
  · have HM : Hid (min a b = b) := Lib.hid (by omega)
    rw [HM.out]
    go_enter Try.func113, Try.ntmps113
    go_wp2
    go_ret
    exact ⟨rfl, rfl⟩
theorem poAbs_any (i k : Nat) (w : World) (hi : i ≤ 1048576) (hk : k ≤ 1048576) : Calls Try.prog 114 #[.int .i64 ((i : Int) - (k : Int))] w fun e w' => e = .returned (.int .i64 (farN i k)) ∧ w = w' := by
  have HM : Hid (farN i k = max ((i : Int) - (k : Int)) (-((i : Int) - (k : Int)))) := Lib.hid (by unfold farN; split <;> omega)
  obtain ⟨x, hx⟩ : ∃ x : Int, x = (i : Int) - (k : Int) := ⟨_, rfl⟩
  rw [← hx] at HM ⊢
  have x0 : -1048576 ≤ x := by omega
  have x1 : x ≤ 1048576 := by omega
  have HC := Lib.hid fun W => poMost_any x (-x) W
  rw [HM.out]
  clear hx HM
  go_enter Try.func114, Try.ntmps114
  go_wp2_with fail
  refine (HC.out _).mono ?_
  rintro e w1 ⟨rfl, rfl⟩
  go_wp2
  go_ret
  exact ⟨rfl, rfl⟩
theorem farN_bd {i k : Nat} (hi : i ≤ 12) (hk : k ≤ 12) : 0 ≤ farN i k ∧ farN i k ≤ 12 := by unfold farN; split <;> omega
theorem far_mul {m : Nat} {f : Int} (hm : m ≤ 50) (h0 : 0 ≤ f) (h1 : f ≤ 12) : 0 ≤ (m : Int) * f ∧ (m : Int) * f ≤ 600 :=
  ⟨Int.mul_nonneg (by omega) h0, Int.le_trans (Int.mul_le_mul (by omega : (m : Int) ≤ 50) h1 h0 (by decide)) (by decide)⟩
theorem levK_bd {L : List Int} {m : Nat} (hx : inHi L) (hm : m ≤ 50) (hl : L.length ≤ 12) {i : Nat} (hi : i < L.length) {j : Nat} (hj : j ≤ L.length) : 0 ≤ levK L m i j ∧ levK L m i j ≤ 50 := by
  obtain ⟨h1, h2, h3⟩ := levK_spec L m i j
  have h4 := inHi_at hx hi
  refine ⟨?_, by omega⟩
  rcases h3 with h3 | ⟨k, hk, h3⟩
  · omega
  · have h5 := inHi_at hx (k := k) (by omega)
    have h6 := farN_bd (i := i) (k := k) (by omega) (by omega)
    have h7 := far_mul hm h6.1 h6.2
    omega
def levJ (L : List Int) (m : Int) (j : Nat) : List Int := (List.range j).map fun i => levK L m i L.length
theorem levJ_len (L : List Int) (m : Int) (j : Nat) : (levJ L m j).length = j := by simp [levJ]
theorem levJ_succ (L : List Int) (m : Int) (j : Nat) : levJ L m (j + 1) = levJ L m j ++ [levK L m j L.length] := by
  unfold levJ; rw [List.range_succ, List.map_append]; rfl

theorem poM_any (a : Int) (w : World) :
    Calls Try.prog 102 #[.int .i64 a, .int .i64 0, .int .i64 50] w fun e w' => e = .returned (.bool (okM a)) ∧ w = w' := l1In_any a 0 50 w
set_option maxHeartbeats 1000000 in
theorem specLevelSteps_no (A0 : Option Addr) (c0 : Nat) (L0 : List Int) (a1 : Int) (w : World) (l0 : L0.length ≤ 1048576) (h0 : IntSl w A0 L0) (hok : (okG L0 && okM a1) = false) :
    Calls Try.prog 66 #[.slice A0 L0.length c0, .int .i64 a1] w fun e w' => e = .returned (.tuple #[.slice none 0 0, .bool false]) ∧ Below w.heap.size w w' := by
  have H0 := Lib.hid (poGround_any A0 c0 L0 w l0 h0)
  have H1 := Lib.hid (poM_any a1 w)
  cases h0 : okG L0
  · clear hok
    rw [h0] at H0
    clear h0 H1
    go_enter Try.func66, Try.ntmps66
    go_wp2_with fail
    refine H0.out.mono ?_
    rintro e w1 ⟨rfl, rfl⟩
    go_wp2
    go_ret2
    exact ⟨rfl, Below.refl _ _⟩
  · skip
    cases h1 : okM a1
    · clear hok
      rw [h0] at H0
      rw [h1] at H1
      clear h0 h1
      go_enter Try.func66, Try.ntmps66
      go_wp2_with fail
      refine H0.out.mono ?_
      rintro e w1 ⟨rfl, rfl⟩
      go_wp2_with fail
      refine H1.out.mono ?_
      rintro e w1 ⟨rfl, rfl⟩
      go_wp2
      go_ret2
      exact ⟨rfl, Below.refl _ _⟩
    · rw [h0, h1] at hok; simp at hok
set_option maxRecDepth 20000 in
set_option maxHeartbeats 4000000 in
theorem specLevelSteps_any (A0 : Option Addr) (c0 : Nat) (L0 : List Int) (a1 : Int) (w : World) (l0 : L0.length ≤ 1048576) (_ : WfL L0) (_ : L0.length ≤ c0) (h0 : IntSl w A0 L0) (_ : (Lit.int .i64 a1).wf = true) :
    Calls Try.prog 66 #[.slice A0 L0.length c0, .int .i64 a1] w fun e w' => ∃ v, e = .returned (.tuple #[v, .bool (okGM L0 a1)]) ∧ OwnInts w' w.heap.size 3 v (stepsL L0 a1) ∧ Below w.heap.size w w' := by
  obtain ⟨i0, hi, hz0, hz1, hz2⟩ := info_parts info_int
  cases hok : okGM L0 a1
  · rw [stepsL_no hok]
    exact (specLevelSteps_no A0 c0 L0 a1 w l0 h0 hok).mono fun e w' h => ⟨_, h.1, OwnInts.nil _ _ _, h.2⟩
  · rw [stepsL_yes hok]
    unfold okGM at hok
    rw [Bool.and_eq_true] at hok
    obtain ⟨hg, ha⟩ := hok
    have HG := Lib.hid (poGround_any A0 c0 L0 w l0 h0)
    have HA := Lib.hid (poM_any a1 w)
    rw [hg] at HG
    rw [ha] at HA
    have ha' : 0 ≤ a1 ∧ a1 ≤ 50 := of_decide_eq_true ha
    obtain ⟨m, rfl⟩ : ∃ m : Nat, a1 = m := ⟨a1.toNat, by omega⟩
    have hm : m ≤ 50 := by omega
    obtain ⟨⟨hl1, hl2⟩, hx⟩ := okG_at hg
    have HX : Hid (inHi L0) := Lib.hid hx
    have H0 := Lib.hid h0
    rw [show levL L0 m = levJ L0 m L0.length from rfl]
    clear hg ha hx h0 ha'
    go_enter Try.func66, Try.ntmps66
    go_wp2_with fail
    refine HG.out.mono ?_
    rintro e w1 ⟨rfl, rfl⟩
    go_wp2_with fail
    refine HA.out.mono ?_
    rintro e w1 ⟨rfl, rfl⟩
    clear HG HA
    go_wp2
    go_loopw [6, 7, 8, 9, 10, 21] (fun v _ _ _ _ i wr => ∃ j : Nat, j ≤ L0.length ∧ i = .int .i64 j ∧ OwnInts wr w.heap.size 3 v (levJ L0 m j) ∧ Below w.heap.size w wr) (fun _ _ _ _ _ i _ => L0.length - (intOf i).toNat)
    case atStart => exact ⟨0, Nat.zero_le _, rfl, OwnInts.nil _ _ _, Below.refl _ _⟩
    case round =>
      obtain ⟨j, hj, rfl, hown, hb⟩ := hrel
      have HO := Lib.hid hown
      have HB := Lib.hid hb
      have hbs := hb.size
      clear hown hb
      have hlen := levJ_len L0 m j
      by_cases hlt : j < L0.length
      · obtain ⟨g0, o0, hA0, hg0, hat0⟩ := (H0.out.below HB.out).some (by omega)
        subst hA0
        have HAT := Lib.hid hat0
        have e1 := HAT.out j hlt
        have HK0 : Hid (levK L0 m j 0 = L0[j]) := Lib.hid (getD_lt L0 j hlt)
        have HN := Lib.hid (levJ_succ L0 m j)
        have hj0 : (0 : Int) ≤ (j : Int) := by omega
        have hj1 : (j : Int) < (L0.length : Int) := by omega
        clear hat0
        go_wp2
        go_loopw [8, 9, 10, 30] (fun b _ _ i wi => ∃ k : Nat, k ≤ L0.length ∧ i = .int .i64 k ∧ b = .int .i64 (levK L0 m j k) ∧ wi = wr) (fun _ _ _ i _ => L0.length - (intOf i).toNat)
        case atStart => exact ⟨0, Nat.zero_le _, rfl, by rw [HK0.out], rfl⟩
        case round =>
          clear e1 HK0
          obtain ⟨k, hk, rfl, rfl, rfl⟩ := hrel
          by_cases hkl : k < L0.length
          · have e2 := HAT.out k hkl
            have b2 := inHi_at HX.out hkl
            have bb := levK_bd HX.out hm hl2 hlt (Nat.le_of_lt hkl)
            have bf := farN_bd (i := j) (k := k) (by omega) (by omega)
            have bm := far_mul hm bf.1 bf.2
            have HC := Lib.hid fun W => poAbs_any j k W (by omega) (by omega)
            have HE : Hid (levK L0 m j (k + 1) = min (levK L0 m j k) (L0[k] + (m : Int) * farN j k)) := Lib.hid (by
              show min (levK L0 m j k) (L0.getD k 0 + (m : Int) * farN j k) = _
              rw [getD_lt L0 k hkl])
            rw [getD_lt L0 k hkl] at b2
            obtain ⟨x, hxx⟩ : ∃ x, x = L0[k] := ⟨_, rfl⟩
            obtain ⟨f, hff⟩ : ∃ f, f = farN j k := ⟨_, rfl⟩
            obtain ⟨o, hoo⟩ : ∃ o, o = levK L0 m j k := ⟨_, rfl⟩
            rw [← hxx] at e2 b2 HE
            rw [← hff] at bf bm HC HE
            rw [← hoo] at bb HE
            rw [← hoo]
            have HL := Lib.hid fun W => poLeast_any o (x + (m : Int) * f) W
            have hk0 : (0 : Int) ≤ (k : Int) := by omega
            have hk1 : (k : Int) < (L0.length : Int) := by omega
            clear hxx hff hoo
            go_wp2_with fail
            refine (HC.out _).mono ?_
            rintro e w1 ⟨rfl, rfl⟩
            go_wp2_with fail
            refine (HL.out _).mono ?_
            rintro e w1 ⟨rfl, rfl⟩
            go_wp2
            go_roundw
            case rel => exact ⟨k + 1, by omega, by go_num, by rw [HE.out], by trivial⟩
            case measure => simp [intOf]; omega
          · obtain rfl : k = L0.length := by omega
            have bb := levK_bd HX.out hm hl2 hlt (Nat.le_refl _)
            obtain ⟨o, hoo⟩ : ∃ o, o = levK L0 m j L0.length := ⟨_, rfl⟩
            rw [← hoo] at HN bb
            rw [← hoo]
            clear hoo
            go_wp2_with (at_builtin; refine wpList_append_own _ rfl (.tmp 46) (.tmp 48) _ rfl w.heap.size 3 i0 _ 1 8 Try.underlying26 hi hz0 hz1 hz2 rfl (by decide) _ (levJ L0 m j).length ((levJ L0 m j).map (Value.int .i64)) rfl (World.ownsRow.alloc HO.out _) ⟨_, 0, none⟩ 1 1 [.int .i64 (o)] rfl rfl (World.news_of_block (cs := #[.int .i64 (o)]) (t := 3) (fr := (0, 0)) (heap_alloc_new _ _)) (by simp [Value.oneCell']) (by unfold maxLen; omega) (by omega) (by simp; omega) ?_; intro v' w3 hown' hgrow _)
            have HR : Hid (OwnInts w3 w.heap.size 3 v' (levJ L0 m (j + 1))) := Lib.hid (by rw [HN.out]; exact OwnInts.snoc hown')
            have HB3 : Hid (Below w.heap.size w w3) := Lib.hid ((HB.out.alloc hbs _).grown hgrow (by simp; omega) fun k hk => (World.ownsRow.lt HO.out k hk).1)
            clear hown' hgrow
            go_wp2
            go_roundw
            case rel => exact ⟨j + 1, by omega, by go_num, HR.out, HB3.out⟩
            case measure => simp [intOf]; omega
      · obtain rfl : j = L0.length := by omega
        go_wp2
        go_ret2
        exact ⟨_, rfl, HO.out, HB.out⟩
end Go.Proofs.Ytacncacpcllgcaa
