/- 'impl.areCosts', LeastCost of both sides. No condition but the lists' lengths. -/
import Derived.Test.YtmdfcamieonabaaCostOk
namespace Go.Proofs.Ytmdfcamieonabaa
open Go.RowKit

theorem areTints_any (q : Int) (w : World) : Calls Try.prog 44 #[.int .i64 q] w fun e w' => e = .returned (.bool (okTints q)) ∧ w = w' := by
  by_cases h1 : 1 ≤ q
  · by_cases h2 : q ≤ 5
    · have H : Hid (okTints q = true) := Lib.hid (decide_eq_true ⟨h1, h2⟩)
      go_enter Try.func44, Try.ntmps44
      go_wp2
      go_ret
      exact ⟨ret_bool H.out.symm, rfl⟩
    · have H : Hid (okTints q = false) := Lib.hid (decide_eq_false fun h => h2 h.2)
      go_enter Try.func44, Try.ntmps44
      go_wp2
      go_ret
      exact ⟨ret_bool H.out.symm, rfl⟩
  · have H : Hid (okTints q = false) := Lib.hid (decide_eq_false fun h => h1 h.1)
    go_enter Try.func44, Try.ntmps44
    go_wp2
    go_ret
    exact ⟨ret_bool H.out.symm, rfl⟩
def okLine (q : Int) : Bool := decide (1 ≤ q ∧ q ≤ 20)
theorem areLine_any (q : Int) (w : World) : Calls Try.prog 43 #[.int .i64 q, .bool false] w fun e w' => e = .returned (.bool (okLine q)) ∧ w = w' := by
  by_cases h1 : 1 ≤ q
  · by_cases h2 : q ≤ 20
    · have H : Hid (okLine q = true) := Lib.hid (decide_eq_true ⟨h1, h2⟩)
      go_enter Try.func43, Try.ntmps43
      go_wp2
      go_ret
      exact ⟨ret_bool H.out.symm, rfl⟩
    · have H : Hid (okLine q = false) := Lib.hid (decide_eq_false fun h => h2 h.2)
      go_enter Try.func43, Try.ntmps43
      go_wp2
      go_ret
      exact ⟨ret_bool H.out.symm, rfl⟩
  · have H : Hid (okLine q = false) := Lib.hid (decide_eq_false fun h => h1 h.1)
    go_enter Try.func43, Try.ntmps43
    go_wp2
    go_ret
    exact ⟨ret_bool H.out.symm, rfl⟩
theorem okC_tints {LL : List (List Int)} (h0 : 0 < LL.length) (h : okTints LL[0].length = false) : okC LL = false := okC_row 0 h0 (by unfold okRow; rw [h]; rfl)

set_option maxRecDepth 100000 in
set_option maxHeartbeats 4000000 in
theorem areCosts_any (A : Option Addr) (cap : Nat) (LL : List (List Int)) (w : World) (hl : LL.length ≤ 1048576) (hr : ∀ j (hj : j < LL.length), LL[j].length ≤ 1048576) (h : IntSS w A LL) :
    Calls Try.prog 56 #[.slice A LL.length cap] w fun e w' => e = .returned (.bool (okC LL)) ∧ w = w' := by
  have HI := Lib.hid fun W => areLine_any (LL.length : Int) W
  by_cases hn : 1 ≤ (LL.length : Int) ∧ (LL.length : Int) ≤ 20
  · obtain ⟨sg, so, rfl, hsg, hsc⟩ := h.some (by omega)
    rw [show okLine (LL.length : Int) = true from decide_eq_true hn] at HI
    have HSC := Lib.hid hsc
    obtain ⟨A0, c0, hc0, -⟩ := hsc 0 (by omega)
    rw [Nat.add_zero] at hc0
    have HT : Hid (tintsOf LL = (LL[0]'(by omega)).length) := Lib.hid (by unfold tintsOf; rw [List.getD_eq_getElem?_getD, List.getElem?_eq_getElem (by omega)]; rfl)
    have HT0 : Hid (okTints ((LL[0]'(by omega)).length : Int) = false → okC LL = false) := Lib.hid (okC_tints (by omega))
    obtain ⟨t, ht⟩ : ∃ t, t = (LL[0]'(by omega)).length := ⟨_, rfl⟩
    rw [← ht] at hc0 HT0
    have HTT : Hid (tintsOf LL = t) := Lib.hid (by rw [HT.out, ht])
    have HOK := Lib.hid fun hh => okC_all hn hh
    have HNO := Lib.hid fun k hk hh => okC_row (LL := LL) k hk hh
    have HRL := Lib.hid hr
    have hpos : (0 : Int) < (LL.length : Int) := by omega
    have HTI := Lib.hid fun W => areTints_any (t : Int) W
    clear h hsc ht HT hn hr
    cases hot : okTints (t : Int)
    · have HZ := Lib.hid (HT0.out hot)
      rw [hot] at HTI
      clear hot
      go_enter Try.func56, Try.ntmps56
      go_wp2_with (first
        | (go_at_call 43; refine (HI.out _).mono ?_; rintro e w' ⟨rfl, rfl⟩)
        | (go_at_call 44; refine (HTI.out _).mono ?_; rintro e w' ⟨rfl, rfl⟩))
      go_ret
      exact ⟨ret_bool HZ.out.symm, rfl⟩
    · have ht1 : 1 ≤ t := by
        have := of_decide_eq_true hot
        omega
      have HOT := Lib.hid hot
      rw [hot] at HTI
      clear hot HT0
      go_enter Try.func56, Try.ntmps56
      go_wp2_with (first
        | (go_at_call 43; refine (HI.out _).mono ?_; rintro e w' ⟨rfl, rfl⟩)
        | (go_at_call 44; refine (HTI.out _).mono ?_; rintro e w' ⟨rfl, rfl⟩))
      go_loop [19] (fun v => ∃ k : Nat, k ≤ LL.length ∧ v = .int .i64 (k : Int) ∧ Hid (∀ j (hj : j < LL.length), j < k → okRow (tintsOf LL) LL[j] = true)) (fun v => LL.length - (intOf v).toNat)
      case atStart => exact ⟨0, Nat.zero_le _, rfl, Lib.hid fun j _ h => absurd h (Nat.not_lt_zero _)⟩
      case round =>
        obtain ⟨k, hk, rfl, HD⟩ := hrel
        by_cases hlt : k < LL.length
        · obtain ⟨B, c, hcell, hrow⟩ := HSC.out k hlt
          have hlm := HRL.out k hlt
          have HNK := Lib.hid (HNO.out k hlt)
          have HDK : Hid (okRow (tintsOf LL) LL[k] = true → ∀ j (hj : j < LL.length), j < k + 1 → okRow (tintsOf LL) LL[j] = true) := Lib.hid fun e j hj hjk => by
            by_cases ek : j = k
            · subst ek; exact e
            · exact HD.out j hj (by omega)
          obtain ⟨R, hR⟩ : ∃ R, R = LL[k] := ⟨_, rfl⟩
          rw [← hR] at hcell hrow hlm HNK HDK
          have ik0 : (0 : Int) ≤ (k : Int) := by omega
          have ik1 : (k : Int) < (LL.length : Int) := by omega
          have HRO : Hid (okRow (tintsOf LL) R = (okTints R.length && decide (R.length = t) && allIn 0 100 R)) := Lib.hid (by rw [HTT.out]; rfl)
          clear hR
          by_cases h2 : R.length = t
          · have hne : ((R.length : Int) != (t : Int)) = false := by rw [h2]; simp
            have HX := Lib.hid (slMax_any B c R w (by omega) hlm hrow)
            have HM := Lib.hid (slMin_any B c R w (by omega) hlm hrow)
            have HA := Lib.hid (minMax_all (L := R) (by omega) 0 100)
            have e0 : okTints (R.length : Int) = true := by rw [h2]; exact HOT.out
            rw [e0, decide_eq_true h2, ← HA.out] at HRO
            obtain ⟨x, hx⟩ : ∃ x, x = Lib.maxOf R := ⟨_, rfl⟩
            obtain ⟨y, hy⟩ : ∃ y, y = Lib.minOf R := ⟨_, rfl⟩
            rw [← hx] at HX HRO
            rw [← hy] at HM HRO
            clear h2 e0 HA hx hy hrow
            by_cases h3 : 0 ≤ y
            · have hq1 : decide (y < 0) = false := decide_eq_false (by omega)
              by_cases h4 : x ≤ 100
              · have hq2 : decide (100 < x) = false := decide_eq_false (by omega)
                rw [decide_eq_true h3, decide_eq_true h4] at HRO
                have HZ := Lib.hid (HDK.out HRO.out)
                clear h3 h4
                go_wp2_with (first
                  | (go_at_call 79; refine HM.out.mono ?_; rintro e w' ⟨rfl, rfl⟩)
                  | (go_at_call 80; refine HX.out.mono ?_; rintro e w' ⟨rfl, rfl⟩))
                go_round
                case rel => exact ⟨k + 1, by omega, by go_num, HZ⟩
                case measure => simp [intOf]; omega
              · have hq2 : decide (100 < x) = true := decide_eq_true (by omega)
                rw [decide_eq_true h3, decide_eq_false h4] at HRO
                have HZ := Lib.hid (HNK.out HRO.out)
                clear h3 h4
                go_wp2_with (first
                  | (go_at_call 79; refine HM.out.mono ?_; rintro e w' ⟨rfl, rfl⟩)
                  | (go_at_call 80; refine HX.out.mono ?_; rintro e w' ⟨rfl, rfl⟩))
                go_ret
                exact ⟨ret_bool HZ.out.symm, rfl⟩
            · have hq1 : decide (y < 0) = true := decide_eq_true (by omega)
              rw [decide_eq_false h3] at HRO
              have HZ := Lib.hid (HNK.out HRO.out)
              clear h3
              go_wp2_with (go_at_call 79; refine HM.out.mono ?_; rintro e w' ⟨rfl, rfl⟩)
              go_ret
              exact ⟨ret_bool HZ.out.symm, rfl⟩
          · have hne : ((R.length : Int) != (t : Int)) = true := by rw [bne_iff_ne]; omega
            rw [decide_eq_false h2, Bool.and_false, Bool.false_and] at HRO
            have HZ := Lib.hid (HNK.out HRO.out)
            clear h2
            go_wp2
            go_ret
            exact ⟨ret_bool HZ.out.symm, rfl⟩
        · have hnl : ¬ (k : Int) < (LL.length : Int) := by omega
          have HZ := Lib.hid (HOK.out fun j hj => HD.out j hj (by omega))
          go_wp2
          go_ret
          exact ⟨ret_bool HZ.out.symm, rfl⟩
  · have HZ := Lib.hid (okC_long hn)
    rw [show okLine (LL.length : Int) = false from decide_eq_false hn] at HI
    clear h hn
    go_enter Try.func56, Try.ntmps56
    go_wp2_with (go_at_call 43; refine (HI.out _).mono ?_; rintro e w' ⟨rfl, rfl⟩)
    go_ret
    exact ⟨ret_bool HZ.out.symm, rfl⟩
/-- what both sides answer -/
def lcR (LL : List (List Int)) : Int := if okC LL = true ∧ 0 < (chpL (costB LL) LL.length).1 then (chpL (costB LL) LL.length).2 else 0
def lcB (LL : List (List Int)) : Bool := okC LL && decide (0 < (chpL (costB LL) LL.length).1)
theorem chp_nn {LL : List (List Int)} (h : okC LL = true) : 0 ≤ (chpL (costB LL) LL.length).1 ∧ 0 ≤ (chpL (costB LL) LL.length).2 ∧ ((chpL (costB LL) LL.length).1 = 0 → (chpL (costB LL) LL.length).2 = 0) := by
  have hc := (okC_iff h).costly
  have b := besT_le (W := 5 ^ LL.length) (C := 100 * LL.length) (Int.le_of_lt (Int.pow_pos (by decide))) (by omega) (fun k v hv => (tT_bd hc LL.length LL.length k v hv).2) 46
  have g : good (tT (costB LL) LL.length LL.length) := fun k v hv => (tT_bd hc LL.length LL.length k v hv).2.1.1
  have t := fol_tly (good_wo g 46) keys5
  refine ⟨b.1, b.2.2.1, fun e => ?_⟩
  rcases t with t | t
  · exact t.2
  · exact absurd e (by have t' : 0 < (chpL (costB LL) LL.length).1 := t; omega)
theorem lc_no {LL : List (List Int)} (h : okC LL = false) : lcR LL = 0 ∧ lcB LL = false := by
  unfold lcR lcB; rw [h]; exact ⟨rfl, rfl⟩
theorem lc_yes {LL : List (List Int)} (h : okC LL = true) : lcR LL = (chpL (costB LL) LL.length).2 ∧ lcB LL = decide (0 < (chpL (costB LL) LL.length).1) := by
  obtain ⟨a, b, c⟩ := chp_nn h
  unfold lcR lcB
  rw [h]
  refine ⟨?_, rfl⟩
  by_cases e : 0 < (chpL (costB LL) LL.length).1
  · rw [if_pos ⟨rfl, e⟩]
  · rw [if_neg (fun x => e x.2), c (by omega)]

set_option maxHeartbeats 2000000 in
theorem implLC_any (A : Option Addr) (cap : Nat) (LL : List (List Int)) (w : World) (hl : LL.length ≤ 1048576) (hr : ∀ j (hj : j < LL.length), LL[j].length ≤ 1048576) (h : IntSS w A LL) :
    Calls Try.prog 27 #[.slice A LL.length cap] w fun e w' => e = .returned (.tuple #[.int .i64 (lcR LL), .bool (lcB LL)]) ∧ Below w.heap.size w w' := by
  have HA := Lib.hid (areCosts_any A cap LL w hl hr h)
  cases hok : okC LL
  · rw [(lc_no hok).1, (lc_no hok).2]
    rw [hok] at HA
    clear hok h
    go_enter Try.func27, Try.ntmps27
    go_wp2_with (go_at_call 56; refine HA.out.mono ?_; rintro e w' ⟨rfl, rfl⟩)
    go_ret2
    exact ⟨rfl, Below.refl _ _⟩
  · rw [(lc_yes hok).1, (lc_yes hok).2]
    rw [hok] at HA
    have ho := okC_iff hok
    have HT := Lib.hid (costlyTints_any A cap LL w ho.n1 ho.n20 (fun j hj => by rw [ho.len j hj]; exact ho.t5) h)
    obtain ⟨d, hd⟩ : ∃ d, LL.length = d + 1 := ⟨LL.length - 1, by have := ho.n1; omega⟩
    have HC := Lib.hid fun g m W hW => cheapestOf_line d (some ⟨g, 0, none⟩) LL.length (costB LL) m W (by have := ho.n20; omega) ho.costly hW
    rw [← hd] at HC
    obtain ⟨x, hx⟩ : ∃ x, x = (chpL (costB LL) LL.length).1 := ⟨_, rfl⟩
    obtain ⟨y, hy⟩ : ∃ y, y = (chpL (costB LL) LL.length).2 := ⟨_, rfl⟩
    have HC2 : Hid (∀ g m W, Brds W (some ⟨g, 0, none⟩) LL.length (costB LL) m → Calls Try.prog 50 #[.slice (some ⟨g, 0, none⟩) LL.length LL.length, .bool false] W fun e w' => e = .returned (.agg #[.int .i64 x, .int .i64 y]) ∧ Below W.heap.size W w') := Lib.hid fun g m W hW => by
      have := HC.out g m W hW
      rw [hx, hy]
      exact this
    rw [← hx, ← hy]
    have HO := Lib.hid fun W => costOf_any x y W
    have HD : Hid (∀ b, decide (0 < x) = b → decide (0 < x) = b) := Lib.hid fun _ h => h
    obtain ⟨q, hq⟩ : ∃ q, q = decide (0 < x) := ⟨_, rfl⟩
    rw [← hq] at HO ⊢
    clear hok h ho hd hx hy hq HC HD
    go_enter Try.func27, Try.ntmps27
    go_wp2_with (first
      | (go_at_call 56; refine HA.out.mono ?_; rintro e w' ⟨rfl, rfl⟩)
      | (go_at_call 58; refine HT.out.mono ?_; rintro e w1 ⟨g, m, rfl, hbr, hb1⟩)
      | (go_at_call 50; refine (HC2.out g m _ hbr).mono ?_; rintro e w2 ⟨rfl, hb2⟩)
      | (go_at_call 57; refine (HO.out _).mono ?_; rintro e w3 ⟨rfl, hb3⟩))
    go_ret2
    exact ⟨rfl, below_next (below_next hb1 hb2) hb3⟩

set_option maxHeartbeats 2000000 in
theorem specLC_any (A : Option Addr) (cap : Nat) (LL : List (List Int)) (w : World) (hl : LL.length ≤ 1048576) (hr : ∀ j (hj : j < LL.length), LL[j].length ≤ 1048576) (h : IntSS w A LL) :
    Calls Try.prog 25 #[.slice A LL.length cap] w fun e w' => e = .returned (.tuple #[.int .i64 (lcR LL), .bool (lcB LL)]) ∧ Below w.heap.size w w' := by
  have HA := Lib.hid (coCosts_any A cap LL w hl hr h)
  cases hok : okC LL
  · rw [(lc_no hok).1, (lc_no hok).2]
    rw [hok] at HA
    clear hok h
    go_enter Try.func25, Try.ntmps25
    go_wp2_with (go_at_call 53; refine HA.out.mono ?_; rintro e w' ⟨rfl, rfl⟩)
    go_ret2
    exact ⟨rfl, Below.refl _ _⟩
  · rw [(lc_yes hok).1, (lc_yes hok).2]
    rw [hok] at HA
    have ho := okC_iff hok
    have HC := Lib.hid fun W (hW : Below w.heap.size w W) => coCheap_any A cap (tintsOf LL) LL W ho (h.below hW)
    obtain ⟨n1, n2, n3⟩ := chp_nn hok
    obtain ⟨p, hp⟩ : ∃ p, p = chpL (costB LL) LL.length := ⟨_, rfl⟩
    rw [← hp] at HC n1 n2 n3 ⊢
    clear hok ho hp
    by_cases h0 : 0 < p.1
    · have e : oc p = p.2 := oc_pos (by omega)
      rw [decide_eq_true h0]
      rw [e] at HC
      obtain ⟨y, hy⟩ : ∃ y, y = p.2 := ⟨_, rfl⟩
      rw [← hy] at HC n2 ⊢
      have hq : decide (y < 0) = false := decide_eq_false (by omega)
      clear h e hy n3 h0
      go_enter Try.func25, Try.ntmps25
      go_wp2_with (first
        | (go_at_call 53; refine HA.out.mono ?_; rintro e w' ⟨rfl, rfl⟩)
        | (go_at_call 54; refine (HC.out _ hb1).mono ?_; rintro e w2 ⟨rfl, hb2⟩)
        | (go_at_call 54; refine (HC.out _ (Below.refl _ _)).mono ?_; rintro e w1 ⟨rfl, hb1⟩))
      go_ret2
      exact ⟨rfl, below_next hb1 hb2⟩
    · have e : oc p = -1 := oc_zero (by omega)
      have e2 : p.2 = 0 := n3 (by omega)
      rw [decide_eq_false h0, e2]
      rw [e] at HC
      clear h e e2 n1 n2 n3 h0
      go_enter Try.func25, Try.ntmps25
      go_wp2_with (first
        | (go_at_call 53; refine HA.out.mono ?_; rintro e w' ⟨rfl, rfl⟩)
        | (go_at_call 54; refine (HC.out _ (Below.refl _ _)).mono ?_; rintro e w1 ⟨rfl, hb1⟩))
      go_ret2
      exact ⟨rfl, hb1⟩
end Go.Proofs.Ytmdfcamieonabaa
