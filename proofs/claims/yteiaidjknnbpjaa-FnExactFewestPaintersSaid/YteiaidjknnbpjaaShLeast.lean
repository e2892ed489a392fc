/- Least times in the specification: 'spec.shLeast', which calls itself. No condition but the numbers' bounds. -/
import Derived.Test.YteiaidjknnbpjaaLeast
import Derived.Test.YteiaidjknnbpjaaWidest
namespace Go.Proofs.Yteiaidjknnbpjaa
open Go.RowKit

/-- the best of the first n ways -/
def bestW (W : List Int) (r : Int) (R : List Int) : Nat → Int
  | 0 => -1
  | n + 1 => let own := r * (W.take n).sum
             let b := bestW W r R n
             if 0 ≤ b ∧ b ≤ own then b else
               let all := max own (leastT (W.drop n) R)
               if b < 0 ∨ all < b then all else b
theorem bestW_iff {W R : List Int} {r : Int} (hW : Pos W) (hR : Pos R) (hr : 1 ≤ r) : ∀ n, 1 ≤ n → 0 ≤ bestW W r R n ∧ ∀ m, (bestW W r R n ≤ m ↔ ∃ k, k < n ∧ r * (W.take k).sum ≤ m ∧ leastT (W.drop k) R ≤ m) := by
  intro n
  induction n with
  | zero => intro h; omega
  | succ n ih =>
    intro _
    have hown : 0 ≤ r * (W.take n).sum := Int.mul_nonneg (by omega) (hW.take n).sum
    have hl := leastT_nonneg hR (hW.drop n)
    rcases Nat.eq_zero_or_pos n with h0 | h0
    · subst h0
      rw [bestW, bestW]
      simp only
      rw [if_neg (by omega), if_pos (by omega)]
      refine ⟨by omega, fun m => ?_⟩
      constructor
      · intro h; exact ⟨0, by omega, by omega, by omega⟩
      · rintro ⟨k, hk, h1, h2⟩
        obtain rfl : k = 0 := by omega
        omega
    · obtain ⟨i1, i2⟩ := ih h0
      rw [bestW]
      simp only
      by_cases hb : 0 ≤ bestW W r R n ∧ bestW W r R n ≤ r * (W.take n).sum
      · rw [if_pos hb]
        refine ⟨i1, fun m => ?_⟩
        rw [i2]
        constructor
        · rintro ⟨k, hk, h⟩; exact ⟨k, by omega, h⟩
        · rintro ⟨k, hk, h1, h2⟩
          by_cases e : k = n
          · subst e
            exact (i2 m).1 (by omega)
          · exact ⟨k, by omega, h1, h2⟩
      · rw [if_neg hb]
        by_cases hc : bestW W r R n < 0 ∨ max (r * (W.take n).sum) (leastT (W.drop n) R) < bestW W r R n
        · rw [if_pos hc]
          refine ⟨by omega, fun m => ?_⟩
          constructor
          · intro h; exact ⟨n, by omega, by omega, by omega⟩
          · rintro ⟨k, hk, h1, h2⟩
            by_cases e : k = n
            · subst e; omega
            · have := (i2 m).2 ⟨k, by omega, h1, h2⟩
              omega
        · rw [if_neg hc]
          refine ⟨i1, fun m => ?_⟩
          rw [i2]
          constructor
          · rintro ⟨k, hk, h⟩; exact ⟨k, by omega, h⟩
          · rintro ⟨k, hk, h1, h2⟩
            by_cases e : k = n
            · subst e
              exact (i2 m).1 (by omega)
            · exact ⟨k, by omega, h1, h2⟩
/-- once a way is too long, so are all behind it -/
theorem bestW_stop {W R : List Int} {r : Int} (hW : Pos W) (hr : 1 ≤ r) {n : Nat} (hb : 0 ≤ bestW W r R n ∧ bestW W r R n ≤ r * (W.take n).sum) : ∀ d, bestW W r R (n + d) = bestW W r R n
  | 0 => rfl
  | d + 1 => by
    have ih := bestW_stop (R := R) hW hr hb d
    show bestW W r R (n + d + 1) = _
    rw [bestW]
    simp only
    rw [ih]
    have e : (W.take (n + d)).sum = (W.take n).sum + ((W.drop n).take d).sum := by
      rw [← List.sum_append]
      congr 1
      rw [List.take_add]
    have h0 := ((hW.drop n).take d).sum
    have : r * (W.take n).sum ≤ r * (W.take (n + d)).sum := Int.mul_le_mul_of_nonneg_left (by omega) (by omega)
    rw [if_pos (by omega)]
theorem bestW_all {W : List Int} {r s : Int} {R : List Int} (hW : Pos W) (hR : Pos (r :: s :: R)) : bestW W r (s :: R) (W.length + 1) = leastT W (r :: s :: R) := by
  have hr := hR r (List.mem_cons_self ..)
  obtain ⟨h1, h2⟩ := bestW_iff (r := r) hW hR.tail hr (W.length + 1) (by omega)
  apply Int.le_antisymm
  · rw [h2]
    obtain ⟨n, a, b, c⟩ := (leastT_two W r s R _).1 (Int.le_refl _)
    exact ⟨n, by omega, b, c⟩
  · rw [leastT_two]
    obtain ⟨n, a, b, c⟩ := (h2 _).1 (Int.le_refl _)
    exact ⟨n, by omega, b, c⟩

theorem slDrew {w : World} {A : Option Addr} {L : List Int} (h : IntSl w A L) (n : Nat) : IntSl (w.drewN n) A L := h.below (below_drewN (Below.refl _ _) n)
theorem sum_drop_w {W : List Int} (hw : okW W = true) (f : Nat) : 0 ≤ (W.drop f).sum ∧ (W.drop f).sum ≤ 1200 :=
  sum_w (n := (W.drop f).length) rfl (by have := okW_len hw; rw [List.length_drop]; omega) fun x hx => okW_mem hw x (List.mem_of_mem_drop hx)
theorem sum_cut_w {W : List Int} (hw : okW W = true) (f n : Nat) : 0 ≤ ((W.drop f).take n).sum ∧ ((W.drop f).take n).sum ≤ 1200 :=
  sum_w (n := ((W.drop f).take n).length) rfl (by have := okW_len hw; rw [List.length_take, List.length_drop]; omega) fun x hx => okW_mem hw x (cut_mem hx)

set_option maxRecDepth 100000 in
set_option maxHeartbeats 4000000 in
theorem shLeast_any (A0 : Option Addr) (c0 : Nat) (W : List Int) (A1 : Option Addr) (c1 : Nat) (R : List Int) (hw : okW W = true) (hr : okR R = true) (q0 : W.length ≤ c0) : ∀ (d k f : Nat) (w : World), k + d + 1 = R.length → f ≤ W.length → IntSl w A0 W → IntSl w A1 R →
    Calls Try.prog 79 #[.slice A0 W.length c0, .slice A1 R.length c1, .int .i64 f, .int .i64 k] w fun e w' => e = .returned (.int .i64 (leastT (W.drop f) (R.drop k))) ∧ ∃ q, w' = w.drewN q := by
  intro d
  induction d with
  | zero =>
    intro k f w hk hf h0 h1
    have hwl := okW_len hw
    have hrl := okR_len hr
    obtain ⟨g, off, rfl, hg, hat⟩ := h1.some (by omega)
    have c1' := hat k (by omega)
    have hrk := okR_mem hr R[k] (List.getElem_mem (by omega))
    have HE : Hid (leastT (W.drop f) (R.drop k) = R[k] * (W.drop f).sum) := Lib.hid (by
      rw [List.drop_eq_getElem_cons (l := R) (i := k) (by omega), show R.drop (k + 1) = [] from List.drop_eq_nil_of_le (by omega)]; rfl)
    have hsd := sum_drop_w hw f
    have hm := mul_bd hrk.1 hrk.2 hsd.1 hsd.2
    have hcut := fun W0 => cut_l A0 W.length c0 f hf W0
    have HCS : Hid (∀ W0, IntSl W0 A0 W → Calls Try.prog 92 #[.slice (subA A0 f c0) (W.length - f) (c0 - f)] W0 fun e w' => e = .returned (.int .i64 (W.drop f).sum) ∧ w' = W0) := Lib.hid fun W0 hW0 =>
      (shSum_w (c := c0 - f) (List.length_drop ..) (by omega) (fun x hx => okW_mem hw x (List.mem_of_mem_drop hx)) (hW0.drop f c0 q0)).mono fun _ _ h => ⟨h.1, h.2.symm⟩
    have H0 := Lib.hid h0
    rw [HE.out]
    obtain ⟨s, hs⟩ : ∃ s, s = (W.drop f).sum := ⟨_, rfl⟩
    obtain ⟨r, hrr⟩ : ∃ r, r = R[k] := ⟨_, rfl⟩
    rw [← hs] at HCS hm ⊢
    rw [← hrr] at hm c1' ⊢
    have hkq : (k : Int) = (R.length : Int) - 1 := by omega
    have hkb : ((k : Int) == (R.length : Int) - 1) = true := by rw [beq_iff_eq]; exact hkq
    have hk0 : (0 : Int) ≤ (k : Int) := by omega
    have hk1 : (k : Int) < (R.length : Int) := by omega
    clear hat h0 h1 HE hs hrr hsd hrk hkq
    go_enter Try.func79, Try.ntmps79
    go_wp2
    go_quiet (first
      | (go_at_call 92; exact Calls.quiet_of_same (HCS.out _ (slDrew H0.out _))))
    go_wp2
    go_ret
    exact ⟨rfl, _, rfl⟩
  | succ d ih =>
    intro k f w hk hf h0 h1
    have hwl := okW_len hw
    have hrl := okR_len hr
    have hWp : Pos (W.drop f) := fun x hx => (okW_mem hw x (List.mem_of_mem_drop hx)).1
    have hRp : Pos R := fun x hx => (okR_mem hr x hx).1
    obtain ⟨g, off, rfl, hg, hat⟩ := h1.some (by omega)
    have c1' := hat k (by omega)
    have hrk := okR_mem hr R[k] (List.getElem_mem (by omega))
    have HE : Hid (bestW (W.drop f) R[k] (R.drop (k + 1)) (W.length - f + 1) = leastT (W.drop f) (R.drop k)) := Lib.hid (by
      have h2 := bestW_all (W := W.drop f) (r := R[k]) (s := R[k + 1]) (R := R.drop (k + 2)) hWp (fun x hx => by
        have : x ∈ R.drop k := by
          rw [List.drop_eq_getElem_cons (l := R) (i := k) (by omega), List.drop_eq_getElem_cons (l := R) (i := k + 1) (by omega)]; exact hx
        exact hRp x (List.mem_of_mem_drop this))
      rw [List.length_drop] at h2
      rw [List.drop_eq_getElem_cons (l := R) (i := k) (by omega), List.drop_eq_getElem_cons (l := R) (i := k + 1) (by omega)]
      exact h2)
    have HIT := Lib.hid fun n => bestW_iff (W := W.drop f) (R := R.drop (k + 1)) (r := R[k]) hWp (hRp.drop _) hrk.1 n
    have HST : Hid (∀ n, (0 ≤ bestW (W.drop f) R[k] (R.drop (k + 1)) n ∧ bestW (W.drop f) R[k] (R.drop (k + 1)) n ≤ R[k] * ((W.drop f).take n).sum) → ∀ d, bestW (W.drop f) R[k] (R.drop (k + 1)) (n + d) = bestW (W.drop f) R[k] (R.drop (k + 1)) n) := Lib.hid fun n h d => bestW_stop hWp hrk.1 h d
    have HSB := Lib.hid fun n => sum_cut_w hw f n
    have HCS : Hid (∀ n W0, f + n ≤ W.length → IntSl W0 A0 W → Calls Try.prog 92 #[.slice (subA A0 f c0) n (c0 - f)] W0 fun e w' => e = .returned (.int .i64 ((W.drop f).take n).sum) ∧ w' = W0) := Lib.hid fun n W0 hn hW0 =>
      (shSum_w (c := c0 - f) (cut_len hn) (by omega) (fun x hx => okW_mem hw x (cut_mem hx)) (hW0.cut f n c0 q0)).mono fun _ _ h => ⟨h.1, h.2.symm⟩
    have HIH := Lib.hid fun n W0 (hn : f + n ≤ W.length) h0 h1 => ih (k + 1) (f + n) W0 (by omega) hn h0 h1
    have HNB : Hid (∀ n, 0 ≤ leastT (W.drop (f + n)) (R.drop (k + 1)) ∧ leastT (W.drop (f + n)) (R.drop (k + 1)) ≤ 24000) := Lib.hid fun n => by
      have hW2 : Pos (W.drop (f + n)) := fun x hx => (okW_mem hw x (List.mem_of_mem_drop hx)).1
      refine ⟨leastT_nonneg (hRp.drop _) hW2, ?_⟩
      have e1 := leastT_le (r := 20) (R := R.drop (k + 1)) (by intro e; have := congrArg List.length e; rw [List.length_drop, List.length_nil] at this; omega) hW2 (hRp.drop _) fun x hx => (okR_mem hr x (List.mem_of_mem_drop hx)).2
      have e2 := sum_drop_w hw (f + n)
      omega
    have H0 := Lib.hid h0
    have H1 := Lib.hid h1
    obtain ⟨r, hrr⟩ : ∃ r, r = R[k] := ⟨_, rfl⟩
    rw [← hrr] at HE HIT HST c1' hrk
    have hkb : ((k : Int) == (R.length : Int) - 1) = false := by rw [beq_eq_false_iff_ne]; omega
    have hk0 : (0 : Int) ≤ (k : Int) := by omega
    have hk1 : (k : Int) < (R.length : Int) := by omega
    clear hat h0 h1 hrr hWp hRp ih
    go_enter Try.func79, Try.ntmps79
    go_wp2
    go_loopw [9, 10, 11, 12] (fun b n _ _ wr => ∃ j q : Nat, j ≤ W.length - f + 1 ∧ n = .int .i64 j ∧ b = .int .i64 (bestW (W.drop f) r (R.drop (k + 1)) j) ∧ wr = w.drewN q) (fun _ n _ _ _ => W.length - f + 1 - (intOf n).toNat)
    case atStart => exact ⟨0, 0, Nat.zero_le _, rfl, rfl, rfl⟩
    case round =>
      obtain ⟨j, q, hj, rfl, rfl, rfl⟩ := hrel
      by_cases hlt : f + j ≤ W.length
      · have hcut := fun W0 => cut_ln A0 W.length c0 f j (by omega) W0
        have hsb := HSB.out j
        have hm := mul_bd hrk.1 hrk.2 hsb.1 hsb.2
        have hnb := HNB.out j
        have hcl : ((f : Int) + (j : Int)) ≤ (W.length : Int) := by omega
        have HB1 : Hid (bestW (W.drop f) r (R.drop (k + 1)) (j + 1) = (if 0 ≤ bestW (W.drop f) r (R.drop (k + 1)) j ∧ bestW (W.drop f) r (R.drop (k + 1)) j ≤ r * ((W.drop f).take j).sum then bestW (W.drop f) r (R.drop (k + 1)) j else
            (if bestW (W.drop f) r (R.drop (k + 1)) j < 0 ∨ max (r * ((W.drop f).take j).sum) (leastT (W.drop (f + j)) (R.drop (k + 1))) < bestW (W.drop f) r (R.drop (k + 1)) j then max (r * ((W.drop f).take j).sum) (leastT (W.drop (f + j)) (R.drop (k + 1))) else bestW (W.drop f) r (R.drop (k + 1)) j))) := Lib.hid (by
          rw [bestW]
          simp only
          rw [List.drop_drop])
        have HS := Lib.hid fun W0 hW0 => HCS.out j W0 hlt hW0
        have HI := Lib.hid fun W0 x y => HIH.out j W0 hlt x y
        have HF := Lib.hid fun h => HST.out j h
        have HBN : Hid (1 ≤ j → 0 ≤ bestW (W.drop f) r (R.drop (k + 1)) j) := Lib.hid fun h => (HIT.out j h).1
        have HB0 : Hid (j = 0 → bestW (W.drop f) r (R.drop (k + 1)) j = -1) := Lib.hid fun h => by subst h; rfl
        have hbb : bestW (W.drop f) r (R.drop (k + 1)) j ≤ 24000 := by
          rcases Nat.eq_zero_or_pos j with h | h
          · rw [HB0.out h]; decide
          · rw [(HIT.out j h).2]
            have := HNB.out 0
            exact ⟨0, h, by rw [List.take_zero, List.sum_nil]; omega, by rw [List.drop_zero]; exact this.2⟩
        obtain ⟨B, hB⟩ : ∃ B, B = bestW (W.drop f) r (R.drop (k + 1)) j := ⟨_, rfl⟩
        obtain ⟨s, hs⟩ : ∃ s, s = ((W.drop f).take j).sum := ⟨_, rfl⟩
        obtain ⟨x, hx⟩ : ∃ x, x = leastT (W.drop (f + j)) (R.drop (k + 1)) := ⟨_, rfl⟩
        rw [← hB] at HB1 HBN HB0 hbb HF
        rw [← hB]
        rw [← hs] at HB1 HS hm HF
        rw [← hx] at HB1 HI hnb
        obtain ⟨o, ho⟩ : ∃ o, o = r * s := ⟨_, rfl⟩
        rw [← ho] at HB1 hm HF
        have hob : r * s = o := ho.symm
        have hbl : -1 ≤ B := by
          rcases Nat.eq_zero_or_pos j with h | h
          · rw [HB0.out h]; decide
          · have := HBN.out h; omega
        have hj0 : (0 : Int) ≤ (j : Int) := by omega
        have hwr : IntKind.i64.wrap ((f : Int) + (j : Int)) = (f : Int) + (j : Int) := wrap_small _ (by omega) (by omega)
        have hwm : IntKind.i64.wrap (r * s) = o := by rw [hob]; exact wrap_small _ (by omega) (by omega)
        clear hs hx hsb ho HIT HST HSB HCS HIH HNB
        by_cases hB0 : 0 ≤ B
        · by_cases hBo : B ≤ o
          · have HV : Hid (B = leastT (W.drop f) (R.drop k)) := Lib.hid (by
              rw [← HE.out, ← HF.out ⟨hB0, hBo⟩ (W.length - f + 1 - j)]
              congr 1
              omega)
            clear HE HF HB1 hB HBN HB0
            go_wp2
            go_quiet (first
              | (go_at_call 92; exact (HS.out _ (slDrew H0.out _)).mono fun _ _ h => ⟨h.1, _, h.2⟩))
            go_wp2
            go_ret
            exact ⟨ret_int HV.out, _, rfl⟩
          · have hBl : ¬ B < 0 := by omega
            by_cases hxB : max o x < B
            · have HV : Hid (max o x = bestW (W.drop f) r (R.drop (k + 1)) (j + 1)) := Lib.hid (by rw [HB1.out, if_neg (by omega), if_pos (by omega)])
              clear HE HF HB1 hB HBN HB0
              go_wp2
              go_quiet (first
                | (go_at_call 92; exact (HS.out _ (slDrew H0.out _)).mono fun _ _ h => ⟨h.1, _, h.2⟩))
              go_wp2_with (first
                | (go_at_call 79; refine (HI.out _ (slDrew H0.out _) (slDrew H1.out _)).mono ?_; rintro e w2 ⟨rfl, q2, rfl⟩)
                | (go_at_call 117; refine (l1Most_any _ _ _).mono ?_; rintro e w2 ⟨rfl, rfl⟩))
              go_roundw
              case rel => exact ⟨j + 1, _, by omega, by go_num, by rw [HV.out], by first | rfl | exact World.drewN_drewN _ _ _⟩
              case measure => simp [intOf]; omega
            · have HV : Hid (B = bestW (W.drop f) r (R.drop (k + 1)) (j + 1)) := Lib.hid (by rw [HB1.out, if_neg (by omega), if_neg (by omega)])
              clear HE HF HB1 hB HBN HB0
              go_wp2
              go_quiet (first
                | (go_at_call 92; exact (HS.out _ (slDrew H0.out _)).mono fun _ _ h => ⟨h.1, _, h.2⟩))
              go_wp2_with (first
                | (go_at_call 79; refine (HI.out _ (slDrew H0.out _) (slDrew H1.out _)).mono ?_; rintro e w2 ⟨rfl, q2, rfl⟩)
                | (go_at_call 117; refine (l1Most_any _ _ _).mono ?_; rintro e w2 ⟨rfl, rfl⟩))
              go_roundw
              case rel => exact ⟨j + 1, _, by omega, by go_num, by rw [HV.out], by first | rfl | exact World.drewN_drewN _ _ _⟩
              case measure => simp [intOf]; omega
        · have HV : Hid (max o x = bestW (W.drop f) r (R.drop (k + 1)) (j + 1)) := Lib.hid (by rw [HB1.out, if_neg (by omega), if_pos (by omega)])
          have hBl : B < 0 := by omega
          clear HE HF HB1 hB HBN HB0
          go_wp2
          go_quiet (first
            | (go_at_call 92; exact (HS.out _ (slDrew H0.out _)).mono fun _ _ h => ⟨h.1, _, h.2⟩))
          go_wp2_with (first
            | (go_at_call 79; refine (HI.out _ (slDrew H0.out _) (slDrew H1.out _)).mono ?_; rintro e w2 ⟨rfl, q2, rfl⟩)
            | (go_at_call 117; refine (l1Most_any _ _ _).mono ?_; rintro e w2 ⟨rfl, rfl⟩))
          go_roundw
          case rel => exact ⟨j + 1, _, by omega, by go_num, by rw [HV.out], by first | rfl | exact World.drewN_drewN _ _ _⟩
          case measure => simp [intOf]; omega
      · have hje : j = W.length - f + 1 := by omega
        have hcl : ¬ ((f : Int) + (j : Int)) ≤ (W.length : Int) := by omega
        rw [hje] at hcl ⊢
        rw [HE.out]
        have HBD := HNB
        clear HIT HST HSB HCS HIH HNB HE
        go_wp2
        go_ret
        exact ⟨rfl, _, rfl⟩
end Go.Proofs.Yteiaidjknnbpjaa
