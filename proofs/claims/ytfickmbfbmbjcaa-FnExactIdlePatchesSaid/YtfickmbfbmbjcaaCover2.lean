/- Patches that cover a yard: 'spec.reCover', 'spec.reAre', 'spec.AreCovering'. No condition but the lengths. -/
import Derived.Test.YtfickmbfbmbjcaaCover
namespace Go.Proofs.Ytfickmbfbmbjcaa
open Go.RowKit

theorem any_take {LL : List (List Int)} {i : Nat} (h : i < LL.length) (x : Int) : (LL.take (i + 1)).any (inPt x) = ((LL.take i).any (inPt x) || inPt x LL[i]) := by
  rw [List.take_succ_eq_append_getElem h, List.any_append]; simp
theorem all_takeI {B : List Int} {j : Nat} (h : j < B.length) (f : Int → Bool) : (B.take (j + 1)).all f = ((B.take j).all f && f B[j]) := by
  rw [List.take_succ_eq_append_getElem h, List.all_append]; simp
theorem all_takeS {B : List (List Int)} {j : Nat} (h : j < B.length) (f : List Int → Bool) : (B.take (j + 1)).all f = ((B.take j).all f && f B[j]) := by
  rw [List.take_succ_eq_append_getElem h, List.all_append]; simp
theorem all_no {B : List Int} {j : Nat} (h : j < B.length) {f : Int → Bool} (hf : f B[j] = false) : B.all f = false := by
  rw [List.all_eq_false]; exact ⟨B[j], List.getElem_mem _, by rw [hf]; decide⟩
theorem all_noS {B : List (List Int)} {j : Nat} (h : j < B.length) {f : List Int → Bool} (hf : f B[j] = false) : B.all f = false := by
  rw [List.all_eq_false]; exact ⟨B[j], List.getElem_mem _, by rw [hf]; decide⟩

set_option maxRecDepth 20000 in
set_option maxHeartbeats 4000000 in
theorem reCover_any (s : ByteArray) (A : Option Addr) (c : Nat) (LL : List (List Int)) (w : World) (hs : s.size ≤ 30) (hl : LL.length ≤ 1000) (h2 : ∀ L ∈ LL, L.length = 2) (h : IntSS w A LL) :
    Calls Try.prog 102 #[.string s, .slice A LL.length c] w fun e w' => e = .returned (.bool (covers s LL)) ∧ Below w.heap.size w w' := by
  have HRB := Lib.hid (reBroken_any s w (by omega))
  unfold covers
  have hBd : ∀ x ∈ brkL s s.size, 0 ≤ x ∧ x < (30 : Nat) := fun x hx => by have := brkL_bd (Nat.le_refl _) x hx; omega
  have hBl := brkL_len s s.size
  obtain ⟨B, hB⟩ : ∃ B, B = brkL s s.size := ⟨_, rfl⟩
  rw [← hB] at HRB hBd hBl ⊢
  have HBD := Lib.hid hBd
  have H2 := Lib.hid h2
  have HSS := Lib.hid h
  clear hB hBd h2 h
  go_enter Try.func102, Try.ntmps102
  go_wp2_with fail
  refine HRB.out.mono ?_
  rintro e w1 ⟨vB, rfl, hoB, hb1⟩
  obtain ⟨AB, cB, rfl⟩ := OwnInts.len hoB
  have HSB := Lib.hid (IntSl.of_own hoB)
  have HS1 := Lib.hid (HSS.out.below hb1)
  have HB := Lib.hid hb1
  clear hoB hb1
  go_wp2
  go_loop [13] (fun i => ∃ j : Nat, j ≤ B.length ∧ i = .int .i64 j ∧ (B.take j).all (covK LL) = true) (fun i => B.length - (intOf i).toNat)
  case atStart => exact ⟨0, Nat.zero_le _, rfl, by simp⟩
  case round =>
    obtain ⟨j, hj, rfl, hall⟩ := hrel
    have HALL := Lib.hid hall
    clear hall
    by_cases hlt : j < B.length
    · obtain ⟨gB, oB, rfl, hgB, hat⟩ := HSB.out.some (by omega)
      have c1 := hat j hlt
      have hxb := HBD.out B[j] (List.getElem_mem _)
      have HT := Lib.hid (all_takeI hlt (covK LL))
      have HNO := Lib.hid fun h => all_no (f := covK LL) hlt h
      obtain ⟨x, hx⟩ : ∃ x, x = B[j] := ⟨_, rfl⟩
      rw [← hx] at c1 hxb HT HNO
      clear hat hx
      go_wp2
      go_loop [7, 19] (fun f i => ∃ k : Nat, k ≤ LL.length ∧ i = .int .i64 k ∧ f = .bool ((LL.take k).any (inPt x))) (fun _ i => LL.length - (intOf i).toNat)
      case atStart => exact ⟨0, Nat.zero_le _, rfl, by simp⟩
      case round =>
        clear c1
        obtain ⟨k, hk, rfl, rfl⟩ := hrel
        by_cases hkl : k < LL.length
        · obtain ⟨g, off, rfl, hg, hat⟩ := HS1.out.some (by omega)
          obtain ⟨B2, c2, k1, hsl⟩ := hat k hkl
          have hl2 := H2.out LL[k] (List.getElem_mem _)
          have HA := Lib.hid (any_take hkl x)
          obtain ⟨L, hL⟩ : ∃ L, L = LL[k] := ⟨_, rfl⟩
          rw [← hL] at k1 hsl hl2 HA
          clear hL hat
          obtain ⟨a, b, rfl⟩ := two_of_len hl2
          obtain ⟨g2, off2, rfl, hg2, hat2⟩ := hsl.some (by show 0 < 2; omega)
          have d0 : w1.cell? ⟨g2, off2, none⟩ = some (.int .i64 a) := hat2 0 (by show 0 < 2; omega)
          have d1 : w1.cell? ⟨g2, off2 + 1, none⟩ = some (.int .i64 b) := hat2 1 (by show 1 < 2; omega)
          have k1' : w1.cell? ⟨g, off + k, none⟩ = some (.slice (some ⟨g2, off2, none⟩) 2 c2) := k1
          clear k1 hsl hat2 hl2
          cases hf : (LL.take k).any (inPt x)
          · rw [hf, Bool.false_or] at HA
            clear hf
            by_cases h1 : a ≤ x
            · by_cases h3 : x ≤ b
              · have HN : Hid (true = (LL.take (k + 1)).any (inPt x)) := Lib.hid (by rw [HA.out]; exact (decide_eq_true (show a ≤ x ∧ x ≤ b from ⟨h1, h3⟩)).symm)
                go_wp2
                go_round
                case rel => exact ⟨k + 1, by omega, by go_num, by rw [← HN.out]⟩
                case measure => simp [intOf]; omega
              · have HN : Hid (false = (LL.take (k + 1)).any (inPt x)) := Lib.hid (by rw [HA.out]; exact (decide_eq_false (show ¬ (a ≤ x ∧ x ≤ b) from fun h => h3 h.2)).symm)
                go_wp2
                go_round
                case rel => exact ⟨k + 1, by omega, by go_num, by rw [← HN.out]⟩
                case measure => simp [intOf]; omega
            · have HN : Hid (false = (LL.take (k + 1)).any (inPt x)) := Lib.hid (by rw [HA.out]; exact (decide_eq_false (show ¬ (a ≤ x ∧ x ≤ b) from fun h => h1 h.1)).symm)
              go_wp2
              go_round
              case rel => exact ⟨k + 1, by omega, by go_num, by rw [← HN.out]⟩
              case measure => simp [intOf]; omega
          · rw [hf, Bool.true_or] at HA
            have HN := Lib.hid HA.out.symm
            clear hf
            go_wp2
            go_round
            case rel => exact ⟨k + 1, by omega, by go_num, by rw [← HN.out]⟩
            case measure => simp [intOf]; omega
        · obtain rfl : k = LL.length := by omega
          rw [List.take_length]
          have HCK : Hid (LL.any (inPt x) = covK LL x) := Lib.hid rfl
          rw [HCK.out]
          clear HCK
          cases hf : covK LL x
          · have HN := Lib.hid (HNO.out hf)
            clear hf
            go_wp2
            go_ret
            exact ⟨ret_bool HN.out.symm, HB.out⟩
          · have HN : Hid ((B.take (j + 1)).all (covK LL) = true) := Lib.hid (by rw [HT.out, HALL.out, hf]; rfl)
            clear hf
            go_wp2
            go_round
            case rel => exact ⟨j + 1, by omega, by go_num, HN.out⟩
            case measure => simp [intOf]; omega
    · obtain rfl : j = B.length := by omega
      rw [List.take_length] at HALL
      go_wp2
      go_ret
      exact ⟨ret_bool HALL.out.symm, HB.out⟩

set_option maxRecDepth 20000 in
set_option maxHeartbeats 1000000 in
theorem reAre_any (s : ByteArray) (A : Option Addr) (c : Nat) (LL : List (List Int)) (w : World) (hs : s.size ≤ 30) (hl : LL.length ≤ 1000) (hm : ∀ L ∈ LL, L.length ≤ 1048576) (h : IntSS w A LL) :
    Calls Try.prog 95 #[.string s, .slice A LL.length c] w fun e w' => e = .returned (.bool (areP s LL)) ∧ Below w.heap.size w w' := by
  have HSS := Lib.hid h
  have HM := Lib.hid hm
  clear h hm
  go_enter Try.func95, Try.ntmps95
  go_wp2
  go_loopw [9] (fun i wr => ∃ j d : Nat, j ≤ LL.length ∧ i = .int .i64 j ∧ (LL.take j).all (okPt s.size) = true ∧ wr = w.drewN d) (fun i _ => LL.length - (intOf i).toNat)
  case atStart => exact ⟨0, 0, Nat.zero_le _, rfl, by simp, rfl⟩
  case round =>
    obtain ⟨j, d, hj, rfl, hall, rfl⟩ := hrel
    have HALL := Lib.hid hall
    clear hall
    by_cases hlt : j < LL.length
    · obtain ⟨g, off, rfl, hg, hat⟩ := HSS.out.some (by omega)
      obtain ⟨B2, c2, k1, hsl⟩ := hat j hlt
      have HT := Lib.hid (all_takeS hlt (okPt s.size))
      have HNO := Lib.hid fun h => all_noS (f := okPt s.size) hlt h
      have hLm := HM.out LL[j] (List.getElem_mem _)
      obtain ⟨L, hL⟩ : ∃ L, L = LL[j] := ⟨_, rfl⟩
      rw [← hL] at k1 hsl HT HNO hLm
      clear hL hat
      by_cases h2 : L.length = 2
      · obtain ⟨a, b, rfl⟩ := two_of_len h2
        obtain ⟨g2, off2, rfl, hg2, hat2⟩ := hsl.some (by show 0 < 2; omega)
        have d0 : w.cell? ⟨g2, off2, none⟩ = some (.int .i64 a) := hat2 0 (by show 0 < 2; omega)
        have d1 : w.cell? ⟨g2, off2 + 1, none⟩ = some (.int .i64 b) := hat2 1 (by show 1 < 2; omega)
        have k1' : w.cell? ⟨g, off + j, none⟩ = some (.slice (some ⟨g2, off2, none⟩) 2 c2) := k1
        clear k1 hsl hat2 h2 hLm
        have HI1 : Hid (∀ m, Calls Try.prog 75 #[.int .i64 b, .int .i64 0, .int .i64 ((s.size : Int) - 1)] (w.drewN (d + m)) fun e w' => e = .returned (.bool (decide (0 ≤ b ∧ b ≤ (s.size : Int) - 1))) ∧ ∃ q, w' = w.drewN (d + q)) := Lib.hid fun m => (l1In_any b 0 ((s.size : Int) - 1) _).mono fun _ _ h => ⟨h.1, m, h.2.symm⟩
        have HI2 : Hid (∀ m, Calls Try.prog 75 #[.int .i64 a, .int .i64 0, .int .i64 b] (w.drewN (d + m)) fun e w' => e = .returned (.bool (decide (0 ≤ a ∧ a ≤ b))) ∧ ∃ q, w' = w.drewN (d + q)) := Lib.hid fun m => (l1In_any a 0 b _).mono fun _ _ h => ⟨h.1, m, h.2.symm⟩
        by_cases h3 : 0 ≤ b ∧ b ≤ (s.size : Int) - 1
        · rw [decide_eq_true h3] at HI1
          by_cases h4 : 0 ≤ a ∧ a ≤ b
          · rw [decide_eq_true h4] at HI2
            have HN : Hid ((LL.take (j + 1)).all (okPt s.size) = true) := Lib.hid (by rw [HT.out, HALL.out]; exact decide_eq_true (show 0 ≤ a ∧ a ≤ b ∧ b < (s.size : Int) by omega))
            clear HNO h3 h4
            go_wp2
            go_quiet (first
              | (go_at_call 75; with_reducible exact HI1.out _)
              | (go_at_call 75; with_reducible exact HI2.out _))
            go_wp2
            go_roundw
            case rel => exact ⟨j + 1, _, by omega, by go_num, HN.out, rfl⟩
            case measure => simp [intOf]; omega
          · rw [decide_eq_false h4] at HI2
            have HN := Lib.hid (HNO.out (decide_eq_false (show ¬ (0 ≤ a ∧ a ≤ b ∧ b < (s.size : Int)) by omega)))
            have HR : Hid (areP s LL = false) := Lib.hid (by unfold areP; rw [HN.out]; rfl)
            clear HNO h3 h4 HN
            go_wp2
            go_quiet (first
              | (go_at_call 75; with_reducible exact HI1.out _)
              | (go_at_call 75; with_reducible exact HI2.out _))
            go_wp2
            go_ret
            exact ⟨ret_bool HR.out.symm, below_drewN (below_drewN (Below.refl _ _) _) _⟩
        · rw [decide_eq_false h3] at HI1
          have HN := Lib.hid (HNO.out (decide_eq_false (show ¬ (0 ≤ a ∧ a ≤ b ∧ b < (s.size : Int)) by omega)))
          have HR : Hid (areP s LL = false) := Lib.hid (by unfold areP; rw [HN.out]; rfl)
          clear HNO h3 HN HI2
          go_wp2
          go_quiet (first | (go_at_call 75; with_reducible exact HI1.out _))
          go_wp2
          go_ret
          exact ⟨ret_bool HR.out.symm, below_drewN (below_drewN (Below.refl _ _) _) _⟩
      · have HN := Lib.hid (HNO.out (okPt_len h2))
        have HR : Hid (areP s LL = false) := Lib.hid (by unfold areP; rw [HN.out]; rfl)
        have hd : ((L.length : Int) != 2) = true := by rw [bne_iff_ne]; omega
        clear HNO HN hsl
        go_wp2
        go_quiet (fail)
        go_wp2
        go_ret
        exact ⟨ret_bool HR.out.symm, below_drewN (below_drewN (Below.refl _ _) _) _⟩
    · obtain rfl : j = LL.length := by omega
      rw [List.take_length] at HALL
      have HB := Lib.hid (below_drewN (Below.refl w.heap.size w) d)
      have HC := Lib.hid (reCover_any s A c LL (w.drewN d) hs hl (fun L hL => by obtain ⟨a, b, rfl, _⟩ := okPt_two (all_mem HALL.out L hL); rfl) (HSS.out.below HB.out))
      have HR : Hid (covers s LL = areP s LL) := Lib.hid (by unfold areP; rw [HALL.out]; rfl)
      rw [HR.out] at HC
      clear HR HSS HM
      go_wp2_with fail
      refine HC.out.mono ?_
      rintro e w2 ⟨rfl, hb2⟩
      have HB2 := Lib.hid (below_nextN HB.out HB.out.size hb2)
      go_wp2
      go_ret
      exact ⟨rfl, HB2.out⟩

def okAC (s : ByteArray) (LL : List (List Int)) : Bool := okYard s && decide (LL.length ≤ 10)
def acB (s : ByteArray) (LL : List (List Int)) : Bool := okAC s LL && areP s LL
theorem specAreCovering_any (s0 : ByteArray) (A1 : Option Addr) (c1 : Nat) (L1 : List (List Int)) (w : World) (hs : s0.size ≤ maxLen) (l1 : SSok L1) (_ : ∀ L ∈ L1, WfL L) (_ : L1.length ≤ c1) (h1 : IntSS w A1 L1) :
    Calls Try.prog 53 #[.string s0, .slice A1 L1.length c1] w fun e w' => e = .returned (.tuple #[.bool (acB s0 L1), .bool (okAC s0 L1)]) ∧ Below w.heap.size w w' := by
  have hl := l1.1
  unfold acB okAC
  cases h : okYard s0
  · have H := Lib.hid h; clear h h1
    go_enter Try.func53, Try.ntmps53
    go_wp2_with (go_at_call 72; refine (reGood_any s0 _ hs).mono ?_; rintro e w' ⟨rfl, rfl⟩; rw [H.out])
    go_ret2
    exact ⟨rfl, Below.refl _ _⟩
  · have hz := okYard_size h
    have H := Lib.hid h; clear h
    by_cases hk : L1.length ≤ 10
    · rw [decide_eq_true hk]
      have HC := Lib.hid (reAre_any s0 A1 c1 L1 w hz.2 (by omega) l1.2.1 h1)
      obtain ⟨q, hq⟩ : ∃ q, q = areP s0 L1 := ⟨_, rfl⟩
      rw [← hq] at HC ⊢
      clear hq h1
      go_enter Try.func53, Try.ntmps53
      go_wp2_with (first
        | (go_at_call 72; refine (reGood_any s0 _ hs).mono ?_; rintro e w' ⟨rfl, rfl⟩; rw [H.out])
        | (go_at_call 95; refine HC.out.mono ?_; rintro e w1 ⟨rfl, hb⟩))
      go_ret2
      exact ⟨rfl, hb⟩
    · rw [decide_eq_false hk]
      clear h1
      go_enter Try.func53, Try.ntmps53
      go_wp2_with (go_at_call 72; refine (reGood_any s0 _ hs).mono ?_; rintro e w' ⟨rfl, rfl⟩; rw [H.out])
      go_ret2
      exact ⟨rfl, Below.refl _ _⟩
end Go.Proofs.Ytfickmbfbmbjcaa
