/- LongestSound of both sides. No condition but the text's length. -/
import Derived.Test.YtfickmbfbmbjcaaSound2
import Derived.Test.YtfickmbfbmbjcaaMend
namespace Go.Proofs.Ytfickmbfbmbjcaa
open Go.RowKit

/-- the longest of some stretches: where it begins, how long it is -/
def lgStep (q : Nat × Nat) (p : Nat × Nat) : Nat × Nat := if q.2 < p.2 - p.1 + 1 then (p.1, p.2 - p.1 + 1) else q
def lgF (P : List (Nat × Nat)) : Nat × Nat := P.foldl lgStep (0, 0)
theorem lgF_snoc (P : List (Nat × Nat)) (p : Nat × Nat) : lgF (P ++ [p]) = lgStep (lgF P) p := by unfold lgF; rw [List.foldl_append]; rfl
theorem lgF_take {P : List (Nat × Nat)} {j : Nat} (h : j < P.length) : lgF (P.take (j + 1)) = lgStep (lgF (P.take j)) P[j] := by rw [List.take_succ_eq_append_getElem h, lgF_snoc]
theorem lgF_bd (P : List (Nat × Nat)) (hP : ∀ p ∈ P, p.1 ≤ p.2 ∧ p.2 < 30) : ∀ j, j ≤ P.length → (lgF (P.take j)).1 ≤ 30 ∧ (lgF (P.take j)).2 ≤ 30 ∧ ((lgF (P.take j)).2 = 0 → (lgF (P.take j)).1 = 0)
  | 0, _ => by
    rw [List.take_zero]
    exact ⟨Nat.zero_le _, Nat.zero_le _, fun _ => rfl⟩
  | j + 1, h => by
    have ih := lgF_bd P hP j (by omega)
    rw [lgF_take (show j < P.length by omega)]
    have hp := hP P[j] (List.getElem_mem _)
    unfold lgStep
    split
    · exact ⟨by show P[j].1 ≤ 30; omega, by show P[j].2 - P[j].1 + 1 ≤ 30; omega, fun h => by simp at h⟩
    · exact ih
def lgA (s : ByteArray) : Nat := if okYard s = true then (lgF (sndL s s.size)).1 else 0
def lgB (s : ByteArray) : Nat := if okYard s = true then (lgF (sndL s s.size)).2 else 0
def lgOk (s : ByteArray) : Bool := decide (0 < lgB s)
theorem lg_no {s : ByteArray} (h : okYard s = false) : lgA s = 0 ∧ lgB s = 0 := by unfold lgA lgB; rw [h]; exact ⟨rfl, rfl⟩
theorem lg_yes {s : ByteArray} (h : okYard s = true) : lgA s = (lgF (sndL s s.size)).1 ∧ lgB s = (lgF (sndL s s.size)).2 := by unfold lgA lgB; rw [h]; exact ⟨rfl, rfl⟩

set_option maxRecDepth 20000 in
set_option maxHeartbeats 4000000 in
theorem specLongestSound_any (s0 : ByteArray) (w : World) (hs : s0.size ≤ maxLen) :
    Calls Try.prog 40 #[.string s0] w fun e w' => e = .returned (.tuple #[.int .i64 (lgA s0), .int .i64 (lgB s0), .bool (lgOk s0)]) ∧ Below w.heap.size w w' := by
  unfold lgOk
  cases h : okYard s0
  · obtain ⟨h1, h2⟩ := lg_no h
    rw [h1, h2]
    have H := Lib.hid h; clear h h1 h2
    go_enter Try.func40, Try.ntmps40
    go_wp2_with (go_at_call 72; refine (reGood_any s0 _ hs).mono ?_; rintro e w' ⟨rfl, rfl⟩; rw [H.out])
    go_ret3
    exact ⟨rfl, Below.refl _ _⟩
  · obtain ⟨h1, h2⟩ := lg_yes h
    rw [h1, h2]
    have hz := okYard_size h
    have hl := snd_bd s0 s0.size
    have HS := Lib.hid fun W => reSound_any s0 W h
    have H := Lib.hid h; clear h h1 h2
    have hP : ∀ p ∈ sndL s0 s0.size, p.1 ≤ p.2 ∧ p.2 < 30 := fun p hp => by have := hl.2 p hp; omega
    have hPl : (sndL s0 s0.size).length ≤ 30 := by omega
    obtain ⟨P, hPP⟩ : ∃ P, P = sndL s0 s0.size := ⟨_, rfl⟩
    rw [← hPP] at HS hP hPl ⊢
    have HP := Lib.hid hP
    clear hPP hP hl
    go_enter Try.func40, Try.ntmps40
    go_wp2_with (first
      | (go_at_call 72; refine (reGood_any s0 _ hs).mono ?_; rintro e w' ⟨rfl, rfl⟩; rw [H.out])
      | (go_at_call 84; refine (HS.out _).mono ?_; rintro e w1 ⟨v, rfl, ⟨vs, ho⟩, hb⟩; obtain ⟨AV, cV, rfl⟩ := own_any ho.out))
    have hvl : vs.length = P.length := by rw [ho.len, List.length_map, pairL_len]
    have HO := Lib.hid ho
    have HB := Lib.hid hb
    clear ho hb
    go_loopw [5, 6, 16] (fun a m i wr => ∃ j d : Nat, j ≤ P.length ∧ i = .int .i64 j ∧ a = .int .i64 ((lgF (P.take j)).1 : Nat) ∧ m = .int .i64 ((lgF (P.take j)).2 : Nat) ∧ wr = w1.drewN d) (fun _ _ i _ => P.length - (intOf i).toNat)
    case atStart => exact ⟨0, 0, Nat.zero_le _, rfl, rfl, rfl, rfl⟩
    case round =>
      obtain ⟨j, d, hj, rfl, rfl, rfl, rfl⟩ := hrel
      have hbd := lgF_bd P HP.out j hj
      by_cases hlt : j < P.length
      · have HT := Lib.hid (lgF_take hlt)
        have hp := HP.out P[j] (List.getElem_mem _)
        obtain ⟨g, c, hV, hgb, hgl⟩ := own_some HO.out.out (by omega)
        injection hV with hV1 hV2 hV3
        subst hV1
        obtain ⟨A, c2, hv2, hown2⟩ := OwnSS.at HO.out (i := j) (z := intsV [(P[j].1 : Int), (P[j].2 : Int)]) (by rw [List.getElem?_map, pairL_at _ hlt]; simp)
        obtain ⟨g2, c3, hA, hg2b, hg2l⟩ := own_some hown2 (by show 0 < 2; omega)
        injection hA with hA1 hA2 hA3
        subst hA1 hA3
        have k0 : w1.cell? ⟨g2, 0, none⟩ = some (.int .i64 P[j].1) := hown2.cellAt 0 (by show 0 < 2 * 1; omega)
        have k1 : w1.cell? ⟨g2, 1, none⟩ = some (.int .i64 P[j].2) := hown2.cellAt 1 (by show 1 < 2 * 1; omega)
        have hcV := HO.out.out.cellAt j (by omega)
        rw [hv2] at hcV
        have kV : w1.cell? ⟨g, j, none⟩ = some (.slice (some ⟨g2, 0, none⟩) 2 c2) := hcV
        obtain ⟨x, hx⟩ : ∃ x, x = P[j].1 := ⟨_, rfl⟩
        obtain ⟨y, hy⟩ : ∃ y, y = P[j].2 := ⟨_, rfl⟩
        obtain ⟨a, ha⟩ : ∃ a, a = (lgF (P.take j)).1 := ⟨_, rfl⟩
        obtain ⟨m, hm⟩ : ∃ m, m = (lgF (P.take j)).2 := ⟨_, rfl⟩
        rw [← hx] at k0 hp
        rw [← hy] at k1 hp
        have HN : Hid (lgF (P.take (j + 1)) = if m < y - x + 1 then (x, y - x + 1) else lgF (P.take j)) := Lib.hid (by rw [HT.out, hx, hy, hm]; rfl)
        rw [← ha, ← hm] at hbd ⊢
        have HAM := Lib.hid (And.intro ha hm)
        clear hcV hown2 hv2 hx hy ha hm HT hA2 hV2 hV3
        obtain ⟨n, hn⟩ : ∃ n : Nat, n = y - x + 1 := ⟨_, rfl⟩
        have e1 : (y : Int) - (x : Int) + 1 = (n : Int) := by omega
        rw [← hn] at HN
        by_cases hlt2 : m < n
        · have HN2 : Hid (lgF (P.take (j + 1)) = (x, n)) := Lib.hid (by rw [HN.out, if_pos hlt2])
          have hd : decide ((m : Int) < (n : Int)) = true := decide_eq_true (by omega)
          go_wp2
          go_quiet (fail)
          go_wp2
          go_roundw
          case rel => exact ⟨j + 1, _, by omega, by go_num, by rw [HN2.out], by rw [HN2.out]; show Value.int _ _ = Value.int _ ((n : Nat) : Int); congr 1; omega, rfl⟩
          case measure => simp [intOf]; omega
        · have HN2 : Hid (a = (lgF (P.take (j + 1))).1 ∧ m = (lgF (P.take (j + 1))).2) := Lib.hid (by rw [HN.out, if_neg hlt2]; exact HAM.out)
          have hd : decide ((m : Int) < (n : Int)) = false := decide_eq_false (by omega)
          go_wp2
          go_quiet (fail)
          go_wp2
          go_roundw
          case rel => exact ⟨j + 1, _, by omega, by go_num, by rw [← HN2.out.1], by rw [← HN2.out.2], rfl⟩
          case measure => simp [intOf]; omega
      · obtain rfl : j = P.length := by omega
        rw [List.take_length] at hbd ⊢
        obtain ⟨a, ha⟩ : ∃ a, a = (lgF P).1 := ⟨_, rfl⟩
        obtain ⟨m, hm⟩ : ∃ m, m = (lgF P).2 := ⟨_, rfl⟩
        rw [← ha, ← hm] at hbd ⊢
        have HE : Hid ((lgF P).1 = a ∧ (lgF P).2 = m) := Lib.hid ⟨ha.symm, hm.symm⟩
        clear ha hm
        have HBD := Lib.hid (below_drewN HB.out d)
        by_cases h0 : m = 0
        · have h1 := hbd.2.2 h0
          subst h0 h1
          go_wp2
          go_ret3
          refine ⟨?_, HBD.out⟩
          rw [HE.out.1, HE.out.2]
          rfl
        · have hz0 : ((m : Int) == 0) = false := by rw [beq_eq_false_iff_ne]; omega
          go_wp2
          go_ret3
          refine ⟨?_, HBD.out⟩
          rw [HE.out.1, HE.out.2, decide_eq_true (show 0 < m by omega)]
          rfl
end Go.Proofs.Ytfickmbfbmbjcaa
