/- LongestSound of the program. No condition but the text's length. -/
import Derived.Test.YtfickmbfbmbjcaaLongest5
namespace Go.Proofs.Ytfickmbfbmbjcaa
open Go.RowKit

set_option maxRecDepth 20000 in
set_option maxHeartbeats 4000000 in
theorem implLongestSound_any (s0 : ByteArray) (w : World) (hs : s0.size ≤ maxLen) :
    Calls Try.prog 41 #[.string s0] w fun e w' => e = .returned (.tuple #[.int .i64 (lgA s0), .int .i64 (lgB s0), .bool (lgOk s0)]) ∧ Below w.heap.size w w' := by
  unfold lgOk
  cases h : okYard s0
  · obtain ⟨h1, h2⟩ := lg_no h
    rw [h1, h2]
    have H := Lib.hid h; clear h h1 h2
    go_enter Try.func41, Try.ntmps41
    go_wp2_with (go_at_call 24; refine (implIsYard_any s0 _ hs).mono ?_; rintro e w1 ⟨rfl, hb1⟩; rw [H.out])
    go_ret3
    exact ⟨rfl, hb1⟩
  · obtain ⟨h1, h2⟩ := lg_yes h
    rw [h1, h2]
    have hz := okYard_size h
    have hl := snd_bd s0 s0.size
    have HS := Lib.hid fun W => soundParts_any s0 W h
    have H := Lib.hid h; clear h h1 h2
    have hP : ∀ p ∈ sndL s0 s0.size, p.1 ≤ p.2 ∧ p.2 < 30 := fun p hp => by have := hl.2 p hp; omega
    have hPl : (sndL s0 s0.size).length ≤ 30 := by omega
    obtain ⟨P, hPP⟩ : ∃ P, P = sndL s0 s0.size := ⟨_, rfl⟩
    rw [← hPP] at HS hP hPl ⊢
    have HP := Lib.hid hP
    clear hPP hP hl
    go_enter Try.func41, Try.ntmps41
    go_wp2_with (first
      | (go_at_call 24; refine (implIsYard_any s0 _ hs).mono ?_; rintro e w0 ⟨rfl, hb0⟩; rw [H.out])
      | (go_at_call 86; refine (HS.out _).mono ?_; rintro e w1 ⟨v, rfl, ho, hb1⟩; obtain ⟨AV, cV, rfl⟩ := own_any ho))
    have HO := Lib.hid ho
    have HB := Lib.hid (below_next hb0 hb1)
    clear ho hb0 hb1
    go_loopw [5, 6, 15] (fun a m i wr => ∃ j : Nat, j ≤ P.length ∧ i = .int .i64 j ∧ a = .int .i64 ((lgF (P.take j)).1 : Nat) ∧ m = .int .i64 ((lgF (P.take j)).2 : Nat) ∧ Below w1.heap.size w1 wr) (fun _ _ i _ => P.length - (intOf i).toNat)
    case atStart => exact ⟨0, Nat.zero_le _, rfl, rfl, rfl, Below.refl _ _⟩
    case round =>
      obtain ⟨j, hj, rfl, rfl, rfl, hb⟩ := hrel
      have hbd := lgF_bd P HP.out j hj
      by_cases hlt : j < P.length
      · have HT := Lib.hid (lgF_take hlt)
        have hp := HP.out P[j] (List.getElem_mem _)
        obtain ⟨g, c, hV, hgb, hgl⟩ := own_some HO.out (by omega)
        injection hV with hV1 hV2 hV3
        subst hV1
        have k0 := World.ownsRow.cellAt HO.out (j * 2) (by omega)
        have k1 := World.ownsRow.cellAt HO.out (j * 2 + 1) (by omega)
        rw [(pairC_at P hlt).1, ← (bcell hb).1 g _ hgl] at k0
        rw [(pairC_at P hlt).2, ← (bcell hb).1 g _ hgl] at k1
        obtain ⟨x, hx⟩ : ∃ x, x = P[j].1 := ⟨_, rfl⟩
        obtain ⟨y, hy⟩ : ∃ y, y = P[j].2 := ⟨_, rfl⟩
        obtain ⟨a, ha⟩ : ∃ a, a = (lgF (P.take j)).1 := ⟨_, rfl⟩
        obtain ⟨m, hm⟩ : ∃ m, m = (lgF (P.take j)).2 := ⟨_, rfl⟩
        rw [← hx] at k0 hp
        rw [← hy] at k1 hp
        have HN : Hid (lgF (P.take (j + 1)) = if m < y - x + 1 then (x, y - x + 1) else lgF (P.take j)) := Lib.hid (by rw [HT.out, hx, hy, hm]; rfl)
        rw [← ha, ← hm] at hbd ⊢
        have HAM := Lib.hid (And.intro ha hm)
        clear hx hy ha hm HT hV2 hV3
        obtain ⟨n, hn⟩ : ∃ n : Nat, n = y - x + 1 := ⟨_, rfl⟩
        have HL := Lib.hid fun W => stLong_any x y W (by omega) (by omega) (by omega) (by omega)
        rw [show (y : Int) - (x : Int) + 1 = (n : Int) by omega] at HL
        rw [← hn] at HN
        have HC := Lib.hid (cells2 wr x y 65)
        have HB0 := Lib.hid (hb.alloc hb.size (.cells #[.int .i64 (x : Int), .int .i64 (y : Int)] 65))
        have HK : Hid (∀ W, Below (wr.alloc (.cells #[.int .i64 (x : Int), .int .i64 (y : Int)] 65)).heap.size (wr.alloc (.cells #[.int .i64 (x : Int), .int .i64 (y : Int)] 65)) W → W.cell? ⟨wr.heap.size, 0, none⟩ = some (.int .i64 x) ∧ W.cell? ⟨wr.heap.size, 1, none⟩ = some (.int .i64 y)) := Lib.hid fun W h => ⟨by rw [(bcell h).1 wr.heap.size 0 (by simp)]; exact HC.out.1, by rw [(bcell h).1 wr.heap.size 1 (by simp)]; exact HC.out.2⟩
        clear hn
        by_cases hlt2 : m < n
        · have HN2 : Hid (lgF (P.take (j + 1)) = (x, n)) := Lib.hid (by rw [HN.out, if_pos hlt2])
          have hd : decide ((m : Int) < (n : Int)) = true := decide_eq_true (by omega)
          go_wp2_with fail
          refine (HL.out _).mono ?_
          rintro e w2 ⟨rfl, hb2⟩
          have HB1 := Lib.hid hb2
          clear hb2
          go_wp2
          have HK2 := HK.out _ HB1.out.drew
          go_region_held3 (fun x1 => x1.cell? ⟨wr.heap.size, 0, none⟩ = some (.int .i64 x) ∧ x1.cell? ⟨wr.heap.size, 1, none⟩ = some (.int .i64 y))
            (first | go_keep | exact HK.out _ HB1.out.drew | exact HK.out _ HB2.out)
            (first
              | (go_at_call 83; refine (HL.out _).mono ?_; rintro e w3 ⟨rfl, hbx⟩; have HB2 := Lib.hid (below_nextN HB1.out.drew HB1.out.drew.size hbx); clear hbx))
          go_wp2
          go_roundw
          case rel => exact ⟨j + 1, by omega, by go_num, by rw [HN2.out], by rw [HN2.out], below_nextN HB0.out HB0.out.size HB2.out⟩
          case measure => simp [intOf]; omega
        · have HN2 : Hid (a = (lgF (P.take (j + 1))).1 ∧ m = (lgF (P.take (j + 1))).2) := Lib.hid (by rw [HN.out, if_neg hlt2]; exact HAM.out)
          have hd : decide ((m : Int) < (n : Int)) = false := decide_eq_false (by omega)
          go_wp2_with fail
          refine (HL.out _).mono ?_
          rintro e w2 ⟨rfl, hb2⟩
          have HB1 := Lib.hid hb2
          clear hb2
          go_wp2
          go_roundw
          case rel => exact ⟨j + 1, by omega, by go_num, by rw [← HN2.out.1], by rw [← HN2.out.2], below_nextN HB0.out HB0.out.size HB1.out⟩
          case measure => simp [intOf]; omega
      · obtain rfl : j = P.length := by omega
        rw [List.take_length] at hbd ⊢
        obtain ⟨a, ha⟩ : ∃ a, a = (lgF P).1 := ⟨_, rfl⟩
        obtain ⟨m, hm⟩ : ∃ m, m = (lgF P).2 := ⟨_, rfl⟩
        rw [← ha, ← hm] at hbd ⊢
        have HE : Hid ((lgF P).1 = a ∧ (lgF P).2 = m) := Lib.hid ⟨ha.symm, hm.symm⟩
        clear ha hm
        have HBD := Lib.hid (below_nextN HB.out HB.out.size hb)
        by_cases h0 : m = 0
        · have h1 := hbd.2.2 h0
          subst h0 h1
          go_wp2
          go_ret3
          refine ⟨?_, HBD.out⟩
          rw [HE.out.1, HE.out.2]
          rfl
        · have hd : decide ((0 : Int) < (m : Int)) = true := decide_eq_true (by omega)
          go_wp2
          go_ret3
          refine ⟨?_, HBD.out⟩
          rw [HE.out.1, HE.out.2, decide_eq_true (show 0 < m by omega)]
          rfl
end Go.Proofs.Ytfickmbfbmbjcaa
