/- MostSeen of both sides. No condition but the list's length. -/
import Derived.Test.YtnnhkogmppheeaaSee3
namespace Go.Proofs.Ytnnhkogmppheeaa
open Go.RowKit

def seeN (L : List Int) (b : Nat) : Nat := (pickJ (seeB L b) L.length).length
/-- of the first j boards the one that sees the most, and how many -/
def mstL (L : List Int) : Nat → Nat × Nat
  | 0 => (0, 0)
  | j + 1 => if (mstL L j).2 < seeN L j then (j, seeN L j) else mstL L j
theorem mst_yes {L : List Int} {j : Nat} (h : (mstL L j).2 < seeN L j) : mstL L (j + 1) = (j, seeN L j) := by
  show (if _ then _ else _) = _; rw [if_pos h]
theorem mst_no {L : List Int} {j : Nat} (h : ¬ (mstL L j).2 < seeN L j) : mstL L (j + 1) = mstL L j := by
  show (if _ then _ else _) = _; rw [if_neg h]
theorem mst_one (L : List Int) : mstL L 1 = (0, seeN L 0) := by
  by_cases h : (mstL L 0).2 < seeN L 0
  · exact mst_yes h
  · rw [mst_no h]
    have : seeN L 0 = 0 := by have : ¬ 0 < seeN L 0 := h; omega
    rw [this]; rfl
theorem mst_bd (L : List Int) (n : Nat) (hL : L.length ≤ n) : ∀ j, j ≤ n → (mstL L j).1 ≤ n ∧ (mstL L j).2 ≤ n
  | 0, _ => ⟨Nat.zero_le _, Nat.zero_le _⟩
  | j + 1, h => by
    have := mst_bd L n hL j (by omega)
    have h2 := pickJ_len (seeB L j) L.length
    by_cases h1 : (mstL L j).2 < seeN L j
    · rw [mst_yes h1]; unfold seeN; exact ⟨by show j ≤ n; omega, by show _ ≤ n; omega⟩
    · rw [mst_no h1]; exact this
def mostA (L : List Int) : Int := if okH L = true then ((mstL L L.length).1 : Int) else 0
def mostB (L : List Int) : Int := if okH L = true then ((mstL L L.length).2 : Int) else 0

set_option maxRecDepth 20000 in
set_option maxHeartbeats 2000000 in
theorem implMostSeen_any (A0 : Option Addr) (c0 : Nat) (L0 : List Int) (w : World) (l0 : L0.length ≤ 1048576) (f0 : WfL L0) (q0 : L0.length ≤ c0) (h0 : IntSl w A0 L0) :
    Calls Try.prog 59 #[.slice A0 L0.length c0] w fun e w' => e = .returned (.tuple #[.int .i64 (mostA L0), .int .i64 (mostB L0), .bool (okH L0)]) ∧ Below w.heap.size w w' := by
  have HG := Lib.hid (implHeights_any A0 c0 L0 w l0 h0)
  cases hk : okH L0
  · rw [show mostA L0 = 0 by unfold mostA; rw [hk]; rfl, show mostB L0 = 0 by unfold mostB; rw [hk]; rfl]
    rw [hk] at HG
    clear hk h0
    go_enter Try.func59, Try.ntmps59
    go_wp2_with fail
    refine HG.out.mono ?_
    rintro e w1 ⟨rfl, rfl⟩
    go_wp2
    go_ret3
    exact ⟨rfl, Below.refl _ _⟩
  · rw [show mostA L0 = ((mstL L0 L0.length).1 : Int) by unfold mostA; rw [if_pos hk], show mostB L0 = ((mstL L0 L0.length).2 : Int) by unfold mostB; rw [if_pos hk]]
    have HMB := Lib.hid (mst_bd L0 L0.length (Nat.le_refl _))
    have HSE : Hid (∀ (j : Nat) (W : World), j < L0.length → Below w.heap.size w W → Calls Try.prog 55 #[.slice A0 L0.length c0, .int .i64 j] W fun e w' => (∃ A c, e = .returned (.tuple #[.slice A (seeN L0 j) c, .bool true])) ∧ Below W.heap.size W w') := Lib.hid fun j W hj hW => by
      have hq : okSee L0 (j : Int) = true := by unfold okSee; rw [hk, decide_eq_true (by omega)]; rfl
      have hl := okH_len hk
      refine (implSeenFrom_any A0 c0 L0 j W l0 f0 q0 (h0.below hW) (wf64_mk (by omega) (by omega))).mono ?_
      rintro e w1 ⟨v, rfl, hown, hb⟩
      rw [seeR_yes hq, Int.toNat_natCast] at hown
      obtain ⟨A, c, rfl⟩ := hown.len
      exact ⟨⟨A, c, by rw [hq]; rfl⟩, hb⟩
    have hl := okH_len hk
    rw [hk] at HG
    clear hk h0
    go_enter Try.func59, Try.ntmps59
    go_wp2_with fail
    refine HG.out.mono ?_
    rintro e w1 ⟨rfl, rfl⟩
    go_wp2
    go_loopw [5, 6, 15] (fun u v i wr => ∃ j : Nat, j ≤ L0.length ∧ i = .int .i64 j ∧ u = .int .i64 ((mstL L0 j).1 : Int) ∧ v = .int .i64 ((mstL L0 j).2 : Int) ∧ Below w.heap.size w wr) (fun _ _ i _ => L0.length - (intOf i).toNat)
    case atStart => exact ⟨0, Nat.zero_le _, rfl, rfl, rfl, Below.refl _ _⟩
    case round =>
      obtain ⟨j, hj, rfl, rfl, rfl, hb⟩ := hrel
      obtain ⟨x, hx⟩ : ∃ x, x = (mstL L0 j).1 := ⟨_, rfl⟩
      obtain ⟨y, hy⟩ : ∃ y, y = (mstL L0 j).2 := ⟨_, rfl⟩
      have HB := Lib.hid hb
      have HX := Lib.hid hx
      have HY := Lib.hid hy
      rw [← hx, ← hy]
      clear hx hy
      by_cases hlt : j < L0.length
      · have HC := Lib.hid (HSE.out j wr hlt hb)
        obtain ⟨n, hn⟩ : ∃ n, n = seeN L0 j := ⟨_, rfl⟩
        rw [← hn] at HC
        have HN := Lib.hid hn
        clear hn hb
        by_cases hyn : y < n
        · have HS : Hid (mstL L0 (j + 1) = (j, n)) := Lib.hid (by rw [HN.out]; exact mst_yes (by rw [← HY.out, ← HN.out]; exact hyn))
          go_wp2_with fail
          refine HC.out.mono ?_
          rintro e w1 ⟨⟨A, c, rfl⟩, hb1⟩
          have HB1 := Lib.hid (below_next HB.out hb1)
          clear hb1
          go_wp2
          go_roundw
          case rel => exact ⟨j + 1, by omega, by go_num, by rw [HS.out], by rw [HS.out], HB1.out⟩
          case measure => simp [intOf]; omega
        · have HS : Hid (mstL L0 (j + 1) = (x, y)) := Lib.hid (by rw [HX.out, HY.out]; exact mst_no (by rw [← HY.out, ← HN.out]; exact hyn))
          go_wp2_with fail
          refine HC.out.mono ?_
          rintro e w1 ⟨⟨A, c, rfl⟩, hb1⟩
          have HB1 := Lib.hid (below_next HB.out hb1)
          clear hb1
          go_wp2
          go_roundw
          case rel => exact ⟨j + 1, by omega, by go_num, by rw [HS.out], by rw [HS.out], HB1.out⟩
          case measure => simp [intOf]; omega
      · obtain rfl : j = L0.length := by omega
        go_wp2
        go_ret3
        exact ⟨ret_iib (by rw [HX.out]) (by rw [HY.out]) rfl, HB.out⟩

set_option maxRecDepth 20000 in
set_option maxHeartbeats 2000000 in
theorem specMostSeen_any (A0 : Option Addr) (c0 : Nat) (L0 : List Int) (w : World) (l0 : L0.length ≤ 1048576) (_ : WfL L0) (_ : L0.length ≤ c0) (h0 : IntSl w A0 L0) :
    Calls Try.prog 58 #[.slice A0 L0.length c0] w fun e w' => e = .returned (.tuple #[.int .i64 (mostA L0), .int .i64 (mostB L0), .bool (okH L0)]) ∧ Below w.heap.size w w' := by
  have HG := Lib.hid (caGood_any A0 c0 L0 w l0 h0)
  cases hk : okH L0
  · rw [show mostA L0 = 0 by unfold mostA; rw [hk]; rfl, show mostB L0 = 0 by unfold mostB; rw [hk]; rfl]
    rw [hk] at HG
    clear hk h0
    go_enter Try.func58, Try.ntmps58
    go_wp2_with fail
    refine HG.out.mono ?_
    rintro e w1 ⟨rfl, rfl⟩
    go_wp2
    go_ret3
    exact ⟨rfl, Below.refl _ _⟩
  · rw [show mostA L0 = ((mstL L0 L0.length).1 : Int) by unfold mostA; rw [if_pos hk], show mostB L0 = ((mstL L0 L0.length).2 : Int) by unfold mostB; rw [if_pos hk]]
    have hl := okH_len hk
    have HMB := Lib.hid (mst_bd L0 L0.length (Nat.le_refl _))
    have HSE : Hid (∀ (j : Nat) (W : World), j < L0.length → Below w.heap.size w W → Calls Try.prog 99 #[.slice A0 L0.length c0, .int .i64 j] W fun e w' => (∃ A c, e = .returned (.slice A (seeN L0 j) c)) ∧ Below W.heap.size W w') := Lib.hid fun j W hj hW => by
      refine (caSeen_any j A0 c0 L0 W hj hl.2 (h0.below hW)).mono ?_
      rintro e w1 ⟨v, rfl, hown, hb⟩
      obtain ⟨A, c, rfl⟩ := hown.len
      exact ⟨⟨A, c, rfl⟩, hb⟩
    have HONE := Lib.hid (mst_one L0)
    rw [hk] at HG
    clear hk h0
    go_enter Try.func58, Try.ntmps58
    go_wp2_with fail
    refine HG.out.mono ?_
    rintro e w1 ⟨rfl, rfl⟩
    go_wp2
    go_loopw [5, 6, 14] (fun u v i wr => ∃ j : Nat, j ≤ L0.length ∧ i = .int .i64 j ∧ u = .int .i64 ((mstL L0 j).1 : Int) ∧ v = .int .i64 (if j = 0 then -1 else ((mstL L0 j).2 : Int)) ∧ Below w.heap.size w wr) (fun _ _ i _ => L0.length - (intOf i).toNat)
    case atStart => exact ⟨0, Nat.zero_le _, rfl, rfl, rfl, Below.refl _ _⟩
    case round =>
      obtain ⟨j, hj, rfl, rfl, rfl, hb⟩ := hrel
      obtain ⟨x, hx⟩ : ∃ x, x = (mstL L0 j).1 := ⟨_, rfl⟩
      obtain ⟨y, hy⟩ : ∃ y : Int, y = if j = 0 then -1 else ((mstL L0 j).2 : Int) := ⟨_, rfl⟩
      have HB := Lib.hid hb
      have HX := Lib.hid hx
      have HY := Lib.hid hy
      rw [← hx, ← hy]
      clear hx hy
      by_cases hlt : j < L0.length
      · have HC := Lib.hid (HSE.out j wr hlt hb)
        obtain ⟨n, hn⟩ : ∃ n, n = seeN L0 j := ⟨_, rfl⟩
        rw [← hn] at HC
        have HN := Lib.hid hn
        clear hn hb
        by_cases hyn : y < (n : Int)
        · have HS : Hid (mstL L0 (j + 1) = (j, n)) := Lib.hid (by
            have h1 := HY.out
            by_cases h0 : j = 0
            · subst h0; rw [HONE.out, HN.out]
            · rw [if_neg h0] at h1
              rw [HN.out]; exact mst_yes (by rw [← HN.out]; omega))
          go_wp2_with fail
          refine HC.out.mono ?_
          rintro e w1 ⟨⟨A, c, rfl⟩, hb1⟩
          have HB1 := Lib.hid (below_next HB.out hb1)
          clear hb1
          go_wp2
          go_roundw
          case rel => exact ⟨j + 1, by omega, by go_num, by rw [HS.out], by rw [HS.out, if_neg (by omega)], HB1.out⟩
          case measure => simp [intOf]; omega
        · have hj0 : j ≠ 0 := fun e => by have h1 := HY.out; rw [if_pos e] at h1; omega
          have HS : Hid (mstL L0 (j + 1) = (x, (mstL L0 j).2) ∧ y = ((mstL L0 j).2 : Int)) := Lib.hid (by
            have h1 := HY.out
            rw [if_neg hj0] at h1
            exact ⟨by rw [HX.out]; exact mst_no (by rw [← HN.out]; omega), h1⟩)
          go_wp2_with fail
          refine HC.out.mono ?_
          rintro e w1 ⟨⟨A, c, rfl⟩, hb1⟩
          have HB1 := Lib.hid (below_next HB.out hb1)
          clear hb1
          go_wp2
          go_roundw
          case rel => exact ⟨j + 1, by omega, by go_num, by rw [HS.out.1], by rw [HS.out.1, if_neg (by omega), HS.out.2], HB1.out⟩
          case measure => simp [intOf]; omega
      · obtain rfl : j = L0.length := by omega
        have HY2 : Hid (y = ((mstL L0 L0.length).2 : Int)) := Lib.hid (by have h1 := HY.out; rwa [if_neg (by omega)] at h1)
        go_wp2
        go_ret3
        exact ⟨ret_iib (by rw [HX.out]) HY2.out rfl, HB.out⟩
end Go.Proofs.Ytnnhkogmppheeaa
