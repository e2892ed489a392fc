/- SeenFrom and SeenFromLeft of the program. No condition but the lists' lengths. -/
import Derived.Test.YtnnhkogmppheeaaSee
import Derived.Test.YtnnhkogmppheeaaPeaks
namespace Go.Proofs.Ytnnhkogmppheeaa
open Go.RowKit

def okSee (L : List Int) (b : Int) : Bool := okH L && decide (0 ≤ b ∧ b < (L.length : Int))
def seeR (L : List Int) (b : Int) : List Int := if okSee L b = true then pickJ (seeB L b.toNat) L.length else []
theorem seeR_len (L : List Int) (b : Int) : (seeR L b).length ≤ 1048576 := by
  unfold seeR okSee
  split
  · next h => rw [Bool.and_eq_true] at h; have := okH_len h.1; have := pickJ_len (seeB L b.toNat) L.length; omega
  · exact Nat.zero_le _
theorem seeR_no {L : List Int} {b : Int} (h : okSee L b = false) : seeR L b = [] := by unfold seeR; rw [h]; rfl
theorem seeR_yes {L : List Int} {b : Int} (h : okSee L b = true) : seeR L b = pickJ (seeB L b.toNat) L.length := by unfold seeR; rw [h]; rfl

set_option maxRecDepth 20000 in
set_option maxHeartbeats 2000000 in
theorem seeFrom1_any (b1 b2 b k : Nat) (A : Option Addr) (c : Nat) (L : List Int) (w : World) (hb : b < L.length) (hk : k < L.length) (hm : L.length ≤ 20) (hc : L.length ≤ c) (k1 : w.cell? ⟨b1, 0, none⟩ = some (.int .i64 b)) (k2 : w.cell? ⟨b2, 0, none⟩ = some (.slice A L.length c)) (h : IntSl w A L) :
    Calls Try.prog 101 #[.int .i64 k, .pointer (some ⟨b1, 0, none⟩), .pointer (some ⟨b2, 0, none⟩)] w fun e w' => e = .returned (.bool (seeB L b k)) ∧ Below w.heap.size w w' := by
  by_cases he : k = b
  · subst he
    have HE : Hid (seeB L k k = false) := Lib.hid (by unfold seeB; simp)
    rw [HE.out]
    clear h hb
    go_enter Try.func101, Try.ntmps101
    go_wp2
    go_ret
    exact ⟨rfl, Below.refl _ _⟩
  · have HS := Lib.hid (doSee_any A c L (min k b) (max k b) w (by omega) (by omega) hm hc h)
    have HE : Hid (seeB L b k = betw L (min k b) (max k b) (min (L.getD (min k b) 0) (L.getD (max k b) 0))) := Lib.hid (by
      unfold seeB
      rw [decide_eq_true he, Bool.true_and]
      congr 1
      rcases Nat.lt_or_ge k b with h1 | h1
      · rw [Nat.min_eq_left (by omega), Nat.max_eq_right (by omega)]
      · rw [Nat.min_eq_right (by omega), Nat.max_eq_left (by omega)]; omega)
    rw [← HE.out] at HS
    obtain ⟨u, hu⟩ : ∃ u, u = seeB L b k := ⟨_, rfl⟩
    rw [← hu] at HS ⊢
    rw [show ((min k b : Nat) : Int) = min (k : Int) (b : Int) by omega, show ((max k b : Nat) : Int) = max (k : Int) (b : Int) by omega] at HS
    have hne : ((k : Int) != (b : Int)) = true := by rw [bne_iff_ne]; omega
    have e1 : min (b : Int) (k : Int) = min (k : Int) (b : Int) := Int.min_comm _ _
    have e2 : max (b : Int) (k : Int) = max (k : Int) (b : Int) := Int.max_comm _ _
    rw [← e1, ← e2] at HS
    clear hu HE h he e1 e2
    go_enter Try.func101, Try.ntmps101
    go_wp2_with fail
    refine HS.out.mono ?_
    rintro e w1 ⟨rfl, hb1⟩
    have HB := Lib.hid hb1
    clear hb1 HS
    go_wp2
    go_ret
    exact ⟨rfl, HB.out⟩

set_option maxRecDepth 20000 in
set_option maxHeartbeats 2000000 in
theorem implSeenFrom_any (A0 : Option Addr) (c0 : Nat) (L0 : List Int) (a1 : Int) (w : World) (l0 : L0.length ≤ 1048576) (_ : WfL L0) (q0 : L0.length ≤ c0) (h0 : IntSl w A0 L0) (_ : (Lit.int .i64 a1).wf = true) :
    Calls Try.prog 55 #[.slice A0 L0.length c0, .int .i64 a1] w fun e w' => ∃ v, e = .returned (.tuple #[v, .bool (okSee L0 a1)]) ∧ OwnInts w' w.heap.size 3 v (seeR L0 a1) ∧ Below w.heap.size w w' := by
  obtain ⟨W1, hW1⟩ : ∃ W1, W1 = w.alloc (.cells #[.slice A0 L0.length c0] 22) := ⟨_, rfl⟩
  obtain ⟨W2, hW2⟩ : ∃ W2, W2 = W1.alloc (.cells #[.int .i64 a1] 3) := ⟨_, rfl⟩
  have hs1 : W1.heap.size = w.heap.size + 1 := by rw [hW1]; simp
  have hs2 : W2.heap.size = w.heap.size + 2 := by rw [hW2]; simp [hs1]
  have hB1 : Below w.heap.size w W1 := by rw [hW1]; exact below_new w _
  have hB2 : Below w.heap.size w W2 := by rw [hW2]; exact below_next hB1 (below_new W1 _)
  have k1a : W1.cell? ⟨w.heap.size, 0, none⟩ = some (.slice A0 L0.length c0) := by rw [hW1, cell_of_row _ w.heap.size 0 _ _ (0, 0) (heap_alloc_new w _)]; rfl
  have k1 : W2.cell? ⟨w.heap.size, 0, none⟩ = some (.slice A0 L0.length c0) := by rw [hW2]; exact ((below_new W1 _).cell (p := ⟨w.heap.size, 0, none⟩) (by show w.heap.size < _; omega)).trans k1a
  have k2 : W2.cell? ⟨w.heap.size + 1, 0, none⟩ = some (.int .i64 a1) := by rw [← hs1, hW2, cell_of_row _ W1.heap.size 0 _ _ (0, 0) (heap_alloc_new W1 _)]; rfl
  have hsl : IntSl W2 A0 L0 := h0.below hB2
  have HG := Lib.hid (implHeights_any A0 c0 L0 W2 l0 hsl)
  have HIB := Lib.hid (isBoard_any A0 c0 L0 a1 W2)
  have HB2 := Lib.hid hB2
  have K1 := Lib.hid k1
  have K2 := Lib.hid k2
  have HS2 := Lib.hid hs2
  cases hk : okH L0
  · have hq : okSee L0 a1 = false := by unfold okSee; rw [hk]; rfl
    rw [seeR_no hq, hq]
    rw [hk] at HG
    rw [hW2, hW1] at HG HB2 K1
    have k1' := K1.out
    clear hq hk hW1 hW2 hs1 hs2 hB1 hB2 k1a k1 k2 hsl h0 K1 HIB K2 HS2
    go_enter Try.func55, Try.ntmps55
    go_wp2_with fail
    refine HG.out.mono ?_
    rintro e w1 ⟨rfl, rfl⟩
    go_wp2
    go_ret2
    exact ⟨_, rfl, OwnInts.nil _ _ _, HB2.out⟩
  · by_cases hb : 0 ≤ a1 ∧ a1 < (L0.length : Int)
    · have hq : okSee L0 a1 = true := by unfold okSee; rw [hk, decide_eq_true hb]; rfl
      obtain ⟨l1, l20⟩ := okH_len hk
      rw [decide_eq_true hb] at HIB
      rw [seeR_yes hq, hq]
      obtain ⟨b, rfl⟩ : ∃ b : Nat, a1 = (b : Int) := ⟨a1.toNat, by omega⟩
      rw [Int.toNat_natCast]
      rw [hk] at HG
      have HC := Lib.hid (whereSeen_any (w.heap.size + 1) w.heap.size L0.length (seeB L0 b) W2 (by omega) (fun i W hi hW =>
        seeFrom1_any (w.heap.size + 1) w.heap.size b i A0 c0 L0 W (by omega) hi l20 q0 ((hW.cell (p := ⟨w.heap.size + 1, 0, none⟩) (by show w.heap.size + 1 < _; omega)).trans k2)
          ((hW.cell (p := ⟨w.heap.size, 0, none⟩) (by show w.heap.size < _; omega)).trans k1) (hsl.below hW)))
      rw [HS2.out] at HC
      rw [hW2, hW1] at HG HB2 K1 HC K2 HIB
      have k1' := K1.out
      have k2' := K2.out
      have hz : (w.alloc (.cells #[.slice A0 L0.length c0] 22)).heap.size = w.heap.size + 1 := by simp
      clear hq hk hW1 hW2 hs1 hs2 hB1 hB2 k1a k1 k2 hsl h0 K1 K2 HS2 hb
      go_enter Try.func55, Try.ntmps55
      go_wp2_with fail
      refine HG.out.mono ?_
      rintro e w1 ⟨rfl, rfl⟩
      go_wp2_with fail
      refine HIB.out.mono ?_
      rintro e w1 ⟨rfl, rfl⟩
      go_wp2_with fail
      refine HC.out.mono ?_
      rintro e w1 ⟨v, rfl, hown, hb⟩
      have HO := Lib.hid (hown.mono (by omega : w.heap.size ≤ w.heap.size + 2))
      have HB := Lib.hid (HB2.out.trans (hb.mono (by omega : w.heap.size ≤ w.heap.size + 2)))
      clear hown hb
      go_wp2
      go_ret2
      exact ⟨_, rfl, HO.out, HB.out⟩
    · have hq : okSee L0 a1 = false := by unfold okSee; rw [hk, decide_eq_false hb]; rfl
      rw [seeR_no hq, hq]
      rw [decide_eq_false hb] at HIB
      rw [hk] at HG
      rw [hW2, hW1] at HG HB2 K1 K2 HIB
      have k1' := K1.out
      have k2' := K2.out
      have hz : (w.alloc (.cells #[.slice A0 L0.length c0] 22)).heap.size = w.heap.size + 1 := by simp
      clear hq hk hW1 hW2 hs1 hs2 hB1 hB2 k1a k1 k2 hsl h0 K1 K2 HS2 hb
      go_enter Try.func55, Try.ntmps55
      go_wp2_with fail
      refine HG.out.mono ?_
      rintro e w1 ⟨rfl, rfl⟩
      go_wp2_with fail
      refine HIB.out.mono ?_
      rintro e w1 ⟨rfl, rfl⟩
      go_wp2
      go_ret2
      exact ⟨_, rfl, OwnInts.nil _ _ _, HB2.out⟩
end Go.Proofs.Ytnnhkogmppheeaa
