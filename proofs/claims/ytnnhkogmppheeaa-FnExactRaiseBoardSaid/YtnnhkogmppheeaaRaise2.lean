/- RaiseBoard of the model. No condition but the list's length. -/
import Derived.Test.YtnnhkogmppheeaaRaise
namespace Go.Proofs.Ytnnhkogmppheeaa
open Go.RowKit

set_option maxRecDepth 20000 in
set_option maxHeartbeats 2000000 in
theorem specRaiseBoard_any (A0 : Option Addr) (c0 : Nat) (L0 : List Int) (a1 a2 : Int) (w : World) (l0 : L0.length ≤ 1048576) (_ : WfL L0) (_ : L0.length ≤ c0) (h0 : IntSl w A0 L0) (_ : (Lit.int .i64 a1).wf = true) (_ : (Lit.int .i64 a2).wf = true) :
    Calls Try.prog 60 #[.slice A0 L0.length c0, .int .i64 a1, .int .i64 a2] w fun e w' => ∃ v, e = .returned (.tuple #[v, .bool (okRz L0 a1 a2)]) ∧ OwnInts w' w.heap.size 3 v (rzR L0 a1 a2) ∧ Below w.heap.size w w' := by
  have HG := Lib.hid (caGood_any A0 c0 L0 w l0 h0)
  cases hk : okH L0
  · have hq : okRz L0 a1 a2 = false := by unfold okRz; rw [hk]; rfl
    rw [rzR_no hq, hq]
    rw [hk] at HG
    clear hk hq h0
    go_enter Try.func60, Try.ntmps60
    go_wp2_with fail
    refine HG.out.mono ?_
    rintro e w1 ⟨rfl, rfl⟩
    go_wp2
    go_ret2
    exact ⟨_, rfl, OwnInts.nil _ _ _, Below.refl _ _⟩
  · rw [hk] at HG
    have hl := okH_len hk
    by_cases hb : 0 ≤ a1 ∧ a1 ≤ (L0.length : Int) - 1
    · have HI1 := Lib.hid (l1In_t a1 0 ((L0.length : Int) - 1) w hb)
      obtain ⟨b, rfl⟩ : ∃ b : Nat, a1 = (b : Int) := ⟨a1.toNat, by omega⟩
      have hbl : b < L0.length := by omega
      by_cases hd : -50 ≤ a2 ∧ a2 ≤ 50
      · have HI2 := Lib.hid (l1In_t a2 (-50) 50 w hd)
        have HQ : Hid (okRz L0 b a2 = decide (0 ≤ L0[b] + a2 ∧ L0[b] + a2 ≤ 50)) := Lib.hid (by
          unfold okRz; rw [hk, decide_eq_true (by omega), decide_eq_true hd, Int.toNat_natCast, getD_lt L0 b hbl]; rfl)
        have HR : Hid (rzR L0 b a2 = if okRz L0 b a2 = true then L0.set b (L0[b] + a2) else []) := Lib.hid (by unfold rzR; rw [Int.toNat_natCast, getD_lt L0 b hbl])
        have hvb := okH_at hk hbl
        have HC := Lib.hid (l1Own_any A0 c0 L0 w l0 h0)
        have HLB : Hid (∀ g cap W, OwnInts W w.heap.size 3 (.slice (some ⟨g, 0, none⟩) L0.length cap) L0 → W.cell? ⟨g, b, none⟩ = some (.int .i64 L0[b]) ∧ W.frozen? ⟨g, b, none⟩ = false ∧ w.heap.size ≤ g) := Lib.hid fun g cap W h => by
          refine ⟨by rw [World.ownsRow.cellAt h b (by omega), getElem?_ints L0 b hbl], World.ownsRow.frozenAt h b, (World.ownsRow.lt h g rfl).1⟩
        have HST : Hid (∀ g cap W, OwnInts W w.heap.size 3 (.slice (some ⟨g, 0, none⟩) L0.length cap) L0 → OwnInts (W.setCell ⟨g, b, none⟩ (.int .i64 (L0[b] + a2))) w.heap.size 3 (.slice (some ⟨g, 0, none⟩) L0.length cap) (L0.set b (L0[b] + a2))) := Lib.hid fun g cap W h => by
          have := own_set h b (L0[b] + a2)
          rwa [List.length_set] at this
        obtain ⟨g0, o0, rfl, hg0, hat⟩ := h0.some (by omega)
        have cb := hat b hbl
        obtain ⟨v, hv⟩ : ∃ v : Int, v = L0[b]'hbl := ⟨_, rfl⟩
        rw [← hv] at HQ HR hvb HLB HST cb
        obtain ⟨x, hx⟩ : ∃ x : Int, x = v + a2 := ⟨_, rfl⟩
        have wx : IntKind.i64.wrap (v + a2) = x := by rw [← hx, IntKind.wrap_i64]; omega
        rw [← hx] at HQ HR HST
        have HI3 := Lib.hid (l1In_any x 0 50 w)
        rw [← HQ.out] at HI3
        obtain ⟨S, hS⟩ : ∃ S, S = L0.set b x := ⟨_, rfl⟩
        rw [← hS] at HR HST
        have HOL : Hid (∀ v' W, OwnInts W w.heap.size 3 v' L0 → ∃ g cap, v' = .slice (some ⟨g, 0, none⟩) L0.length cap) := Lib.hid fun v' W h => by
          obtain ⟨g, cap, e, _, _⟩ := own_some h (by omega)
          exact ⟨g, cap, e⟩
        have ib0 : (0 : Int) ≤ (b : Int) := by omega
        have ib1 : (b : Int) < (L0.length : Int) := by omega
        obtain ⟨u, hu⟩ : ∃ u, u = okRz L0 b a2 := ⟨_, rfl⟩
        rw [← hu] at HQ HR HI3 ⊢
        rw [HR.out]
        clear hk h0 hv hx hS hu hb hd HQ HR hat hg0
        cases hu : u
        · rw [hu] at HI3
          clear hu
          rw [if_neg (by decide)]
          go_enter Try.func60, Try.ntmps60
          go_wp2_with fail
          refine HG.out.mono ?_
          rintro e w1 ⟨rfl, rfl⟩
          go_wp2_with fail
          refine HI1.out.mono ?_
          rintro e w1 ⟨rfl, rfl⟩
          go_wp2_with fail
          refine HI2.out.mono ?_
          rintro e w1 ⟨rfl, rfl⟩
          go_wp2_with fail
          refine HI3.out.mono ?_
          rintro e w1 ⟨rfl, rfl⟩
          go_wp2
          go_ret2
          exact ⟨_, rfl, OwnInts.nil _ _ _, Below.refl _ _⟩
        · rw [hu] at HI3
          clear hu
          rw [if_pos rfl]
          go_enter Try.func60, Try.ntmps60
          go_wp2_with fail
          refine HG.out.mono ?_
          rintro e w1 ⟨rfl, rfl⟩
          go_wp2_with fail
          refine HI1.out.mono ?_
          rintro e w1 ⟨rfl, rfl⟩
          go_wp2_with fail
          refine HI2.out.mono ?_
          rintro e w1 ⟨rfl, rfl⟩
          go_wp2_with fail
          refine HI3.out.mono ?_
          rintro e w1 ⟨rfl, rfl⟩
          go_wp2_with fail
          refine HC.out.mono ?_
          rintro e w1 ⟨v', rfl, hown, hb⟩
          obtain ⟨g, cap, rfl⟩ := HOL.out v' w1 hown
          obtain ⟨k1, k2, k3⟩ := HLB.out g cap w1 hown
          have HO := Lib.hid (HST.out g cap w1 hown)
          have HB : Hid (Below w.heap.size w (w1.setCell ⟨g, b, none⟩ (.int .i64 x))) := Lib.hid (below_store hb k3 _ _)
          clear hown hb HC HG HST HLB cb
          go_wp2
          go_ret2
          exact ⟨_, rfl, HO.out, HB.out⟩
      · have HI2 := Lib.hid (l1In_f a2 (-50) 50 w hd)
        have hq : okRz L0 b a2 = false := by unfold okRz; rw [decide_eq_false hd, Bool.and_false]; rfl
        rw [rzR_no hq, hq]
        clear hk hq h0 hb hd
        go_enter Try.func60, Try.ntmps60
        go_wp2_with fail
        refine HG.out.mono ?_
        rintro e w1 ⟨rfl, rfl⟩
        go_wp2_with fail
        refine HI1.out.mono ?_
        rintro e w1 ⟨rfl, rfl⟩
        go_wp2_with fail
        refine HI2.out.mono ?_
        rintro e w1 ⟨rfl, rfl⟩
        go_wp2
        go_ret2
        exact ⟨_, rfl, OwnInts.nil _ _ _, Below.refl _ _⟩
    · have HI1 := Lib.hid (l1In_f a1 0 ((L0.length : Int) - 1) w hb)
      have hq : okRz L0 a1 a2 = false := by unfold okRz; rw [decide_eq_false (p := 0 ≤ a1 ∧ a1 < (L0.length : Int)) (by omega), Bool.and_false]; rfl
      rw [rzR_no hq, hq]
      clear hk hq h0 hb
      go_enter Try.func60, Try.ntmps60
      go_wp2_with fail
      refine HG.out.mono ?_
      rintro e w1 ⟨rfl, rfl⟩
      go_wp2_with fail
      refine HI1.out.mono ?_
      rintro e w1 ⟨rfl, rfl⟩
      go_wp2
      go_ret2
      exact ⟨_, rfl, OwnInts.nil _ _ _, Below.refl _ _⟩
end Go.Proofs.Ytnnhkogmppheeaa
