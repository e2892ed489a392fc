/- RaiseBoard of both sides. No condition but the list's length. -/
import Derived.Test.YtnnhkogmppheeaaPeaks
import Derived.Test.YtnnhkogmppheeaaRevClone
import Derived.Test.YtnnhkogmppheeaaOwnCopy
namespace Go.Proofs.Ytnnhkogmppheeaa
open Go.RowKit

/-- whether board b may be raised by d -/
def okRz (L : List Int) (b d : Int) : Bool := okH L && decide (0 ≤ b ∧ b < (L.length : Int)) && decide (-50 ≤ d ∧ d ≤ 50) && decide (0 ≤ L.getD b.toNat 0 + d ∧ L.getD b.toNat 0 + d ≤ 50)
def rzR (L : List Int) (b d : Int) : List Int := if okRz L b d = true then L.set b.toNat (L.getD b.toNat 0 + d) else []
theorem okRz_H {L : List Int} {b d : Int} (h : okRz L b d = true) : okH L = true := by
  unfold okRz at h; simp only [Bool.and_eq_true] at h; exact h.1.1.1
theorem rzR_len (L : List Int) (b d : Int) : (rzR L b d).length ≤ 1048576 := by
  unfold rzR
  split
  · next h => have := okH_len (okRz_H h); rw [List.length_set]; omega
  · exact Nat.zero_le _
theorem rzR_no {L : List Int} {b d : Int} (h : okRz L b d = false) : rzR L b d = [] := by unfold rzR; rw [h]; rfl
theorem rzR_yes {L : List Int} {b d : Int} (h : okRz L b d = true) : rzR L b d = L.set b.toNat (L.getD b.toNat 0 + d) := by unfold rzR; rw [h]; rfl
/-- one number set: still heights if the new number is right -/
theorem okH_set {L : List Int} (h : okH L = true) {j : Nat} (hj : j < L.length) (x : Int) : okH (L.set j x) = decide (0 ≤ x ∧ x ≤ 50) := by
  obtain ⟨h1, h2⟩ := okH_len h
  rw [okH_of (by rw [List.length_set]; exact ⟨h1, h2⟩), Bool.eq_iff_iff, decide_eq_true_iff]
  constructor
  · intro h3
    have := allIn_at h3 (k := j) (by rw [List.length_set]; exact hj)
    rwa [List.getElem_set_self] at this
  · intro h3
    unfold allIn
    rw [List.all_eq_true]
    intro y hy
    rcases List.mem_or_eq_of_mem_set hy with h4 | h4
    · exact decide_eq_true (okH_mem h h4)
    · rw [h4]; exact decide_eq_true h3
theorem own_set {w : World} {base g cap : Nat} {e : TypeId} {L : List Int} (h : OwnInts w base e (.slice (some ⟨g, 0, none⟩) L.length cap) L) (j : Nat) (x : Int) : OwnInts (w.setCell ⟨g, j, none⟩ (.int .i64 x)) base e (.slice (some ⟨g, 0, none⟩) (L.set j x).length cap) (L.set j x) := by
  unfold OwnInts
  rw [List.map_set, List.length_set]
  exact (World.ownsRow.stored h j _).1

set_option maxRecDepth 20000 in
set_option maxHeartbeats 2000000 in
theorem implRaiseBoard_any (A0 : Option Addr) (c0 : Nat) (L0 : List Int) (a1 a2 : Int) (w : World) (l0 : L0.length ≤ 1048576) (_ : WfL L0) (_ : L0.length ≤ c0) (h0 : IntSl w A0 L0) (_ : (Lit.int .i64 a1).wf = true) (_ : (Lit.int .i64 a2).wf = true) :
    Calls Try.prog 61 #[.slice A0 L0.length c0, .int .i64 a1, .int .i64 a2] w fun e w' => ∃ v, e = .returned (.tuple #[v, .bool (okRz L0 a1 a2)]) ∧ OwnInts w' w.heap.size 3 v (rzR L0 a1 a2) ∧ Below w.heap.size w w' := by
  have HG := Lib.hid (implHeights_any A0 c0 L0 w l0 h0)
  have HIB := Lib.hid (isBoard_any A0 c0 L0 a1 w)
  cases hk : okH L0
  · have hq : okRz L0 a1 a2 = false := by unfold okRz; rw [hk]; rfl
    rw [rzR_no hq, hq]
    rw [hk] at HG
    clear hk hq h0 HIB
    go_enter Try.func61, Try.ntmps61
    go_wp2_with fail
    refine HG.out.mono ?_
    rintro e w1 ⟨rfl, rfl⟩
    go_wp2
    go_ret2
    exact ⟨_, rfl, OwnInts.nil _ _ _, Below.refl _ _⟩
  · rw [hk] at HG
    have hl := okH_len hk
    by_cases hb : 0 ≤ a1 ∧ a1 < (L0.length : Int)
    · rw [decide_eq_true hb] at HIB
      obtain ⟨b, rfl⟩ : ∃ b : Nat, a1 = (b : Int) := ⟨a1.toNat, by omega⟩
      have hbl : b < L0.length := by omega
      by_cases hd : -50 ≤ a2 ∧ a2 ≤ 50
      · have HQ : Hid (okRz L0 b a2 = decide (0 ≤ L0[b] + a2 ∧ L0[b] + a2 ≤ 50)) := Lib.hid (by
          unfold okRz; rw [hk, decide_eq_true hb, decide_eq_true hd, Int.toNat_natCast, getD_lt L0 b hbl]; rfl)
        have HS := Lib.hid (okH_set hk hbl (L0[b] + a2))
        have HR : Hid (rzR L0 b a2 = if okRz L0 b a2 = true then L0.set b (L0[b] + a2) else []) := Lib.hid (by unfold rzR; rw [Int.toNat_natCast, getD_lt L0 b hbl])
        have hvb := okH_at hk hbl
        have HC := Lib.hid (clone_any A0 c0 L0 w (by omega) l0 h0)
        have HLB : Hid (∀ g cap W, OwnInts W w.heap.size 3 (.slice (some ⟨g, 0, none⟩) L0.length cap) L0 → W.cell? ⟨g, b, none⟩ = some (.int .i64 L0[b]) ∧ W.frozen? ⟨g, b, none⟩ = false ∧ w.heap.size ≤ g) := Lib.hid fun g cap W h => by
          refine ⟨by rw [World.ownsRow.cellAt h b (by omega), getElem?_ints L0 b hbl], World.ownsRow.frozenAt h b, (World.ownsRow.lt h g rfl).1⟩
        have HST : Hid (∀ g cap W, OwnInts W w.heap.size 3 (.slice (some ⟨g, 0, none⟩) L0.length cap) L0 → OwnInts (W.setCell ⟨g, b, none⟩ (.int .i64 (L0[b] + a2))) w.heap.size 3 (.slice (some ⟨g, 0, none⟩) L0.length cap) (L0.set b (L0[b] + a2))) := Lib.hid fun g cap W h => by
          have := own_set h b (L0[b] + a2)
          rwa [List.length_set] at this
        obtain ⟨v, hv⟩ : ∃ v : Int, v = L0[b]'hbl := ⟨_, rfl⟩
        rw [← hv] at HQ HS HR hvb HLB HST
        obtain ⟨x, hx⟩ : ∃ x : Int, x = v + a2 := ⟨_, rfl⟩
        have wx : IntKind.i64.wrap (v + a2) = x := by rw [← hx, IntKind.wrap_i64]; omega
        rw [← hx] at HQ HS HR HST
        obtain ⟨S, hS⟩ : ∃ S, S = L0.set b x := ⟨_, rfl⟩
        have hSl : S.length = L0.length := by rw [hS, List.length_set]
        rw [← hS] at HS HR HST
        have HGS : Hid (∀ g cap W, OwnInts W w.heap.size 3 (.slice (some ⟨g, 0, none⟩) L0.length cap) S → Calls Try.prog 24 #[.slice (some ⟨g, 0, none⟩) L0.length cap] W fun e w' => e = .returned (.bool (okRz L0 b a2)) ∧ W = w') := Lib.hid fun g cap W h => by
          have := implHeights_any (some ⟨g, 0, none⟩) cap S W (by omega) (IntSl.of_own h)
          rw [hSl, HS.out, ← HQ.out] at this
          exact this
        have ib0 : (0 : Int) ≤ (b : Int) := by omega
        have ib1 : (b : Int) < (L0.length : Int) := by omega
        obtain ⟨u, hu⟩ : ∃ u, u = okRz L0 b a2 := ⟨_, rfl⟩
        rw [← hu] at HQ HR HGS ⊢
        rw [HR.out]
        have hd1 : ¬ a2 < -50 := by omega
        have hd2 : ¬ 50 < a2 := by omega
        clear hk h0 hv hx hS hSl hu hb hd HQ HS HR
        cases hu : u
        · rw [hu] at HGS
          clear hu
          rw [if_neg (by decide)]
          go_enter Try.func61, Try.ntmps61
          go_wp2_with fail
          refine HG.out.mono ?_
          rintro e w1 ⟨rfl, rfl⟩
          go_wp2_with fail
          refine HIB.out.mono ?_
          rintro e w1 ⟨rfl, rfl⟩
          go_wp2_with fail
          refine HC.out.mono ?_
          rintro e w1 ⟨g, cap, rfl, hown, hb⟩
          obtain ⟨k1, k2, k3⟩ := HLB.out g cap w1 hown
          have HO := Lib.hid (HST.out g cap w1 hown)
          have HB : Hid (Below w.heap.size w (w1.setCell ⟨g, b, none⟩ (.int .i64 x))) := Lib.hid (below_store hb k3 _ _)
          have HGC := Lib.hid (HGS.out g cap _ HO.out)
          clear hown hb HC HG HIB HST HGS HLB
          go_wp2_with fail
          refine HGC.out.mono ?_
          rintro e w2 ⟨rfl, rfl⟩
          go_wp2
          go_ret2
          exact ⟨_, rfl, OwnInts.nil _ _ _, HB.out⟩
        · rw [hu] at HGS
          clear hu
          rw [if_pos rfl]
          go_enter Try.func61, Try.ntmps61
          go_wp2_with fail
          refine HG.out.mono ?_
          rintro e w1 ⟨rfl, rfl⟩
          go_wp2_with fail
          refine HIB.out.mono ?_
          rintro e w1 ⟨rfl, rfl⟩
          go_wp2_with fail
          refine HC.out.mono ?_
          rintro e w1 ⟨g, cap, rfl, hown, hb⟩
          obtain ⟨k1, k2, k3⟩ := HLB.out g cap w1 hown
          have HO := Lib.hid (HST.out g cap w1 hown)
          have HB : Hid (Below w.heap.size w (w1.setCell ⟨g, b, none⟩ (.int .i64 x))) := Lib.hid (below_store hb k3 _ _)
          have HGC := Lib.hid (HGS.out g cap _ HO.out)
          have HOS : Hid (OwnInts (w1.setCell ⟨g, b, none⟩ (.int .i64 x)) w.heap.size 3 (.slice (some ⟨g, 0, none⟩) L0.length cap) S) := Lib.hid HO.out
          clear hown hb HC HG HIB HST HGS HLB
          go_wp2_with fail
          refine HGC.out.mono ?_
          rintro e w2 ⟨rfl, rfl⟩
          go_wp2
          go_ret2
          exact ⟨_, rfl, HOS.out, HB.out⟩
      · have hq : okRz L0 b a2 = false := by unfold okRz; rw [decide_eq_false hd, Bool.and_false]; rfl
        rw [rzR_no hq, hq]
        clear hk hq h0 hb
        by_cases hd1 : a2 < -50
        · clear hd
          go_enter Try.func61, Try.ntmps61
          go_wp2_with fail
          refine HG.out.mono ?_
          rintro e w1 ⟨rfl, rfl⟩
          go_wp2_with fail
          refine HIB.out.mono ?_
          rintro e w1 ⟨rfl, rfl⟩
          go_wp2
          go_ret2
          exact ⟨_, rfl, OwnInts.nil _ _ _, Below.refl _ _⟩
        · have hd2 : 50 < a2 := by omega
          clear hd
          go_enter Try.func61, Try.ntmps61
          go_wp2_with fail
          refine HG.out.mono ?_
          rintro e w1 ⟨rfl, rfl⟩
          go_wp2_with fail
          refine HIB.out.mono ?_
          rintro e w1 ⟨rfl, rfl⟩
          go_wp2
          go_ret2
          exact ⟨_, rfl, OwnInts.nil _ _ _, Below.refl _ _⟩
    · have hq : okRz L0 a1 a2 = false := by unfold okRz; rw [decide_eq_false hb, Bool.and_false]; rfl
      rw [rzR_no hq, hq]
      rw [decide_eq_false hb] at HIB
      clear hk hq h0 hb
      go_enter Try.func61, Try.ntmps61
      go_wp2_with fail
      refine HG.out.mono ?_
      rintro e w1 ⟨rfl, rfl⟩
      go_wp2_with fail
      refine HIB.out.mono ?_
      rintro e w1 ⟨rfl, rfl⟩
      go_wp2
      go_ret2
      exact ⟨_, rfl, OwnInts.nil _ _ _, Below.refl _ _⟩
end Go.Proofs.Ytnnhkogmppheeaa
