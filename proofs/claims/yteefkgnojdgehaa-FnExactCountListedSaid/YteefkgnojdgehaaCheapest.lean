/- 'impl.cheapestOf' in a line, 'impl.costOf'. No condition but the costs' bounds. -/
import Derived.Test.YteefkgnojdgehaaPlansOf2
import Derived.BigQuiet
namespace Go.Proofs.Yteefkgnojdgehaa
open Go.RowKit

/-- what all proper fences in a line come to -/
def chpL (B : Nat → Nat → Option Int) (n : Nat) : Int × Int := besT (tT B n n) 46
set_option maxRecDepth 100000 in
set_option maxHeartbeats 4000000 in
theorem cheapestOf_line (d : Nat) (A : Option Addr) (cap : Nat) (B : Nat → Nat → Option Int) (c : Nat → Nat) (w : World) (h20 : d + 1 ≤ 20) (hB : costly B) (h : Brds w A (d + 1) B c) :
    Calls Try.prog 47 #[.slice A (d + 1) cap, .bool false] w fun e w' => e = .returned (talV (chpL B (d + 1))) ∧ Below w.heap.size w w' := by
  have HB0 := Lib.hid (below_new w zeroT)
  have HP := Lib.hid (plansOf_line d A cap B c (w.alloc zeroT) h20 hB (h.below HB0.out))
  have HN := Lib.hid (tT_neat hB (d + 1) (d + 1) h20)
  have hc := cells2 w 0 0 54
  have hf : ∀ k, (w.alloc zeroT).frozen? ⟨w.heap.size, k, none⟩ = false := fun k => by simp
  have hz : (w.alloc zeroT).heap.size = w.heap.size + 1 := by simp
  have HC := Lib.hid hc
  have HF := Lib.hid hf
  have HZ := Lib.hid hz
  obtain ⟨n, hn⟩ : ∃ n, n = d + 1 := ⟨_, rfl⟩
  rw [← hn] at HP HN ⊢
  obtain ⟨x, hx⟩ : ∃ x : Int, x = (chpL B n).1 := ⟨_, rfl⟩
  obtain ⟨y, hy⟩ : ∃ y : Int, y = (chpL B n).2 := ⟨_, rfl⟩
  have HXY : Hid (talV (chpL B n) = .agg #[.int .i64 x, .int .i64 y]) := Lib.hid (by rw [hx, hy]; rfl)
  rw [HXY.out]
  have HBS : Hid (∀ b kk W, Tal W b kk (tT B n n) → Calls Try.prog 69 #[.map (some b), .int .u8 46] W fun e w' => e = .returned (.agg #[.int .i64 x, .int .i64 y]) ∧ Below W.heap.size W w') := Lib.hid fun b kk W hW => by
    rw [← HXY.out]
    exact beside_any W b kk 46 (tT B n n) hW HN.out
  clear h hB hc hf hz hn hx hy HXY HN
  go_enter Try.func47, Try.ntmps47
  go_wp2_with fail
  refine HP.out.mono ?_
  rintro e w1 ⟨b1, b2, kk, rfl, htal, hb1⟩
  have HB1 := Lib.hid hb1
  have HT := Lib.hid htal
  clear htal hb1 HP
  go_wp2_with fail
  refine (HBS.out b1 kk _ HT.out).mono ?_
  rintro e w2 ⟨rfl, hb2⟩
  have hbb := below_next HB1.out hb2
  have k0 := ((bcell hbb).1 w.heap.size 0 (by rw [HZ.out]; omega)).trans HC.out.1
  have k1 := ((bcell hbb).1 w.heap.size 1 (by rw [HZ.out]; omega)).trans HC.out.2
  have f0 := ((bcell hbb).2 w.heap.size 0 (by rw [HZ.out]; omega)).trans (HF.out 0)
  have f1 := ((bcell hbb).2 w.heap.size 1 (by rw [HZ.out]; omega)).trans (HF.out 1)
  have HU := Lib.hid (below_next HB0.out hbb)
  clear hb2 hbb
  go_wp2
  refine bodyPost_ret (v := .agg #[.int .i64 x, .int .i64 y]) ?_ rfl ⟨rfl, ?_⟩
  · rw [results_one_cell rfl]; go_simp
  · exact (HU.out.setCell (Nat.le_refl _) _).setCell (Nat.le_refl _) _
set_option maxHeartbeats 400000 in
theorem costOf_any (x y : Int) (w : World) : Calls Try.prog 62 #[.agg #[.int .i64 x, .int .i64 y]] w fun e w' => e = .returned (.tuple #[.int .i64 y, .bool (decide (0 < x))]) ∧ Below w.heap.size w w' := by
  obtain ⟨m0, m1⟩ := cells2 w x y 54
  go_enter Try.func62, Try.ntmps62
  go_wp2
  go_quiet (fail)
  go_wp2
  go_ret2
  exact ⟨rfl, below_drewN (below_new w (.cells #[.int .i64 x, .int .i64 y] 54)) _⟩
end Go.Proofs.Yteefkgnojdgehaa
