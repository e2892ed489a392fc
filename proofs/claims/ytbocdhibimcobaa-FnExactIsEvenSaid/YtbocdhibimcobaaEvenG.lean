/- EvenGates and GatesOfParts of both sides. No condition but the list's length. -/
import Derived.Test.YtbocdhibimcobaaParts2
import Derived.Test.YtbocdhibimcobaaEvenMath
import Derived.Test.YtbocdhibimcobaaSub
import Derived.Test.YtbocdhibimcobaaSum0
namespace Go.Proofs.Ytbocdhibimcobaa
open Go.RowKit

/-- the first j of the even parts, then zeros -/
def evJ (n m j : Nat) (i : Nat) : Int := if i < j then evF n m i else 0
theorem evJ_set (n m j i : Nat) : (if i = j then evF n m j else evJ n m j i) = evJ n m (j + 1) i := by
  unfold evJ
  by_cases h : i = j
  · subst h; rw [if_pos rfl, if_pos (by omega)]
  · rw [if_neg h]
    by_cases h2 : i < j
    · rw [if_pos h2, if_pos (by omega)]
    · rw [if_neg h2, if_neg (by omega)]
def evA (n m : Nat) : Array Value := (rowF 11 (evJ n m (m + 1))).toArray
theorem evJ_list (n m : Nat) : (List.range (m + 1)).map (evJ n m (m + 1)) = evL n m := by
  unfold evL
  exact List.map_congr_left fun i hi => by unfold evJ; rw [if_pos (List.mem_range.1 hi)]

set_option maxRecDepth 100000 in
set_option maxHeartbeats 4000000 in
theorem evenParts_any (n m : Nat) (w : World) (hn : n ≤ 40) (hm : m ≤ 10) :
    Calls Try.prog 69 #[.int .i64 n, .int .i64 m] w fun e w' => e = .returned (.agg (evA n m)) ∧ Below w.heap.size w w' := by
  have HD := Lib.hid fun k (hk : k ≤ m) => evR_div (n := n) hk
  have HSU := Lib.hid fun k (hk : k ≤ m) => evR_succ (n := n) hk
  have HLE := Lib.hid fun k (hk : k ≤ m + 1) => evS_evR (n := n) (m := m) k hk
  have HZ := Lib.hid (evR_zero n m)
  go_enter Try.func69, Try.ntmps69
  go_wp2
  have HR : Hid (RowIs ((w.alloc (.cells zeros11 49)).alloc (.cells zeros11 49)) 49 w.heap.size (w.heap.size + 1) 11 (fun _ => 0)) := Lib.hid (RowIs.of_block (heap_alloc2_new w _ _) (Nat.le_succ _) (by unfold maxLen; omega))
  have HQ : Hid (RowIs ((w.alloc (.cells zeros11 49)).alloc (.cells zeros11 49)) 49 w.heap.size w.heap.size 11 (fun _ => 0)) := Lib.hid (RowIs.of_block (heap_alloc2_old w _ _) (Nat.le_refl _) (by unfold maxLen; omega))
  have HG : Hid (Below w.heap.size w ((w.alloc (.cells zeros11 49)).alloc (.cells zeros11 49))) := Lib.hid (below_next (below_new w _) (below_new _ _))
  go_loopw [0, 9] (fun d i wr => ∃ j : Nat, j ≤ m + 1 ∧ i = .int .i64 j ∧ d = .int .i64 ((evR n m j : Nat) : Int) ∧ RowIs wr 49 w.heap.size (w.heap.size + 1) 11 (evJ n m j) ∧ RowIs wr 49 w.heap.size w.heap.size 11 (fun _ => 0) ∧ Below w.heap.size w wr) (fun _ i _ => m + 1 - (intOf i).toNat)
  case atStart => exact ⟨0, Nat.zero_le _, rfl, by rw [HZ.out], HR.out.congr (fun i _ => by unfold evJ; rw [if_neg (by omega)]), HQ.out, HG.out⟩
  case round =>
    clear HR HG HQ
    obtain ⟨j, hj, rfl, rfl, hrow, hres, hb⟩ := hrel
    have HRJ := Lib.hid hrow
    have HGJ := Lib.hid hb
    have HQJ := Lib.hid hres
    have HCE := Lib.hid fun (k : Nat) (hk : k < 11) => hrow.cell k hk
    have HFR := Lib.hid fun (k : Nat) => hrow.frozen k
    clear hrow hb hres
    have hRn : w.heap.size ≠ w.heap.size + 1 := by omega
    by_cases hlt : j < m + 1
    · have y0 := HCE.out j (by omega)
      have f0 := HFR.out j
      have hle := HLE.out j hj
      have hsu := HSU.out j (by omega)
      have hdv := HD.out j (by omega)
      have HS : Hid (RowIs (wr.setCell ⟨w.heap.size + 1, j, none⟩ (.int .i64 (evF n m j))) 49 w.heap.size (w.heap.size + 1) 11 (evJ n m (j + 1))) := Lib.hid ((HRJ.out.store j (evF n m j)).congr (fun i _ => evJ_set n m j i))
      have HGS := Lib.hid (below_store HGJ.out (Nat.le_succ w.heap.size) j (.int .i64 (evF n m j)))
      have HQS := Lib.hid (HQJ.out.far hRn j (.int .i64 (evF n m j)))
      unfold evF at HS HGS HQS
      obtain ⟨p, hp⟩ : ∃ p, p = evP n m j := ⟨_, rfl⟩
      obtain ⟨r, hr⟩ : ∃ r, r = evR n m j := ⟨_, rfl⟩
      rw [← hp] at HS HGS HQS hsu hdv
      rw [← hr] at hle hsu hdv ⊢
      have hpr : p ≤ r := by omega
      have HNX : Hid ((r : Int) - (p : Int) = ((evR n m (j + 1) : Nat) : Int)) := Lib.hid (by omega)
      have HC1 : Hid ((wr.setCell ⟨w.heap.size + 1, j, none⟩ (.int .i64 (p : Int))).cell? ⟨w.heap.size + 1, j, none⟩ = some (.int .i64 (p : Int))) := Lib.hid (by
        have := HS.out.cell j (by omega)
        unfold evJ evF at this
        rw [if_pos (by omega), ← hp] at this
        exact this)
      have k0 : (0 : Int) ≤ (j : Int) := by omega
      have k1 : (j : Int) < 11 := by omega
      have ed : ((m + 1 - j : Nat) : Int) = (m : Int) + 1 - (j : Int) := by omega
      have dq : (r : Int) / ((m : Int) + 1 - (j : Int)) = (p : Int) := by rw [← ed, ← Int.natCast_ediv, hdv]
      have tq : (r : Int).tdiv ((m : Int) + 1 - (j : Int)) = (p : Int) := by rw [Int.tdiv_eq_ediv_of_nonneg (by omega), dq]
      have y0' : (0 : Int) < (m : Int) + 1 - (j : Int) := by omega
      have y1' : (1 : Int) ≤ (m : Int) + 1 - (j : Int) := by omega
      have yz : ((m : Int) + 1 - (j : Int) == 0) = false := by rw [beq_eq_false_iff_ne]; omega
      have HC2 := HC1.out
      have r40 : (r : Int) ≤ 40 := by omega
      have hpr' : (p : Int) ≤ (r : Int) := by omega
      clear HCE HFR hle hsu hdv hp hr ed
      go_wp2
      go_roundw
      case rel => exact ⟨j + 1, by omega, by go_num, by rw [← HNX.out], HS.out, HQS.out, HGS.out⟩
      case measure => simp [intOf]; omega
    · obtain rfl : j = m + 1 := by omega
      have HBK : Hid (wr.heap[w.heap.size + 1]? = some (.cells (evA n m) 49 (0, 0))) := Lib.hid HRJ.out.block
      have HBQ := Lib.hid HQJ.out.block
      have HIL : Hid ((Try.prog.info? 49).map (·.size) = some (evA n m).size) := Lib.hid (by rw [info_parts11]; simp [evA, rowF_len])
      have HIS : Hid ((rowF 11 fun _ => 0).toArray.size = (evA n m).size) := Lib.hid (by simp [evA, rowF_len])
      have HO1 : Hid ((evA n m).all (·.oneCell') = true) := Lib.hid (rowF_one 11 _)
      obtain ⟨C, hC⟩ : ∃ C, C = evA n m := ⟨_, rfl⟩
      rw [← hC] at HBK HIL HIS HO1
      have HCC := Lib.hid hC
      clear HCE HFR HRJ HQJ hC
      go_wp2_with (first
        | (refine wpList_load_row rfl 49 (.tmp 5) rfl (w.heap.size + 1) rfl 49 _ (0, 0) _ HBK.out Try.underlying49 rfl HIL.out ?_)
        | (refine wpList_store_row rfl 49 (.tmp 4) (.tmp 26) rfl w.heap.size _ rfl rfl 49 _ HBQ.out HIL.out HIS.out HO1.out ?_))
      refine bodyPost_ret (results_cell_row rfl _ _ w.heap.size 49 _ (0, 0) _ rfl (setRow_heap _ w.heap.size _ _ 49 (0, 0) HBQ.out) Try.underlying49 rfl HIL.out) rfl ?_
      exact ⟨congrArg (fun c => Ending.returned (.agg c)) HCC.out, below_setRow HGJ.out (Nat.le_refl _)⟩
end Go.Proofs.Ytbocdhibimcobaa
