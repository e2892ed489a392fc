/- Bars with rests: 'impl.wholeBars', '(impl.rests).cutOff'. No condition but the numbers' bounds. -/
import Derived.Test.YtnijedmnjmeciaaRowArr
namespace Go.Proofs.Ytnijedmnjmeciaa
open Go.RowKit

def restA (F : Nat → Int) : Array Value := (rowF 8 F).toArray
theorem info_rests : (Try.prog.info? 37).map (·.size) = some 8 := by kernel_rfl
def bars0 : Array Value := (rowF 8 fun _ => 0).toArray
set_option maxRecDepth 100000 in
set_option maxHeartbeats 4000000 in
theorem wholeBars_any (a : Int) (w : World) :
    Calls Try.prog 17 #[.int .i64 a] w fun e w' => e = .returned (.agg (restA fun _ => a)) ∧ Below w.heap.size w w' := by
  go_enter Try.func17, Try.ntmps17
  go_wp2
  have HR : Hid (RowIs ((w.alloc (.cells bars0 37)).alloc (.cells bars0 37)) 37 w.heap.size (w.heap.size + 1) 8 (fun _ => 0)) := Lib.hid (RowIs.of_block (heap_alloc2_new w _ _) (Nat.le_succ _) (by unfold maxLen; omega))
  have HQ : Hid (RowIs ((w.alloc (.cells bars0 37)).alloc (.cells bars0 37)) 37 w.heap.size w.heap.size 8 (fun _ => 0)) := Lib.hid (RowIs.of_block (heap_alloc2_old w _ _) (Nat.le_refl _) (by unfold maxLen; omega))
  have HG : Hid (Below w.heap.size w ((w.alloc (.cells bars0 37)).alloc (.cells bars0 37))) := Lib.hid (below_next (below_new w _) (below_new _ _))
  go_loopw [4, 5] (fun _ i wr => ∃ j : Nat, j ≤ 8 ∧ i = .int .i64 j ∧ RowIs wr 37 w.heap.size (w.heap.size + 1) 8 (fun i => if i < j then a else 0) ∧ RowIs wr 37 w.heap.size w.heap.size 8 (fun _ => 0) ∧ Below w.heap.size w wr) (fun _ i _ => 8 - (intOf i).toNat)
  case atStart => exact ⟨0, Nat.zero_le _, rfl, HR.out.congr (fun i _ => (if_neg (Nat.not_lt_zero i)).symm), HQ.out, HG.out⟩
  case round =>
    clear HR HG HQ
    obtain ⟨j, hj, rfl, hrow, hres, hb⟩ := hrel
    have HR := Lib.hid hrow
    have HG := Lib.hid hb
    have HQ := Lib.hid hres
    clear hrow hb hres
    have hRn : w.heap.size ≠ w.heap.size + 1 := by omega
    by_cases hlt : j < 8
    · have hv := HR.out.cell j hlt
      have hf := HR.out.frozen j
      have HS := Lib.hid ((HR.out.store j a).congr (G := fun i => if i < j + 1 then a else 0) (fun i _ => by
        by_cases e : i = j
        · rw [if_pos e, if_pos (by omega)]
        · rw [if_neg e]
          by_cases h : i < j
          · rw [if_pos h, if_pos (by omega)]
          · rw [if_neg h, if_neg (by omega)]))
      have HGS := Lib.hid (below_store HG.out (Nat.le_succ w.heap.size) j (.int .i64 a))
      have HQS := Lib.hid (HQ.out.far hRn j (.int .i64 a))
      have k0 : (0 : Int) ≤ (j : Int) := by omega
      have k1 : (j : Int) < 8 := by omega
      go_wp2
      go_roundw
      case rel => exact ⟨j + 1, by omega, by go_num, HS.out, HQS.out, HGS.out⟩
      case measure => simp [intOf]; omega
    · obtain rfl : j = 8 := by omega
      have HBK : Hid (wr.heap[w.heap.size + 1]? = some (.cells (restA fun _ => a) 37 (0, 0))) := Lib.hid (HR.out.congr (G := fun _ => a) (fun i hi => if_pos hi)).block
      have HBQ := Lib.hid HQ.out.block
      have HIL : Hid ((Try.prog.info? 37).map (·.size) = some (restA fun _ => a).size) := Lib.hid (by rw [info_rests]; simp [restA, rowF_len])
      have HIS : Hid ((rowF 8 fun _ => 0).toArray.size = (restA fun _ => a).size) := Lib.hid (by simp [restA, rowF_len])
      have HO1 : Hid ((restA fun _ => a).all (·.oneCell') = true) := Lib.hid (rowF_one 8 _)
      obtain ⟨C, hC⟩ : ∃ C, C = restA fun _ => a := ⟨_, rfl⟩
      rw [← hC] at HBK HIL HIS HO1
      have HCC := Lib.hid hC
      clear HR HQ hC
      go_wp2_with (first
        | (refine wpList_load_row rfl 37 (.tmp 3) rfl (w.heap.size + 1) rfl 37 _ (0, 0) _ HBK.out Try.underlying37 rfl HIL.out ?_)
        | (refine wpList_store_row rfl 37 (.tmp 2) (.tmp 12) rfl w.heap.size _ rfl rfl 37 _ HBQ.out HIL.out HIS.out HO1.out ?_))
      refine bodyPost_ret (results_cell_row rfl _ _ w.heap.size 37 _ (0, 0) _ rfl (setRow_heap _ w.heap.size _ _ 37 (0, 0) HBQ.out) Try.underlying37 rfl HIL.out) rfl ?_
      exact ⟨congrArg (fun c => Ending.returned (.agg c)) HCC.out, below_setRow HG.out (Nat.le_refl _)⟩

/-- the rests behind the cut of a rail from a bar -/
def cutF (F : Nat → Int) (rail k : Int) : Nat → Int := fun i => if (i : Int) = k ∧ rail ≤ F i then F i - rail else F i

theorem cutF_yes {F : Nat → Int} {rail : Int} {k : Nat} (h : rail ≤ F k) : cutF F rail k = fun i => if i = k then F k - rail else F i := by
  funext i
  unfold cutF
  by_cases e : i = k
  · subst e; rw [if_pos ⟨rfl, h⟩, if_pos rfl]
  · rw [if_neg (fun x => e (by omega)), if_neg e]
theorem cutF_less {F : Nat → Int} {rail : Int} {k : Nat} (h : ¬ rail ≤ F k) : cutF F rail k = F := by
  funext i
  unfold cutF
  by_cases e : i = k
  · subst e; rw [if_neg fun x => h x.2]
  · rw [if_neg fun x => e (by omega)]
theorem restA_congr {F G : Nat → Int} (h : ∀ i, i < 8 → F i = G i) : restA F = restA G := by unfold restA; rw [rowF_congr h]
theorem cutF_far {F : Nat → Int} {rail k : Int} (h : k < 0 ∨ 8 ≤ k) : restA (cutF F rail k) = restA F := restA_congr fun i hi => by
  unfold cutF
  rw [if_neg fun x => by omega]

set_option maxRecDepth 100000 in
set_option maxHeartbeats 4000000 in
theorem cutOff_any (F : Nat → Int) (rail k : Int) (w : World) (hF : ∀ i, i < 8 → -1000000 ≤ F i ∧ F i ≤ 1000000) (hr : 1 ≤ rail ∧ rail ≤ 500) :
    Calls Try.prog 23 #[.agg (restA F), .int .i64 rail, .int .i64 k] w fun e w' => e = .returned (.agg (restA (cutF F rail k))) ∧ Below w.heap.size w w' := by
  obtain ⟨r1, r2⟩ := hr
  obtain ⟨C, hC⟩ : ∃ C, C = restA F := ⟨_, rfl⟩
  have HIL : Hid ((Try.prog.info? 37).map (·.size) = some C.size) := Lib.hid (by rw [info_rests, hC]; simp [restA, rowF_len])
  have HIS : Hid (bars0.size = C.size) := Lib.hid (by rw [hC]; simp [bars0, restA, rowF_len])
  have HO1 : Hid (C.all (·.oneCell') = true) := Lib.hid (by rw [hC]; exact rowF_one 8 _)
  have HRB : Hid (((w.alloc (.cells C 37)).alloc (.cells bars0 37)).heap[w.heap.size]? = some (.cells C 37 (0, 0))) := Lib.hid (heap_alloc2_old w _ _)
  have HBQ : Hid (((w.alloc (.cells C 37)).alloc (.cells bars0 37)).heap[w.heap.size + 1]? = some (.cells bars0 37 (0, 0))) := Lib.hid (heap_alloc2_new w _ _)
  have HGB : Hid (Below w.heap.size w ((w.alloc (.cells C 37)).alloc (.cells bars0 37))) := Lib.hid (below_next (below_new w _) (below_new _ _))
  rw [← hC]
  by_cases h0 : 0 ≤ k
  · by_cases h8 : k < 8
    · obtain ⟨j, rfl⟩ : ∃ j : Nat, k = j := ⟨k.toNat, by omega⟩
      have hj8 : j < 8 := by omega
      have hR : RowIs ((w.alloc (.cells C 37)).alloc (.cells bars0 37)) 37 w.heap.size w.heap.size 8 F := RowIs.of_block (by rw [HRB.out, hC]; rfl) (Nat.le_refl _) (by unfold maxLen; omega)
      have e1 : ((w.alloc (.cells C 37)).alloc (.cells #[.int .i64 0, .int .i64 0, .int .i64 0, .int .i64 0, .int .i64 0, .int .i64 0, .int .i64 0, .int .i64 0] 37)).cell? ⟨w.heap.size, j, none⟩ = some (.int .i64 (F j)) := hR.cell j hj8
      have hfr : ((w.alloc (.cells C 37)).alloc (.cells #[.int .i64 0, .int .i64 0, .int .i64 0, .int .i64 0, .int .i64 0, .int .i64 0, .int .i64 0, .int .i64 0] 37)).frozen? ⟨w.heap.size, j, none⟩ = false := hR.frozen j
      have hb := hF j hj8
      by_cases hle : rail ≤ F j
      · obtain ⟨D, hD⟩ : ∃ D, D = restA (cutF F rail j) := ⟨_, rfl⟩
        have HDD := Lib.hid hD
        have hset : C.setIfInBounds j (.int .i64 (F j - rail)) = D := by
          rw [hC, hD, cutF_yes hle]
          unfold restA
          rw [← rowF_set, List.setIfInBounds_toArray]
        have HST : Hid (((w.alloc (.cells D 37)).alloc (.cells bars0 37)).heap[w.heap.size]? = some (.cells D 37 (0, 0))) := Lib.hid (heap_alloc2_old w _ _)
        have HQ2 : Hid (((w.alloc (.cells D 37)).alloc (.cells bars0 37)).heap[w.heap.size + 1]? = some (.cells bars0 37 (0, 0))) := Lib.hid (heap_alloc2_new w _ _)
        have HG2 : Hid (Below w.heap.size w ((w.alloc (.cells D 37)).alloc (.cells bars0 37))) := Lib.hid (below_next (below_new w _) (below_new _ _))
        have HIL2 : Hid ((Try.prog.info? 37).map (·.size) = some D.size) := Lib.hid (by rw [info_rests, hD]; simp [restA, rowF_len])
        have HIS2 : Hid (bars0.size = D.size) := Lib.hid (by rw [hD]; simp [bars0, restA, rowF_len])
        have HO2 : Hid (D.all (·.oneCell') = true) := Lib.hid (by rw [hD]; exact rowF_one 8 _)
        obtain ⟨f, hf⟩ : ∃ f, f = F j := ⟨_, rfl⟩
        rw [← hf] at e1 hb hle hset
        clear hC hR hD hf hF HGB HBQ HRB HO1 HIS HIL
        have hx : rail ≤ f := hle
        go_enter Try.func23, Try.ntmps23
        go_wp2_with (first
          | (refine wpList_load_row rfl 37 (.tmp 3) rfl w.heap.size rfl 37 _ (0, 0) _ HST.out Try.underlying37 rfl HIL2.out ?_)
          | (refine wpList_store_row rfl 37 (.tmp 6) (.tmp 26) rfl (w.heap.size + 1) _ rfl rfl 37 _ HQ2.out HIL2.out HIS2.out HO2.out ?_))
        refine bodyPost_ret (results_cell_row rfl _ _ (w.heap.size + 1) 37 _ (0, 0) _ rfl (setRow_heap _ (w.heap.size + 1) _ _ 37 (0, 0) HQ2.out) Try.underlying37 rfl HIL2.out) rfl ?_
        exact ⟨congrArg (fun c => Ending.returned (.agg c)) HDD.out, below_setRow HG2.out (Nat.le_succ _)⟩
      · have HCC : Hid (C = restA (cutF F rail j)) := Lib.hid (hC.trans (by rw [cutF_less hle]))
        have HBK := Lib.hid HRB.out
        obtain ⟨f, hf⟩ : ∃ f, f = F j := ⟨_, rfl⟩
        rw [← hf] at e1 hb hle
        clear hC hR hf hF
        go_enter Try.func23, Try.ntmps23
        go_wp2_with (first
          | (refine wpList_load_row rfl 37 (.tmp 3) rfl w.heap.size rfl 37 _ (0, 0) _ HBK.out Try.underlying37 rfl HIL.out ?_)
          | (refine wpList_store_row rfl 37 (.tmp 6) (.tmp 26) rfl (w.heap.size + 1) _ rfl rfl 37 _ HBQ.out HIL.out HIS.out HO1.out ?_))
        refine bodyPost_ret (results_cell_row rfl _ _ (w.heap.size + 1) 37 _ (0, 0) _ rfl (setRow_heap _ (w.heap.size + 1) _ _ 37 (0, 0) HBQ.out) Try.underlying37 rfl HIL.out) rfl ?_
        exact ⟨congrArg (fun c => Ending.returned (.agg c)) HCC.out, below_setRow HGB.out (Nat.le_succ _)⟩
    · have HCC : Hid (C = restA (cutF F rail k)) := Lib.hid (hC.trans (cutF_far (.inr (by omega))).symm)
      have HBK := Lib.hid HRB.out
      clear hC hF
      go_enter Try.func23, Try.ntmps23
      go_wp2_with (first
        | (refine wpList_load_row rfl 37 (.tmp 3) rfl w.heap.size rfl 37 _ (0, 0) _ HBK.out Try.underlying37 rfl HIL.out ?_)
        | (refine wpList_store_row rfl 37 (.tmp 6) (.tmp 26) rfl (w.heap.size + 1) _ rfl rfl 37 _ HBQ.out HIL.out HIS.out HO1.out ?_))
      refine bodyPost_ret (results_cell_row rfl _ _ (w.heap.size + 1) 37 _ (0, 0) _ rfl (setRow_heap _ (w.heap.size + 1) _ _ 37 (0, 0) HBQ.out) Try.underlying37 rfl HIL.out) rfl ?_
      exact ⟨congrArg (fun c => Ending.returned (.agg c)) HCC.out, below_setRow HGB.out (Nat.le_succ _)⟩
  · have HCC : Hid (C = restA (cutF F rail k)) := Lib.hid (hC.trans (cutF_far (.inl (by omega))).symm)
    have HBK := Lib.hid HRB.out
    clear hC hF
    go_enter Try.func23, Try.ntmps23
    go_wp2_with (first
      | (refine wpList_load_row rfl 37 (.tmp 3) rfl w.heap.size rfl 37 _ (0, 0) _ HBK.out Try.underlying37 rfl HIL.out ?_)
      | (refine wpList_store_row rfl 37 (.tmp 6) (.tmp 26) rfl (w.heap.size + 1) _ rfl rfl 37 _ HBQ.out HIL.out HIS.out HO1.out ?_))
    refine bodyPost_ret (results_cell_row rfl _ _ (w.heap.size + 1) 37 _ (0, 0) _ rfl (setRow_heap _ (w.heap.size + 1) _ _ 37 (0, 0) HBQ.out) Try.underlying37 rfl HIL.out) rfl ?_
    exact ⟨congrArg (fun c => Ending.returned (.agg c)) HCC.out, below_setRow HGB.out (Nat.le_succ _)⟩

/- two arrays of rests compared -/
theorem equal_int (d : Nat) (a b : Int) (W : World) : (Op.equalIn (d + 1) 3 (.int .i64 a) (.int .i64 b)).run Try.prog W = .ok (a == b) W := by
  unfold Op.equalIn
  simp [go_sem, Sem.run_bind, run_underlying Try.underlying3]
theorem isAgg_int (W : World) : (isAgg 3).run Try.prog W = .ok false W := by
  unfold isAgg
  simp [go_sem, Sem.run_bind, run_underlying Try.underlying3]
set_option maxHeartbeats 4000000 in
theorem eq_rests (d : Nat) (x0 x1 x2 x3 x4 x5 x6 x7 y0 y1 y2 y3 y4 y5 y6 y7 : Int) (W : World) : (Op.equalIn (d + 2) 37 (.agg #[.int .i64 x0, .int .i64 x1, .int .i64 x2, .int .i64 x3, .int .i64 x4, .int .i64 x5, .int .i64 x6, .int .i64 x7]) (.agg #[.int .i64 y0, .int .i64 y1, .int .i64 y2, .int .i64 y3, .int .i64 y4, .int .i64 y5, .int .i64 y6, .int .i64 y7])).run Try.prog W = .ok (x0 == y0 && (x1 == y1 && (x2 == y2 && (x3 == y3 && (x4 == y4 && (x5 == y5 && (x6 == y6 && x7 == y7))))))) W := by
  unfold Op.equalIn
  simp [go_sem, Sem.run_bind, run_underlying Try.underlying37]
  simp only [List.range', List.forIn_cons, List.forIn_nil, Sem.run_bind, isAgg_int, Result.andThen_ok]
  cases h0 : (x0 == y0)
  · simp [equal_int, h0]
  cases h1 : (x1 == y1)
  · simp [equal_int, h0, h1, Sem.run_bind]
  cases h2 : (x2 == y2)
  · simp [equal_int, h0, h1, h2, Sem.run_bind]
  cases h3 : (x3 == y3)
  · simp [equal_int, h0, h1, h2, h3, Sem.run_bind]
  cases h4 : (x4 == y4)
  · simp [equal_int, h0, h1, h2, h3, h4, Sem.run_bind]
  cases h5 : (x5 == y5)
  · simp [equal_int, h0, h1, h2, h3, h4, h5, Sem.run_bind]
  cases h6 : (x6 == y6)
  · simp [equal_int, h0, h1, h2, h3, h4, h5, h6, Sem.run_bind]
  cases h7 : (x7 == y7)
  · simp [equal_int, h0, h1, h2, h3, h4, h5, h6, h7, Sem.run_bind]
  simp [equal_int, h0, h1, h2, h3, h4, h5, h6, h7, Sem.run_bind]
end Go.Proofs.Ytnijedmnjmeciaa
