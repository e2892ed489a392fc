/- 'impl.partsOf' and PartsOf of both sides. No condition but the list's length. -/
import Derived.Test.YtbocdhibimcobaaParts
namespace Go.Proofs.Ytbocdhibimcobaa
open Go.RowKit

def zeros11 : Array Value := (rowF 11 fun _ => 0).toArray
/-- the array of parts -/
def parA (n : Int) (L : List Int) : Array Value := (rowF 11 (parJ n L (L.length + 1))).toArray
theorem info_parts11 : (Try.prog.info? 49).map (·.size) = some 11 := by kernel_rfl

set_option maxRecDepth 100000 in
set_option maxHeartbeats 4000000 in
theorem partsOf_any (n : Int) (A : Option Addr) (c : Nat) (L : List Int) (w : World) (hk : okGa n L = true) (h : IntSl w A L) :
    Calls Try.prog 57 #[.int .i64 n, .slice A L.length c] w fun e w' => e = .returned (.agg (parA n L)) ∧ Below w.heap.size w w' := by
  obtain ⟨⟨n2, n40⟩, hl, -⟩ := okGa_at hk
  have HP := Lib.hid fun k (hkk : k ≤ L.length) => prt_bd hk hkk
  have HSL := Lib.hid h
  have HBE := Lib.hid (bdG_end n L)
  clear hk h
  go_enter Try.func57, Try.ntmps57
  go_wp2
  have HR : Hid (RowIs ((w.alloc (.cells zeros11 49)).alloc (.cells zeros11 49)) 49 w.heap.size (w.heap.size + 1) 11 (fun _ => 0)) := Lib.hid (RowIs.of_block (heap_alloc2_new w _ _) (Nat.le_succ _) (by unfold maxLen; omega))
  have HQ : Hid (RowIs ((w.alloc (.cells zeros11 49)).alloc (.cells zeros11 49)) 49 w.heap.size w.heap.size 11 (fun _ => 0)) := Lib.hid (RowIs.of_block (heap_alloc2_old w _ _) (Nat.le_refl _) (by unfold maxLen; omega))
  have HG : Hid (Below w.heap.size w ((w.alloc (.cells zeros11 49)).alloc (.cells zeros11 49))) := Lib.hid (below_next (below_new w _) (below_new _ _))
  go_loopw [6, 11] (fun d i wr => ∃ j : Nat, j ≤ L.length ∧ i = .int .i64 j ∧ d = .int .i64 (bdG n L j) ∧ RowIs wr 49 w.heap.size (w.heap.size + 1) 11 (parJ n L j) ∧ RowIs wr 49 w.heap.size w.heap.size 11 (fun _ => 0) ∧ Below w.heap.size w wr) (fun _ i _ => L.length - (intOf i).toNat)
  case atStart => exact ⟨0, Nat.zero_le _, rfl, rfl, HR.out.congr (fun i _ => by unfold parJ; rw [if_neg (by omega)]), HQ.out, HG.out⟩
  case round =>
    clear HR HG HQ
    obtain ⟨j, hj, rfl, rfl, hrow, hres, hb⟩ := hrel
    have HRJ := Lib.hid hrow
    have HGJ := Lib.hid hb
    have HQJ := Lib.hid hres
    have HCE := Lib.hid fun (k : Nat) (hk : k < 11) => hrow.cell k hk
    have HFR := Lib.hid fun (k : Nat) => hrow.frozen k
    clear hrow hb hres
    have hpb := HP.out j hj
    have hRn : w.heap.size ≠ w.heap.size + 1 := by omega
    by_cases hlt : j < L.length
    · obtain ⟨g, off, rfl, hg, hat⟩ := (HSL.out.below HGJ.out).some (by omega)
      have c1 := hat j hlt
      rw [← bdG_at (n := n) hlt] at c1
      have y0 := HCE.out j (by omega)
      have f0 := HFR.out j
      have HS : Hid (RowIs (wr.setCell ⟨w.heap.size + 1, j, none⟩ (.int .i64 (prt n L j))) 49 w.heap.size (w.heap.size + 1) 11 (parJ n L (j + 1))) := Lib.hid ((HRJ.out.store j (prt n L j)).congr (fun i _ => parJ_set n L j i))
      have HGS := Lib.hid (below_store HGJ.out (Nat.le_succ w.heap.size) j (.int .i64 (prt n L j)))
      have HQS := Lib.hid (HQJ.out.far hRn j (.int .i64 (prt n L j)))
      unfold prt at HS HGS HQS hpb
      obtain ⟨x, hx⟩ : ∃ x, x = bdG n L (j + 1) := ⟨_, rfl⟩
      obtain ⟨y, hy⟩ : ∃ y, y = bdG n L j := ⟨_, rfl⟩
      have HX := Lib.hid hx
      rw [← hx] at c1 HS HGS HQS hpb
      rw [← hy] at HS HGS HQS hpb ⊢
      have k0 : (0 : Int) ≤ (j : Int) := by omega
      have k1 : (j : Int) < 11 := by omega
      clear hat hx hy HCE HFR
      go_wp2
      go_roundw
      case rel => exact ⟨j + 1, by omega, by go_num, by rw [HX.out], HS.out, HQS.out, HGS.out⟩
      case measure => simp [intOf]; omega
    · obtain rfl : j = L.length := by omega
      have y0 := HCE.out L.length (by omega)
      have f0 := HFR.out L.length
      have HS : Hid (RowIs (wr.setCell ⟨w.heap.size + 1, L.length, none⟩ (.int .i64 (prt n L L.length))) 49 w.heap.size (w.heap.size + 1) 11 (parJ n L (L.length + 1))) := Lib.hid ((HRJ.out.store L.length (prt n L L.length)).congr (fun i _ => parJ_set n L L.length i))
      have HGS := Lib.hid (below_store HGJ.out (Nat.le_succ w.heap.size) L.length (.int .i64 (prt n L L.length)))
      have HQS := Lib.hid (HQJ.out.far hRn L.length (.int .i64 (prt n L L.length)))
      unfold prt at HS HGS HQS hpb
      rw [HBE.out] at HS HGS HQS hpb
      obtain ⟨y, hy⟩ : ∃ y, y = bdG n L L.length := ⟨_, rfl⟩
      rw [← hy] at HS HGS HQS hpb ⊢
      have k0 : (0 : Int) ≤ (L.length : Int) := by omega
      have k1 : (L.length : Int) < 11 := by omega
      have HBK : Hid ((wr.setCell ⟨w.heap.size + 1, L.length, none⟩ (.int .i64 (n - y))).heap[w.heap.size + 1]? = some (.cells (parA n L) 49 (0, 0))) := Lib.hid HS.out.block
      have HBQ := Lib.hid HQS.out.block
      have HIL : Hid ((Try.prog.info? 49).map (·.size) = some (parA n L).size) := Lib.hid (by rw [info_parts11]; simp [parA, rowF_len])
      have HIS : Hid ((rowF 11 fun _ => 0).toArray.size = (parA n L).size) := Lib.hid (by simp [parA, rowF_len])
      have HO1 : Hid ((parA n L).all (·.oneCell') = true) := Lib.hid (rowF_one 11 _)
      obtain ⟨C, hC⟩ : ∃ C, C = parA n L := ⟨_, rfl⟩
      rw [← hC] at HBK HIL HIS HO1
      have HCC := Lib.hid hC
      clear hy HCE HFR HS HQS hC
      go_wp2_with (first
        | (refine wpList_load_row rfl 49 (.tmp 5) rfl (w.heap.size + 1) rfl 49 _ (0, 0) _ HBK.out Try.underlying49 rfl HIL.out ?_)
        | (refine wpList_store_row rfl 49 (.tmp 4) (.tmp 29) rfl w.heap.size _ rfl rfl 49 _ HBQ.out HIL.out HIS.out HO1.out ?_))
      refine bodyPost_ret (results_cell_row rfl _ _ w.heap.size 49 _ (0, 0) _ rfl (setRow_heap _ w.heap.size _ _ 49 (0, 0) HBQ.out) Try.underlying49 rfl HIL.out) rfl ?_
      exact ⟨congrArg (fun c => Ending.returned (.agg c)) HCC.out, below_setRow HGS.out (Nat.le_refl _)⟩

def partsR (n : Int) (L : List Int) : List Int := if okGa n L = true then partL n L else []
theorem partsR_no {n : Int} {L : List Int} (h : okGa n L = false) : partsR n L = [] := by unfold partsR; rw [h]; rfl
theorem partsR_yes {n : Int} {L : List Int} (h : okGa n L = true) : partsR n L = partL n L := by unfold partsR; rw [h]; rfl
theorem partsR_len (n : Int) (L : List Int) : (partsR n L).length ≤ 1048576 := by
  unfold partsR
  split
  · next h => have := okGa_at h; rw [partL_len]; omega
  · exact Nat.zero_le _
theorem parJ_list (n : Int) (L : List Int) : (List.range (L.length + 1)).map (parJ n L (L.length + 1)) = partL n L := by
  unfold partL
  exact List.map_congr_left fun i hi => by unfold parJ; rw [if_pos (List.mem_range.1 hi)]

set_option maxRecDepth 100000 in
set_option maxHeartbeats 4000000 in
theorem implPartsOf_cap (a0 : Int) (A1 : Option Addr) (c1 : Nat) (L1 : List Int) (w : World) (_ : (Lit.int .i64 a0).wf = true) (l1 : L1.length ≤ 1048576) (_ : WfL L1) (_ : L1.length ≤ c1) (h1 : IntSl w A1 L1) :
    Calls Try.prog 23 #[.int .i64 a0, .slice A1 L1.length c1] w fun e w' => ∃ A c c', e = .returned (.tuple #[.slice A (partsR a0 L1).length c, .bool (okGa a0 L1)]) ∧ OwnInts w' w.heap.size 49 (.slice A (partsR a0 L1).length c') (partsR a0 L1) ∧ Below w.heap.size w w' := by
  have HG := Lib.hid (areGates_any a0 A1 c1 L1 w l1 h1)
  cases hk : okGa a0 L1
  · rw [partsR_no hk]
    rw [hk] at HG
    clear hk h1
    go_enter Try.func23, Try.ntmps23
    go_wp2_with fail
    refine HG.out.mono ?_
    rintro e w1 ⟨rfl, rfl⟩
    go_wp2
    go_ret2
    exact ⟨_, _, _, rfl, OwnInts.nil _ _ _, Below.refl _ _⟩
  · rw [partsR_yes hk]
    have hl := (okGa_at hk).2.1
    rw [hk] at HG
    have HP := Lib.hid (partsOf_any a0 A1 c1 L1 w hk h1)
    have HIL : Hid ((Try.prog.info? 49).map (·.size) = some (parA a0 L1).size) := Lib.hid (by rw [info_parts11]; simp [parA, rowF_len])
    have HIS : Hid ((rowF 11 fun _ => 0).toArray.size = (parA a0 L1).size) := Lib.hid (by simp [parA, rowF_len])
    have HO1 : Hid ((parA a0 L1).all (·.oneCell') = true) := Lib.hid (rowF_one 11 _)
    have HLN := Lib.hid (partL_len a0 L1)
    have HLL := Lib.hid (parJ_list a0 L1)
    have HC : Hid (parA a0 L1 = (rowF 11 (parJ a0 L1 (L1.length + 1))).toArray) := Lib.hid rfl
    obtain ⟨C, hC⟩ : ∃ C, C = parA a0 L1 := ⟨_, rfl⟩
    rw [← hC] at HP HIL HIS HO1 HC
    clear hk h1 hC
    go_enter Try.func23, Try.ntmps23
    go_wp2_with fail
    refine HG.out.mono ?_
    rintro e w1 ⟨rfl, rfl⟩
    go_wp2_with fail
    refine HP.out.mono ?_
    rintro e w1 ⟨rfl, hb⟩
    have HB := Lib.hid hb
    have hbs := hb.size
    have HBQ : Hid ((w1.alloc (.cells zeros11 49)).heap[w1.heap.size]? = some (.cells (rowF 11 fun _ => 0).toArray 49 (0, 0))) := Lib.hid (heap_alloc_new w1 _)
    have k0 : (0 : Int) ≤ (L1.length : Int) + 1 := by omega
    have k1 : (L1.length : Int) + 1 ≤ 11 := by omega
    have e2 : ((L1.length : Int) + 1).toNat = L1.length + 1 := by omega
    clear hb
    go_wp2_with (refine wpList_store_row rfl 49 (.tmp 6) (.tmp 14) rfl w1.heap.size _ rfl rfl 49 _ HBQ.out HIL.out HIS.out HO1.out ?_)
    have HRI : Hid (RowIs ((w1.alloc (.cells zeros11 49)).setRow w1.heap.size C) 49 w1.heap.size w1.heap.size 11 (parJ a0 L1 (L1.length + 1))) := Lib.hid (by rw [HC.out]; exact RowIs.set _ HBQ.out (by unfold maxLen; omega))
    have HOW : Hid (OwnInts ((w1.alloc (.cells zeros11 49)).setRow w1.heap.size C) w.heap.size 49 (.slice (some ⟨w1.heap.size, 0, none⟩) (partL a0 L1).length 11) (partL a0 L1)) := Lib.hid (by
      have := (HRI.out.part (n := L1.length + 1) (by omega) (by unfold maxLen; omega))
      rw [HLL.out] at this
      exact this.mono hbs)
    have HBB : Hid (Below w.heap.size w ((w1.alloc (.cells zeros11 49)).setRow w1.heap.size C)) := Lib.hid (below_setRow (HB.out.alloc hbs _) hbs)
    go_wp2
    go_ret2
    exact ⟨_, _, _, by rw [HLN.out]; rfl, HOW.out, HBB.out⟩
set_option maxHeartbeats 1000000 in
theorem specPartsOf_no (n : Int) (A : Option Addr) (c : Nat) (L : List Int) (w : World) (hm : L.length ≤ 1048576) (h : IntSl w A L) (hok : (okGa n L) = false) :
    Calls Try.prog 22 #[.int .i64 n, .slice A L.length c] w fun e w' => e = .returned (.tuple #[.slice none 0 0, .bool false]) ∧ Below w.heap.size w w' := by
  have H0 := Lib.hid (gaAre_any n A c L w hm h)
  cases h0 : okGa n L
  · clear hok
    rw [h0] at H0
    clear h0
    go_enter Try.func22, Try.ntmps22
    go_wp2_with fail
    refine H0.out.mono ?_
    rintro e w1 ⟨rfl, rfl⟩
    go_wp2
    go_ret2
    exact ⟨rfl, Below.refl _ _⟩
  · rw [h0] at hok; simp at hok
set_option maxHeartbeats 2000000 in
theorem specPartsOf_any (a0 : Int) (A1 : Option Addr) (c1 : Nat) (L1 : List Int) (w : World) (_ : (Lit.int .i64 a0).wf = true) (l1 : L1.length ≤ 1048576) (_ : WfL L1) (_ : L1.length ≤ c1) (h1 : IntSl w A1 L1) :
    Calls Try.prog 22 #[.int .i64 a0, .slice A1 L1.length c1] w fun e w' => ∃ v, e = .returned (.tuple #[v, .bool (okGa a0 L1)]) ∧ OwnInts w' w.heap.size 3 v (partsR a0 L1) ∧ Below w.heap.size w w' := by
  cases hk : okGa a0 L1
  · rw [partsR_no hk]
    exact (specPartsOf_no a0 A1 c1 L1 w l1 h1 hk).mono fun e w' h => ⟨_, h.1, OwnInts.nil _ _ _, h.2⟩
  · rw [partsR_yes hk]
    have HG := Lib.hid (gaAre_any a0 A1 c1 L1 w l1 h1)
    rw [hk] at HG
    have HP := Lib.hid (gaParts_any a0 A1 c1 L1 w hk h1)
    clear hk h1
    go_enter Try.func22, Try.ntmps22
    go_wp2_with fail
    refine HG.out.mono ?_
    rintro e w1 ⟨rfl, rfl⟩
    go_wp2_with fail
    refine HP.out.mono ?_
    rintro e w1 ⟨v, rfl, hown, hb⟩
    have HO := Lib.hid hown
    clear hown
    go_wp2
    go_ret2
    exact ⟨_, rfl, HO.out, hb⟩
end Go.Proofs.Ytbocdhibimcobaa
