/- IsEven of the program. No condition but the list's length. -/
import Derived.Test.YtbocdhibimcobaaEvenI
import Derived.Deep.MidRow
namespace Go.Proofs.Ytbocdhibimcobaa
open Go.RowKit Go.Sort

theorem equal11 (d : Nat) (a b : Int) (W : World) : (Op.equalIn (d + 1) 3 (.int .i64 a) (.int .i64 b)).run Try.prog W = .ok (a == b) W := by
  unfold Op.equalIn
  simp [go_sem, Sem.run_bind, run_underlying Try.underlying3]
theorem isAgg11 (W : World) : (isAgg 3).run Try.prog W = .ok false W := by
  unfold isAgg
  simp [go_sem, Sem.run_bind, run_underlying Try.underlying3]
set_option maxHeartbeats 8000000 in
theorem eq_parts (d : Nat) (x0 x1 x2 x3 x4 x5 x6 x7 x8 x9 x10 y0 y1 y2 y3 y4 y5 y6 y7 y8 y9 y10 : Int) (W : World) : (Op.equalIn (d + 2) 49 (.agg #[.int .i64 x0, .int .i64 x1, .int .i64 x2, .int .i64 x3, .int .i64 x4, .int .i64 x5, .int .i64 x6, .int .i64 x7, .int .i64 x8, .int .i64 x9, .int .i64 x10]) (.agg #[.int .i64 y0, .int .i64 y1, .int .i64 y2, .int .i64 y3, .int .i64 y4, .int .i64 y5, .int .i64 y6, .int .i64 y7, .int .i64 y8, .int .i64 y9, .int .i64 y10])).run Try.prog W = .ok (x0 == y0 && (x1 == y1 && (x2 == y2 && (x3 == y3 && (x4 == y4 && (x5 == y5 && (x6 == y6 && (x7 == y7 && (x8 == y8 && (x9 == y9 && x10 == y10)))))))))) W := by
  unfold Op.equalIn
  simp [go_sem, Sem.run_bind, run_underlying Try.underlying49]
  simp only [List.range', List.forIn_cons, List.forIn_nil, Sem.run_bind, isAgg11, Result.andThen_ok]
  cases h0 : (x0 == y0)
  · simp [equal11, h0]
  cases h1 : (x1 == y1)
  · simp [equal11, h0, h1, Sem.run_bind]
  cases h2 : (x2 == y2)
  · simp [equal11, h0, h1, h2, Sem.run_bind]
  cases h3 : (x3 == y3)
  · simp [equal11, h0, h1, h2, h3, Sem.run_bind]
  cases h4 : (x4 == y4)
  · simp [equal11, h0, h1, h2, h3, h4, Sem.run_bind]
  cases h5 : (x5 == y5)
  · simp [equal11, h0, h1, h2, h3, h4, h5, Sem.run_bind]
  cases h6 : (x6 == y6)
  · simp [equal11, h0, h1, h2, h3, h4, h5, h6, Sem.run_bind]
  cases h7 : (x7 == y7)
  · simp [equal11, h0, h1, h2, h3, h4, h5, h6, h7, Sem.run_bind]
  cases h8 : (x8 == y8)
  · simp [equal11, h0, h1, h2, h3, h4, h5, h6, h7, h8, Sem.run_bind]
  cases h9 : (x9 == y9)
  · simp [equal11, h0, h1, h2, h3, h4, h5, h6, h7, h8, h9, Sem.run_bind]
  cases h10 : (x10 == y10)
  · simp [equal11, h0, h1, h2, h3, h4, h5, h6, h7, h8, h9, h10, Sem.run_bind]
  simp [equal11, h0, h1, h2, h3, h4, h5, h6, h7, h8, h9, h10, Sem.run_bind]
theorem eq_rows (d : Nat) (F G : Nat → Int) (b : Bool) (W : World) (hb : b = true ↔ ∀ i, i < 11 → F i = G i) : (Op.equalIn (d + 2) 49 (.agg (rowF 11 F).toArray) (.agg (rowF 11 G).toArray)).run Try.prog W = .ok b W := by
  have h := eq_parts d (F 0) (F 1) (F 2) (F 3) (F 4) (F 5) (F 6) (F 7) (F 8) (F 9) (F 10) (G 0) (G 1) (G 2) (G 3) (G 4) (G 5) (G 6) (G 7) (G 8) (G 9) (G 10) W
  have e : (F 0 == G 0 && (F 1 == G 1 && (F 2 == G 2 && (F 3 == G 3 && (F 4 == G 4 && (F 5 == G 5 && (F 6 == G 6 && (F 7 == G 7 && (F 8 == G 8 && (F 9 == G 9 && F 10 == G 10)))))))))) = b := by
    rw [Bool.eq_iff_iff, hb]
    simp only [Bool.and_eq_true, beq_iff_eq]
    constructor
    · rintro ⟨h0, h1, h2, h3, h4, h5, h6, h7, h8, h9, h10⟩ i hi
      rcases (show i = 0 ∨ i = 1 ∨ i = 2 ∨ i = 3 ∨ i = 4 ∨ i = 5 ∨ i = 6 ∨ i = 7 ∨ i = 8 ∨ i = 9 ∨ i = 10 by omega) with rfl | rfl | rfl | rfl | rfl | rfl | rfl | rfl | rfl | rfl | rfl
      all_goals assumption
    · intro h
      exact ⟨h 0 (by omega), h 1 (by omega), h 2 (by omega), h 3 (by omega), h 4 (by omega), h 5 (by omega), h 6 (by omega), h 7 (by omega), h 8 (by omega), h 9 (by omega), h 10 (by omega)⟩
  rw [e] at h
  exact h

def srtJ (S : List Int) (i : Nat) : Int := S.getD i 0
def srtA (S : List Int) : Array Value := (rowF 11 (srtJ S)).toArray
theorem srt_ev {n m : Nat} {S : List Int} (hm : m ≤ 10) (hl : S.length = m + 1) : (∀ i, i < 11 → srtJ S i = evJ n m (m + 1) i) ↔ S = evL n m := by
  constructor
  · intro h
    apply List.ext_getElem
    · rw [hl, evL_len]
    · intro k h1 h2
      have h3 := h k (by omega)
      unfold srtJ evJ at h3
      rw [if_pos (by omega), List.getD_eq_getElem?_getD, List.getElem?_eq_getElem h1] at h3
      have e : (evL n m)[k] = evF n m k := by simp [evL]
      rw [e]; exact h3
  · rintro rfl i hi
    unfold srtJ evJ
    by_cases h : i < m + 1
    · rw [if_pos h, List.getD_eq_getElem?_getD, List.getElem?_eq_getElem (by rw [evL_len]; exact h)]
      simp [evL]
    · rw [if_neg h, List.getD_eq_getElem?_getD, List.getElem?_eq_none (by rw [evL_len]; omega)]; rfl
theorem sort_row {w : World} {base g n : Nat} {e : TypeId} {F : Nat → Int} {S : List Int} (h : RowIs w e base g 11 F) (hl : S.length = n) (hF : ∀ i, n ≤ i → i < 11 → F i = 0) (hb : base ≤ w.heap.size) (k : Nat) (os : Array Obj) :
    RowIs (grow (putRow (Value.int .i64) (Sort.ahead w k) g 0 S.toArray) os) e base g 11 (srtJ S) ∧ Below base w (grow (putRow (Value.int .i64) (Sort.ahead w k) g 0 S.toArray) os) := by
  have hbk := heap_sortedI (n := k) (os := os) S.toArray h.block
  have hc : putCells (Value.int .i64) 0 S.toArray (rowF 11 F).toArray = (rowF 11 (srtJ S)).toArray := by
    apply Array.ext_getElem?
    intro i
    unfold putCells
    rw [Array.getElem?_mapIdx, List.getElem?_toArray, List.getElem?_toArray]
    by_cases hi : i < 11
    · rw [rowF_at 11 F i hi, rowF_at 11 (srtJ S) i hi, Option.map_some]
      by_cases h2 : i < n
      · rw [if_pos (by simp; omega)]
        unfold srtJ
        rw [List.getD_eq_getElem?_getD, List.getElem?_eq_getElem (by omega)]
        simp [getElem!_pos, hl, h2]
      · rw [if_neg (by simp; omega), hF i (by omega) hi]
        unfold srtJ
        rw [List.getD_eq_getElem?_getD, List.getElem?_eq_none (by omega)]; rfl
    · rw [List.getElem?_eq_none (by rw [rowF_len]; omega), List.getElem?_eq_none (by rw [rowF_len]; omega)]; rfl
  rw [hc] at hbk
  exact ⟨RowIs.of_block hbk h.lt.1 (by unfold maxLen; omega), (Below.refl base w).grown (grownBy_sortedI _) hb (fun j hj => by cases hj; exact h.lt.1)⟩

set_option maxRecDepth 100000 in
set_option maxHeartbeats 8000000 in
theorem implIsEven_any (a0 : Int) (A1 : Option Addr) (c1 : Nat) (L1 : List Int) (w : World) (_ : (Lit.int .i64 a0).wf = true) (l1 : L1.length ≤ 1048576) (_ : WfL L1) (_ : L1.length ≤ c1) (h1 : IntSl w A1 L1) :
    Calls Try.prog 35 #[.int .i64 a0, .slice A1 L1.length c1] w fun e w' => e = .returned (.tuple #[.bool (isEv a0 L1), .bool (okGa a0 L1)]) ∧ Below w.heap.size w w' := by
  have HG := Lib.hid (areGates_any a0 A1 c1 L1 w l1 h1)
  cases hk : okGa a0 L1
  · rw [isEv_no hk]
    rw [hk] at HG
    clear hk h1
    go_enter Try.func35, Try.ntmps35
    go_wp2_with fail
    refine HG.out.mono ?_
    rintro e w1 ⟨rfl, rfl⟩
    go_wp2
    go_ret2
    exact ⟨rfl, Below.refl _ _⟩
  · obtain ⟨hn, hl, -⟩ := okGa_at hk
    obtain ⟨n, rfl⟩ : ∃ n : Nat, a0 = n := ⟨a0.toNat, by omega⟩
    rw [isEv_yes hk]
    rw [hk] at HG
    have HP := Lib.hid (partsOf_any n A1 c1 L1 w hk h1)
    obtain ⟨S, hS⟩ : ∃ S, S = (partL n L1).mergeSort fun x y => decide (x ≤ y) := ⟨_, rfl⟩
    have hpm : S.Perm (partL n L1) := by rw [hS]; exact List.mergeSort_perm _ _
    have hpw : S.Pairwise (· ≤ ·) := by
      have := List.pairwise_mergeSort (le := fun x y : Int => decide (x ≤ y)) (by intro a b c; simp; omega) (by intro a b; simp; omega) (partL n L1)
      rw [← hS] at this
      exact this.imp fun {a b} h => by simpa using h
    have hsl : S.length = L1.length + 1 := by rw [hpm.length_eq, partL_len]
    have hev := even_iff (n := n) (m := L1.length) (P := partL n L1) (partL_len _ _) (partL_total _ _) (fun x hx => by have := partL_bd hk x hx; omega) hpm hpw
    obtain ⟨b, hb⟩ : ∃ b, b = decide (Lib.maxOf (partL n L1) - Lib.minOf (partL n L1) < 2) := ⟨_, rfl⟩
    rw [← hb]
    have hbe : b = true ↔ ∀ i, i < 11 → srtJ S i = evJ n L1.length (L1.length + 1) i := by
      rw [srt_ev hl hsl, hb, decide_eq_true_iff]; exact hev.symm
    have HEQ : Hid (∀ W, (Op.equalIn 10000 49 (.agg (srtA S)) (.agg (evA n L1.length))).run Try.prog W = .ok b W) := Lib.hid fun W => eq_rows 9998 (srtJ S) (evJ n L1.length (L1.length + 1)) b W hbe
    have HEV := Lib.hid fun W => evenParts_any n L1.length W (by omega) hl
    have HIL : Hid ((Try.prog.info? 49).map (·.size) = some (parA n L1).size) := Lib.hid (by rw [info_parts11]; simp [parA, rowF_len])
    have HIS : Hid ((rowF 11 fun _ => 0).toArray.size = (parA n L1).size) := Lib.hid (by simp [parA, rowF_len])
    have HO1 : Hid ((parA n L1).all (·.oneCell') = true) := Lib.hid (rowF_one 11 _)
    have HC : Hid (parA n L1 = (rowF 11 (parJ n L1 (L1.length + 1))).toArray) := Lib.hid rfl
    have HPA : Hid (∀ i, L1.length + 1 ≤ i → i < 11 → parJ n L1 (L1.length + 1) i = 0) := Lib.hid fun i h _ => by unfold parJ; rw [if_neg (by omega)]
    have HPS : Hid (∀ i (h : i < (partL n L1).length), (partL n L1)[i] = parJ n L1 (L1.length + 1) i) := Lib.hid fun i h => by
      rw [partL_at]; unfold parJ; rw [if_pos (by rw [partL_len] at h; exact h)]
    have hpl := partL_len n L1
    have HSL := Lib.hid hsl
    obtain ⟨C, hC⟩ : ∃ C, C = parA n L1 := ⟨_, rfl⟩
    rw [← hC] at HP HIL HIS HO1 HC
    obtain ⟨P, hP⟩ : ∃ P, P = partL n L1 := ⟨_, rfl⟩
    rw [← hP] at HPS hpl hS
    have HSS := Lib.hid hS
    clear hk hC hP hS hpm hpw hsl hev hb hbe h1
    go_enter Try.func35, Try.ntmps35
    go_wp2_with fail
    refine HG.out.mono ?_
    rintro e w1 ⟨rfl, rfl⟩
    go_wp2_with fail
    refine HP.out.mono ?_
    rintro e w1 ⟨rfl, hb⟩
    have HB := Lib.hid hb
    have hbs := hb.size
    have HBQ : Hid ((w1.alloc (.cells zeros11 49)).heap[w1.heap.size]? = some (.cells (rowF 11 fun _ => 0).toArray 49 (0, 0))) := Lib.hid (heap_alloc_new w1 _)
    have k0 : (0 : Int) ≤ (L1.length : Int) + 1 := by omega
    have k1 : (L1.length : Int) + 1 ≤ 11 := by omega
    have e2 : ((L1.length : Int) + 1).toNat = L1.length + 1 := by omega
    clear hb
    go_wp2_with (refine wpList_store_row rfl 49 (.tmp 6) (.tmp 13) rfl w1.heap.size _ rfl rfl 49 _ HBQ.out HIL.out HIS.out HO1.out ?_)
    obtain ⟨W2, hW2⟩ : ∃ W2, W2 = (w1.alloc (.cells zeros11 49)).setRow w1.heap.size C := ⟨_, rfl⟩
    have HRI : Hid (RowIs W2 49 w1.heap.size w1.heap.size 11 (parJ n L1 (L1.length + 1))) := Lib.hid (by rw [hW2, HC.out]; exact RowIs.set _ HBQ.out (by unfold maxLen; omega))
    have HBB : Hid (Below w.heap.size w W2) := Lib.hid (by rw [hW2]; exact below_setRow (HB.out.alloc hbs _) hbs)
    have HW1S : Hid (w1.heap.size ≤ W2.heap.size) := Lib.hid (by have := HRI.out.lt.2; omega)
    have HSO : Hid (Calls Try.prog 72 #[.slice (some ⟨w1.heap.size, 0, none⟩) (L1.length + 1) 11] W2 fun e w' => e = .returned (.tuple #[]) ∧ RowIs w' 49 w1.heap.size w1.heap.size 11 (srtJ S) ∧ Below w1.heap.size W2 w') := Lib.hid (by
      have := Try.slices_Sort_int w1.heap.size 0 11 P W2 (fun j hj => by
        have hj' : j < P.length := by simpa using hj
        refine ⟨?_, HRI.out.frozen (0 + j)⟩
        rw [Nat.zero_add, HRI.out.cell j (by omega), ← HPS.out j hj']
        simp [getElem!_pos, hj']) HRI.out.lt.2 (by omega)
      rw [hpl] at this
      refine this.mono ?_
      rintro e w' ⟨rfl, k, os, rfl⟩
      have hs := sort_row HRI.out HSL.out HPA.out HW1S.out k os
      rw [HSS.out] at hs
      rw [HSS.out]
      exact ⟨rfl, hs.1, hs.2⟩)
    subst hW2
    go_wp2_with fail
    refine HSO.out.mono ?_
    rintro e W3 ⟨rfl, hrow, hb3⟩
    have HR3 := Lib.hid hrow
    have HB3 := Lib.hid (HBB.out.trans (hb3.mono hbs))
    have hg3 := hrow.lt.2
    obtain ⟨cs, hcs⟩ : ∃ cs, cs = rowF 11 (srtJ S) := ⟨_, rfl⟩
    have HRG : Hid (∀ W, Below W3.heap.size W3 W → W.rangeAt w1.heap.size 0 cs) := Lib.hid fun W hW j v hv => by
      rw [hcs] at hv
      have hj : j < 11 := by have := (List.getElem?_eq_some_iff.1 hv).1; rwa [rowF_len] at this
      rw [rowF_at 11 _ j hj] at hv
      rw [Nat.zero_add, hW.cell (p := ⟨w1.heap.size, j, none⟩) hg3, hrow.cell j hj, ← Option.some.inj hv]
    have hun := Try.underlying49
    have hinf : (Try.prog.info? 49).map (·.size) = some cs.length := by rw [info_parts11, hcs, rowF_len]
    have HEQ2 : Hid (∀ W, (Op.equalIn 10000 49 (.agg cs.toArray) (.agg (evA n L1.length))).run Try.prog W = .ok b W) := Lib.hid (by rw [hcs]; exact HEQ.out)
    have heq := HEQ2.out
    obtain ⟨E, hE⟩ : ∃ E, E = evA n L1.length := ⟨_, rfl⟩
    rw [← hE] at HEV heq
    clear hrow hb3 hcs hE HEQ
    go_wp2
    go_region_held3 (fun x => x.rangeAt w1.heap.size 0 cs)
      (first | exact HRG.out _ (Below.refl _ _).drew | exact HRG.out _ HQ1.out)
      (first
        | (go_at_call 69; refine (HEV.out _).mono ?_; rintro e w5 ⟨rfl, hb5⟩; have HQ1 := Lib.hid (below_next (Below.refl W3.heap.size W3).drew hb5); clear hb5))
    go_wp2
    go_ret2
    exact ⟨rfl, HB3.out.trans (HQ1.out.mono HB3.out.size)⟩
end Go.Proofs.Ytbocdhibimcobaa
