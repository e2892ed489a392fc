/- EvenGates of both sides. No condition. -/
import Derived.Test.YtbocdhibimcobaaGOfP2
namespace Go.Proofs.Ytbocdhibimcobaa
open Go.RowKit

def okEv (n m : Int) : Bool := okMany n m && decide (m < n)
def evGL (n m : Int) : List Int := if okEv n m = true then evG n.toNat m.toNat else []
theorem okEv_no {n m : Int} (h : okMany n m = false) : okEv n m = false := by unfold okEv; rw [h]; rfl
theorem okEv_of {n m : Int} (h : okMany n m = true) : okEv n m = decide (m < n) := by unfold okEv; rw [h]; rfl
theorem okEv_at {n m : Int} (h : okEv n m = true) : okMany n m = true ∧ m < n := by
  unfold okEv at h
  rwa [Bool.and_eq_true, decide_eq_true_iff] at h
theorem evGL_no {n m : Int} (h : okEv n m = false) : evGL n m = [] := by unfold evGL; rw [h]; rfl
theorem evGL_yes {n m : Nat} (h : okEv n m = true) : evGL n m = evG n m := by unfold evGL; rw [h, Int.toNat_natCast, Int.toNat_natCast]; rfl
theorem evGL_len (n m : Int) : (evGL n m).length ≤ 1048576 := by
  unfold evGL
  split
  · next h => have := okMany_at (okEv_at h).1; rw [evG_len]; omega
  · exact Nat.zero_le _
theorem evL_take_sum (n m : Nat) {j : Nat} (h : j ≤ m + 1) : ((evL n m).take j).sum = (evS n m j : Int) := by
  induction j with
  | zero => rfl
  | succ j ih =>
    have hj : j < (evL n m).length := by rw [evL_len]; omega
    have e : (evL n m)[j] = (evP n m j : Int) := by simp [evL, evF]
    rw [List.take_succ_eq_append_getElem hj, List.sum_append, ih (by omega), evS_succ, e]
    simp
theorem evL_gop {n m : Nat} (hk : okMany n m = true) : okGp (evL n m) = okEv n m ∧ gopL (evL n m) = evGL n m := by
  obtain ⟨hn, hm⟩ := okMany_at hk
  have h1 : okGp (evL n m) = okEv n m := by
    rw [okEv_of hk]
    unfold okGp
    rw [evL_sum]
    have hr : okRow (n : Int) = true := decide_eq_true hn
    rw [hr, Bool.and_true, Bool.eq_iff_iff, evL_ok (by omega) (by omega) (by omega), decide_eq_true_iff]
    omega
  refine ⟨h1, ?_⟩
  unfold gopL
  rw [h1]
  cases h2 : okEv n m
  · rw [evGL_no h2]; rfl
  · rw [evGL_yes h2, if_pos rfl, evL_len, Nat.add_sub_cancel]
    unfold sumsJ evG
    exact List.map_congr_left fun k hk => by rw [evL_take_sum n m (by have := List.mem_range.1 hk; omega)]

set_option maxRecDepth 100000 in
set_option maxHeartbeats 4000000 in
theorem implEvenGates_any (a0 a1 : Int) (w : World) (_ : (Lit.int .i64 a0).wf = true) (_ : (Lit.int .i64 a1).wf = true) :
    Calls Try.prog 33 #[.int .i64 a0, .int .i64 a1] w fun e w' => ∃ v, e = .returned (.tuple #[v, .bool (okEv a0 a1)]) ∧ OwnInts w' w.heap.size 3 v (evGL a0 a1) ∧ Below w.heap.size w w' := by
  have HM := Lib.hid (isRowFor_any a0 a1 w)
  cases hk : okMany a0 a1
  · have h2 := okEv_no hk
    rw [evGL_no h2, h2]
    rw [hk] at HM
    clear hk h2
    go_enter Try.func33, Try.ntmps33
    go_wp2_with fail
    refine HM.out.mono ?_
    rintro e w1 ⟨rfl, rfl⟩
    go_wp2
    go_ret2
    exact ⟨_, rfl, OwnInts.nil _ _ _, Below.refl _ _⟩
  · obtain ⟨hn, hm⟩ := okMany_at hk
    obtain ⟨n, rfl⟩ : ∃ n : Nat, a0 = n := ⟨a0.toNat, by omega⟩
    obtain ⟨m, rfl⟩ : ∃ m : Nat, a1 = m := ⟨a1.toNat, by omega⟩
    rw [hk] at HM
    have HP := Lib.hid (evenParts_any n m w (by omega) (by omega))
    have HGP := Lib.hid (evL_gop hk)
    have HIL : Hid ((Try.prog.info? 49).map (·.size) = some (evA n m).size) := Lib.hid (by rw [info_parts11]; simp [evA, rowF_len])
    have HIS : Hid ((rowF 11 fun _ => 0).toArray.size = (evA n m).size) := Lib.hid (by simp [evA, rowF_len])
    have HO1 : Hid ((evA n m).all (·.oneCell') = true) := Lib.hid (rowF_one 11 _)
    have HLL := Lib.hid (evJ_list n m)
    have HC : Hid (evA n m = (rowF 11 (evJ n m (m + 1))).toArray) := Lib.hid rfl
    have hel := evL_len n m
    have HWF : Hid (WfL (evL n m)) := Lib.hid fun x hx => by
      unfold evL at hx
      obtain ⟨k, hk, rfl⟩ := List.mem_map.1 hx
      have := evP_le n m k (by have := List.mem_range.1 hk; omega)
      unfold evF
      exact wf64_mk (by omega) (by omega)
    obtain ⟨C, hC⟩ : ∃ C, C = evA n m := ⟨_, rfl⟩
    rw [← hC] at HP HIL HIS HO1 HC
    clear hk hC
    go_enter Try.func33, Try.ntmps33
    go_wp2_with fail
    refine HM.out.mono ?_
    rintro e w1 ⟨rfl, rfl⟩
    go_wp2_with fail
    refine HP.out.mono ?_
    rintro e w1 ⟨rfl, hb⟩
    have HB := Lib.hid hb
    have hbs := hb.size
    have HBQ : Hid ((w1.alloc (.cells zeros11 49)).heap[w1.heap.size]? = some (.cells (rowF 11 fun _ => 0).toArray 49 (0, 0))) := Lib.hid (heap_alloc_new w1 _)
    have k0 : (0 : Int) ≤ (m : Int) + 1 := by omega
    have k1 : (m : Int) + 1 ≤ 11 := by omega
    have e2 : ((m : Int) + 1).toNat = m + 1 := by omega
    clear hb
    go_wp2_with (refine wpList_store_row rfl 49 (.tmp 6) (.tmp 13) rfl w1.heap.size _ rfl rfl 49 _ HBQ.out HIL.out HIS.out HO1.out ?_)
    obtain ⟨W2, hW2⟩ : ∃ W2, W2 = (w1.alloc (.cells zeros11 49)).setRow w1.heap.size C := ⟨_, rfl⟩
    have HRI : Hid (RowIs W2 49 w1.heap.size w1.heap.size 11 (evJ n m (m + 1))) := Lib.hid (by rw [hW2, HC.out]; exact RowIs.set _ HBQ.out (by unfold maxLen; omega))
    have HOW : Hid (OwnInts W2 w.heap.size 49 (.slice (some ⟨w1.heap.size, 0, none⟩) (evL n m).length 11) (evL n m)) := Lib.hid (by
      have := (HRI.out.part (n := m + 1) (by omega) (by unfold maxLen; omega))
      rw [HLL.out] at this
      exact this.mono hbs)
    have HBB : Hid (Below w.heap.size w W2) := Lib.hid (by rw [hW2]; exact below_setRow (HB.out.alloc hbs _) hbs)
    have HGO := Lib.hid (implGatesOfParts_any (some ⟨w1.heap.size, 0, none⟩) 11 (evL n m) W2 (by omega) HWF.out (by omega) (IntSl.of_own HOW.out))
    rw [hel] at HGO
    subst hW2
    go_wp2_with fail
    refine HGO.out.mono ?_
    rintro e w3 ⟨v, rfl, hown, hb3⟩
    have HO3 := Lib.hid hown
    have HB3 := Lib.hid hb3
    clear hown hb3
    go_wp2
    go_ret2
    exact ⟨v, congrArg (fun b => Ending.returned (.tuple #[v, .bool b])) HGP.out.1, by rw [← HGP.out.2]; exact HO3.out.mono HBB.out.size, below_nextN HBB.out HBB.out.size HB3.out⟩
set_option maxRecDepth 20000 in
set_option maxHeartbeats 4000000 in
theorem specEvenGates_any (a0 a1 : Int) (w : World) (_ : (Lit.int .i64 a0).wf = true) (_ : (Lit.int .i64 a1).wf = true) :
    Calls Try.prog 32 #[.int .i64 a0, .int .i64 a1] w fun e w' => ∃ v, e = .returned (.tuple #[v, .bool (okEv a0 a1)]) ∧ OwnInts w' w.heap.size 3 v (evGL a0 a1) ∧ Below w.heap.size w w' := by
  obtain ⟨i0, hi, hz0, hz1, hz2⟩ := info_parts info_int
  have HM := Lib.hid (gaMany_any a0 a1 w)
  cases hk : okMany a0 a1
  · have h2 := okEv_no hk
    rw [evGL_no h2, h2]
    rw [hk] at HM
    clear hk h2
    go_enter Try.func32, Try.ntmps32
    go_wp2_with fail
    refine HM.out.mono ?_
    rintro e w1 ⟨rfl, rfl⟩
    go_wp2
    go_ret2
    exact ⟨_, rfl, OwnInts.nil _ _ _, Below.refl _ _⟩
  · obtain ⟨hn, hm⟩ := okMany_at hk
    rw [hk] at HM
    by_cases hlt : a1 < a0
    · have h2 : okEv a0 a1 = true := by rw [okEv_of hk, decide_eq_true hlt]
      obtain ⟨n, rfl⟩ : ∃ n : Nat, a0 = n := ⟨a0.toNat, by omega⟩
      obtain ⟨m, rfl⟩ : ∃ m : Nat, a1 = m := ⟨a1.toNat, by omega⟩
      rw [evGL_yes h2, h2]
      obtain ⟨q, hq⟩ : ∃ q, q = n / (m + 1) := ⟨_, rfl⟩
      obtain ⟨r, hr⟩ : ∃ r, r = n % (m + 1) := ⟨_, rfl⟩
      have hqn : q ≤ n := by rw [hq]; exact Nat.div_le_self _ _
      have hrm : r < m + 1 := by rw [hr]; exact Nat.mod_lt _ (by omega)
      have ed : ((m + 1 : Nat) : Int) = (m : Int) + 1 := by omega
      have dq : (n : Int) / ((m : Int) + 1) = (q : Int) := by rw [← ed, ← Int.natCast_ediv, ← hq]
      have tq : (n : Int).tdiv ((m : Int) + 1) = (q : Int) := by rw [Int.tdiv_eq_ediv_of_nonneg (by omega), dq]
      have dr : (n : Int) % ((m : Int) + 1) = (r : Int) := by rw [← ed, ← Int.natCast_emod, ← hr]
      have tr : (n : Int).tmod ((m : Int) + 1) = (r : Int) := by rw [Int.tmod_eq_emod_of_nonneg (by omega), dr]
      have hdd : decide (n ≤ m) = false := decide_eq_false (by omega)
      have wm : IntKind.i64.wrap ((m : Int) + 1) = (m : Int) + 1 := by rw [IntKind.wrap_i64]; omega
      have y0' : (0 : Int) < (m : Int) + 1 := by omega
      have y1' : (1 : Int) ≤ (m : Int) + 1 := by omega
      have yz : ((m : Int) + 1 == 0) = false := by rw [beq_eq_false_iff_ne]; omega
      have HP1 : Hid (∀ k, k + r < m + 1 → evS n m (k + 1) = evS n m k + q) := Lib.hid fun k h => by
        rw [evS_succ]; unfold evP; rw [← hr, ← hq, if_pos h]
      have HP2 : Hid (∀ k, ¬ k + r < m + 1 → evS n m (k + 1) = evS n m k + q + 1) := Lib.hid fun k h => by
        rw [evS_succ]; unfold evP; rw [← hr, ← hq, if_neg h]; omega
      have HLE := Lib.hid fun k (hk : k ≤ m + 1) => evS_evR (n := n) (m := m) k hk
      have HSN : Hid (∀ j, ((List.range (j + 1)).map fun k => (evS n m (k + 1) : Int)) = ((List.range j).map fun k => (evS n m (k + 1) : Int)) ++ [(evS n m (j + 1) : Int)]) := Lib.hid fun j => by rw [List.range_succ, List.map_append]; rfl
      have HSL : Hid (∀ j, ((List.range j).map fun k => (evS n m (k + 1) : Int)).length = j) := Lib.hid fun j => by simp
      clear hk h2 hq hr ed
      go_enter Try.func32, Try.ntmps32
      go_wp2_with fail
      refine HM.out.mono ?_
      rintro e w1 ⟨rfl, rfl⟩
      go_wp2
      go_quiet (fail)
      go_wp2
      go_loopw [8, 9, 10] (fun v a i wr => ∃ j : Nat, j ≤ m ∧ i = .int .i64 j ∧ a = .int .i64 ((evS n m j : Nat) : Int) ∧ OwnInts wr w.heap.size 3 v ((List.range j).map fun k => (evS n m (k + 1) : Int)) ∧ Below w.heap.size w wr) (fun _ _ i _ => m - (intOf i).toNat)
      case atStart => exact ⟨0, Nat.zero_le _, rfl, rfl, OwnInts.nil _ _ _, below_drewN (Below.refl _ _) _⟩
      case round =>
        obtain ⟨j, hj, rfl, rfl, hown, hb⟩ := hrel
        have HO := Lib.hid hown
        clear hown
        have hbs := hb.size
        have hlen := HSL.out j
        have HN := Lib.hid (HSN.out j)
        by_cases hjt : j < m
        · have hle := HLE.out j (by omega)
          have hle2 := HLE.out (j + 1) (by omega)
          by_cases hc : j + r < m + 1
          · have hp := HP1.out j hc
            rw [hp] at HN hle2
            have HPP := Lib.hid hp
            obtain ⟨y, hy⟩ : ∃ y, y = evS n m j := ⟨_, rfl⟩
            rw [← hy] at HN hle hle2 HPP ⊢
            obtain ⟨T, hT⟩ : ∃ T, T = ((List.range j).map fun k => (evS n m (k + 1) : Int)) := ⟨_, rfl⟩
            rw [← hT] at HN HO hlen
            have b1 : y + q ≤ 40 := by omega
            have hc1 : ¬ ((m : Int) + 1 - (r : Int) ≤ (j : Int)) := by omega
            clear hp hy hle hle2 hT
            go_wp2_with (at_builtin; refine wpList_append_own _ rfl (.tmp 44) (.tmp 46) _ rfl w.heap.size 3 i0 _ 1 8 Try.underlying22 hi hz0 hz1 hz2 rfl (by decide) _ (T).length ((T).map (Value.int .i64)) rfl (World.ownsRow.alloc HO.out _) ⟨_, 0, none⟩ 1 1 [.int .i64 ((y : Int) + (q : Int))] rfl rfl (World.news_of_block (cs := #[.int .i64 ((y : Int) + (q : Int))]) (t := 3) (fr := (0, 0)) (by first | exact heap_alloc_new _ _ | exact heap_new_set _ _ _ _ _)) (by simp [Value.oneCell']) (by unfold maxLen; omega) (by omega) (by simp; omega) ?_; intro v' w3 hown' hgrow _)
            have HRR : Hid (OwnInts w3 w.heap.size 3 v' ((List.range (j + 1)).map fun k => (evS n m (k + 1) : Int))) := Lib.hid (by rw [HN.out, Int.natCast_add]; exact OwnInts.snoc hown')
            have HB3 : Hid (Below w.heap.size w w3) := Lib.hid ((hb.alloc hbs _).grown hgrow (by simp; omega) fun k hk => (World.ownsRow.lt HO.out k hk).1)
            clear hown' hgrow
            go_wp2
            go_roundw
            case rel => exact ⟨j + 1, by omega, by go_num, by rw [HPP.out]; go_num, HRR.out, HB3.out⟩
            case measure => simp [intOf]; omega
          · have hp := HP2.out j hc
            rw [hp] at HN hle2
            have HPP := Lib.hid hp
            obtain ⟨y, hy⟩ : ∃ y, y = evS n m j := ⟨_, rfl⟩
            rw [← hy] at HN hle hle2 HPP ⊢
            obtain ⟨T, hT⟩ : ∃ T, T = ((List.range j).map fun k => (evS n m (k + 1) : Int)) := ⟨_, rfl⟩
            rw [← hT] at HN HO hlen
            have b1 : y + q + 1 ≤ 40 := by omega
            have hc1 : (m : Int) + 1 - (r : Int) ≤ (j : Int) := by omega
            clear hp hy hle hle2 hT
            go_wp2_with (at_builtin; refine wpList_append_own _ rfl (.tmp 44) (.tmp 46) _ rfl w.heap.size 3 i0 _ 1 8 Try.underlying22 hi hz0 hz1 hz2 rfl (by decide) _ (T).length ((T).map (Value.int .i64)) rfl (World.ownsRow.alloc HO.out _) ⟨_, 0, none⟩ 1 1 [.int .i64 ((y : Int) + (q : Int) + 1)] rfl rfl (World.news_of_block (cs := #[.int .i64 ((y : Int) + (q : Int) + 1)]) (t := 3) (fr := (0, 0)) (by first | exact heap_alloc_new _ _ | exact heap_new_set _ _ _ _ _)) (by simp [Value.oneCell']) (by unfold maxLen; omega) (by omega) (by simp; omega) ?_; intro v' w3 hown' hgrow _)
            have HRR : Hid (OwnInts w3 w.heap.size 3 v' ((List.range (j + 1)).map fun k => (evS n m (k + 1) : Int))) := Lib.hid (by rw [HN.out, Int.natCast_add, Int.natCast_add]; exact OwnInts.snoc hown')
            have HB3 : Hid (Below w.heap.size w w3) := Lib.hid ((hb.alloc hbs _).grown hgrow (by simp; omega) fun k hk => (World.ownsRow.lt HO.out k hk).1)
            clear hown' hgrow
            go_wp2
            go_roundw
            case rel => exact ⟨j + 1, by omega, by go_num, by rw [HPP.out]; go_num, HRR.out, HB3.out⟩
            case measure => simp [intOf]; omega
        · obtain rfl : j = m := by omega
          go_wp2
          go_ret2
          exact ⟨_, rfl, HO.out, hb⟩
    · have h2 : okEv a0 a1 = false := by rw [okEv_of hk, decide_eq_false hlt]
      rw [evGL_no h2, h2]
      clear hk h2
      go_enter Try.func32, Try.ntmps32
      go_wp2_with fail
      refine HM.out.mono ?_
      rintro e w1 ⟨rfl, rfl⟩
      go_wp2
      go_ret2
      exact ⟨_, rfl, OwnInts.nil _ _ _, Below.refl _ _⟩
end Go.Proofs.Ytbocdhibimcobaa
