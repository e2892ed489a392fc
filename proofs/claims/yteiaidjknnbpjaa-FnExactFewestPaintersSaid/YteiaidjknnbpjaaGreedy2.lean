/- GreedyShare and FewestPainters of both sides. No condition but the lists' lengths. -/
import Derived.Test.YteiaidjknnbpjaaGreedy
namespace Go.Proofs.Yteiaidjknnbpjaa
open Go.RowKit Go.Sort Go.Lib

def okM (W : List Int) (m : Int) : Bool := okW W && decide (1 ≤ m ∧ m ≤ 30000)
def okG (W : List Int) (m : Int) : Bool := okM W m && allLe W m
def resG (W : List Int) (m : Int) : List Int := if okG W m = true then castG W m else []
def resFP (W : List Int) (m : Int) : Int := if okG W m = true then ((greedyL W m).length : Int) else 0
theorem okM_at {W : List Int} {m : Int} (h : okM W m = true) : okW W = true ∧ 1 ≤ m ∧ m ≤ 30000 := by
  unfold okM at h
  rw [Bool.and_eq_true, decide_eq_true_iff] at h
  exact ⟨h.1, h.2⟩
theorem castG_len (W : List Int) (m : Int) : (castG W m).length = (greedyL W m).length := List.length_map ..
theorem resG_len (W : List Int) (m : Int) : (resG W m).length ≤ 1048576 := by
  unfold resG
  split
  · next h =>
    unfold okG at h
    rw [Bool.and_eq_true] at h
    have := okW_len (okM_at h.1).1
    have := greedy_len W m
    rw [castG_len]; omega
  · exact Nat.zero_le _

theorem shMost_any (A : Option Addr) (c : Nat) (L : List Int) (m : Int) (w : World) (l : L.length ≤ 1048576) (h : IntSl w A L) :
    Calls Try.prog 112 #[.slice A L.length c, .int .i64 m] w fun e w' => e = .returned (.bool (okM L m)) ∧ w = w' := by
  cases hk : okW L
  · have HO : Hid (okM L m = false) := Lib.hid (by unfold okM; rw [hk]; rfl)
    have HK := Lib.hid hk; clear hk
    go_enter Try.func112, Try.ntmps112
    go_wp2_with (go_at_call 104; refine (shWidths_any A c L _ l h).mono ?_; rintro e w' ⟨rfl, rfl⟩; rw [HK.out])
    go_ret
    exact ⟨ret_bool HO.out.symm, rfl⟩
  · have HO : Hid (okM L m = decide (1 ≤ m ∧ m ≤ 30000)) := Lib.hid (by unfold okM; rw [hk]; rfl)
    have HK := Lib.hid hk; clear hk
    go_enter Try.func112, Try.ntmps112
    go_wp2_with (first
      | (go_at_call 104; refine (shWidths_any A c L _ l h).mono ?_; rintro e w' ⟨rfl, rfl⟩; rw [HK.out])
      | (go_at_call 101; refine (l1In_any m 1 30000 _).mono ?_; rintro e w' ⟨rfl, rfl⟩; rw [← HO.out]))
    go_ret
    exact ⟨rfl, rfl⟩
theorem specGreedyShare_any (A0 : Option Addr) (c0 : Nat) (L0 : List Int) (a1 : Int) (w : World) (l0 : L0.length ≤ 1048576) (_ : WfL L0) (_ : L0.length ≤ c0) (h0 : IntSl w A0 L0) (_ : (Lit.int .i64 a1).wf = true) :
    Calls Try.prog 68 #[.slice A0 L0.length c0, .int .i64 a1] w fun e w' => ∃ v, e = .returned (.tuple #[v, .bool (okG L0 a1)]) ∧ OwnInts w' w.heap.size 3 v (resG L0 a1) ∧ Below w.heap.size w w' := by
  have HM := Lib.hid (shMost_any A0 c0 L0 a1 w l0 h0)
  cases hm : okM L0 a1
  · have hok : okG L0 a1 = false := by unfold okG; rw [hm]; rfl
    rw [show resG L0 a1 = [] by unfold resG; rw [hok]; rfl, hok]
    rw [hm] at HM
    clear hm hok
    go_enter Try.func68, Try.ntmps68
    go_wp2_with (go_at_call 112; refine HM.out.mono ?_; rintro e w1 ⟨rfl, rfl⟩)
    go_ret2
    exact ⟨_, rfl, OwnInts.nil _ _ _, Below.refl _ _⟩
  · obtain ⟨hw, h1, h2⟩ := okM_at hm
    have hg : okG L0 a1 = allLe L0 a1 := by unfold okG; rw [hm]; rfl
    have HG := Lib.hid (shGreedy_any A0 c0 L0 a1 w hw h1 h2 h0)
    rw [show (if allLe L0 a1 = true then castG L0 a1 else []) = resG L0 a1 by unfold resG; rw [hg], ← hg] at HG
    rw [hm] at HM
    obtain ⟨ra, hra⟩ : ∃ a, a = resG L0 a1 := ⟨_, rfl⟩
    obtain ⟨rb, hrb⟩ : ∃ a, a = okG L0 a1 := ⟨_, rfl⟩
    rw [← hra, ← hrb] at HG ⊢
    clear hm hg hra hrb hw
    go_enter Try.func68, Try.ntmps68
    go_wp2_with (first
      | (go_at_call 112; refine HM.out.mono ?_; rintro e w1 ⟨rfl, rfl⟩)
      | (go_at_call 113; refine HG.out.mono ?_; rintro e w1 ⟨v, rfl, hown, hb⟩))
    go_ret2
    exact ⟨_, rfl, hown, hb⟩
theorem specFewestPainters_any (A0 : Option Addr) (c0 : Nat) (L0 : List Int) (a1 : Int) (w : World) (l0 : L0.length ≤ 1048576) (_ : WfL L0) (_ : L0.length ≤ c0) (h0 : IntSl w A0 L0) (_ : (Lit.int .i64 a1).wf = true) :
    Calls Try.prog 66 #[.slice A0 L0.length c0, .int .i64 a1] w fun e w' => e = .returned (.tuple #[.int .i64 (resFP L0 a1), .bool (okG L0 a1)]) ∧ Below w.heap.size w w' := by
  have HM := Lib.hid (shMost_any A0 c0 L0 a1 w l0 h0)
  cases hm : okM L0 a1
  · have hok : okG L0 a1 = false := by unfold okG; rw [hm]; rfl
    rw [show resFP L0 a1 = 0 by unfold resFP; rw [hok]; rfl, hok]
    rw [hm] at HM
    clear hm hok
    go_enter Try.func66, Try.ntmps66
    go_wp2_with (go_at_call 112; refine HM.out.mono ?_; rintro e w1 ⟨rfl, rfl⟩)
    go_ret2
    exact ⟨rfl, Below.refl _ _⟩
  · obtain ⟨hw, h1, h2⟩ := okM_at hm
    have hg : okG L0 a1 = allLe L0 a1 := by unfold okG; rw [hm]; rfl
    have HG := Lib.hid (shGreedy_any A0 c0 L0 a1 w hw h1 h2 h0)
    rw [hm] at HM
    cases ha : allLe L0 a1
    · rw [ha] at HG hg
      rw [show resFP L0 a1 = 0 by unfold resFP; rw [hg]; rfl, hg]
      clear hm hg hw ha
      go_enter Try.func66, Try.ntmps66
      go_wp2_with (first
        | (go_at_call 112; refine HM.out.mono ?_; rintro e w1 ⟨rfl, rfl⟩)
        | (go_at_call 113; refine HG.out.mono ?_; rintro e w1 ⟨v, rfl, -, hb⟩))
      go_ret2
      exact ⟨rfl, hb⟩
    · rw [ha, if_pos rfl] at HG
      rw [ha] at hg
      rw [show resFP L0 a1 = ((greedyL L0 a1).length : Int) by unfold resFP; rw [if_pos hg], hg]
      have HL := Lib.hid (castG_len L0 a1)
      clear hm hg hw ha
      go_enter Try.func66, Try.ntmps66
      go_wp2_with (first
        | (go_at_call 112; refine HM.out.mono ?_; rintro e w1 ⟨rfl, rfl⟩)
        | (go_at_call 113; refine HG.out.mono ?_; rintro e w1 ⟨v, rfl, hown, hb⟩; obtain ⟨A, c, rfl⟩ := hown.len; rw [HL.out]; clear hown))
      go_ret2
      exact ⟨rfl, hb⟩

theorem greedyFn_any (x : Int) (w : World) : Calls Try.prog 116 #[.int .i64 x] w fun e w' => e = .returned (.bool (x == 0)) ∧ ∃ q, w' = w.drewN q := by
  go_enter Try.func116, Try.ntmps116
  go_wp2
  go_ret
  exact ⟨rfl, 0, rfl⟩
theorem put_own {w : World} {base g n q k : Nat} {e : TypeId} {zs ys : List Int} (h : OwnInts w base e (.slice (some ⟨g, 0, none⟩) n n) zs) (_ : 0 < n) (hz : zs.length = n) (hy : ys.length = n) (hk : k ≤ n) :
    OwnInts (putRow (Value.int .i64) (Sort.ahead w q) g 0 ys.toArray) base e (.slice (some ⟨g, 0, none⟩) k n) (ys.take k) ∧ ∀ B a, B ≤ base → Below B a w → Below B a (putRow (Value.int .i64) (Sort.ahead w q) g 0 ys.toArray) := by
  unfold OwnInts at h
  rw [hz] at h
  have hlt := World.ownsRow.lt h g rfl
  have hfull := full_cells h
  have hmax := own_le h
  have hheap : (putRow (Value.int .i64) (Sort.ahead w q) g 0 ys.toArray).heap = w.heap.modify g (onCells (putCells (Value.int .i64) 0 ys.toArray)) := rfl
  have hcell : (putRow (Value.int .i64) (Sort.ahead w q) g 0 ys.toArray).heap[g]? = some (.cells (ys.map (Value.int .i64)).toArray e (0, 0)) := by
    rw [hheap, Array.getElem?_modify, if_pos rfl, hfull]
    show some (Obj.cells (putCells (Value.int .i64) 0 ys.toArray (zs.map (Value.int .i64)).toArray) e (0, 0)) = _
    congr 2
    apply Array.ext_getElem?
    intro i
    unfold putCells
    rw [Array.getElem?_mapIdx]
    simp only [List.getElem?_toArray, List.getElem?_map, List.size_toArray]
    by_cases hi : i < n
    · rw [List.getElem?_eq_getElem (by omega), List.getElem?_eq_getElem (by omega)]
      simp only [Option.map_some]
      rw [if_pos (by omega), Nat.sub_zero]
      congr 2
      simp [hy, hi]
    · rw [List.getElem?_eq_none (by omega), List.getElem?_eq_none (by omega)]
      rfl
  refine ⟨?_, fun B a hB hb => ⟨hb.os, hb.tape, hb.output, by rw [hheap, Array.size_modify]; exact hb.size, fun i hi => ?_⟩⟩
  · refine ⟨by rw [List.length_map, List.length_take]; omega, .inr ⟨g, n, (ys.map (Value.int .i64)).toArray, by rw [List.length_take, Nat.min_eq_left (by omega)], hlt.1, hcell, by rw [List.length_take]; omega, hmax, by simp [hy], ?_⟩⟩
    rw [Nat.mul_one, List.length_take, Nat.min_eq_left (by omega), ← List.map_take]
  · rw [hheap, Array.getElem?_modify, if_neg (by omega)]
    exact hb.block i hi
end Go.Proofs.Yteiaidjknnbpjaa
