/- GreedyShare and FewestPainters of the program. No condition but the lists' lengths. -/
import Derived.Test.YteiaidjknnbpjaaGreedy2
import Derived.Test.YteiaidjknnbpjaaLeastLaws
namespace Go.Proofs.Yteiaidjknnbpjaa
open Go.RowKit Go.Sort Go.Lib

def noZ (zs : List Int) : List Int := zs.filter fun x => !(x == 0)
theorem noZ_len (zs : List Int) : (noZ zs).length ≤ zs.length := List.length_filter_le ..
theorem deleteZero_any {w : World} {base g n : Nat} {zs : List Int} (h : OwnInts w base 3 (.slice (some ⟨g, 0, none⟩) n n) zs) (h0 : 0 < n) (hl : n ≤ 1048576) (hz : zs.length = n) :
    Calls Try.prog 115 #[.slice (some ⟨g, 0, none⟩) n n, .func (.func 116) #[] #[]] w fun e w' => e = .returned (.slice (some ⟨g, 0, none⟩) (noZ zs).length n) ∧ OwnInts w' base 3 (.slice (some ⟨g, 0, none⟩) (noZ zs).length n) (noZ zs) ∧ ∀ B a, B ≤ base → Below B a w → Below B a w' := by
  have hs : zs.toArray.size = n := by simp [hz]
  have hn := noZ_len zs
  have hown : w.ownsRow base 3 1 (.slice (some ⟨g, 0, none⟩) n n) n (zs.map (Value.int .i64)) := by
    have := h
    unfold OwnInts at this
    rwa [hz] at this
  have hH : Holds (Value.int .i64) w g 0 zs.toArray := fun j hj => by
    rw [hs] at hj
    refine ⟨?_, World.ownsRow.frozenAt hown _⟩
    rw [Nat.zero_add, World.ownsRow.cellAt hown j (by omega), getElem?_ints zs j (by omega)]
    congr 2
    rw [getElem!_pos zs.toArray j (by omega)]
    simp
  have hc := Try.slices_DeleteFunc (Value.int .i64) (fun _ => rfl) (fun x : Int => x == 0) 116 #[] (enters_of Try.func116 (by kernel_rfl) rfl) 0 Try.zeroValue3 g 0 n zs.toArray w
    (fun W x _ => greedyFn_any x W) (fun _ _ _ x _ => greedyFn_any x _) hH (by omega) (by omega)
  rw [hs] at hc
  refine hc.mono ?_
  rintro e w' ⟨rfl, q, rfl⟩
  have ey : (zs.toArray.toList.filter fun x => !(x == 0)) = noZ zs := rfl
  rw [ey]
  have hy : (noZ zs ++ List.replicate (n - (noZ zs).length) (0 : Int)).length = n := by rw [List.length_append, List.length_replicate]; omega
  obtain ⟨p1, p2⟩ := put_own (q := q) (k := (noZ zs).length) h h0 hz hy (by omega)
  refine ⟨rfl, ?_, p2⟩
  rw [List.take_append_of_le_length (Nat.le_refl _), List.take_length] at p1
  exact p1
theorem deleteNil_any (w : World) :
    Calls Try.prog 115 #[.slice none 0 0, .func (.func 116) #[] #[]] w fun e w' => e = .returned (.slice none 0 0) ∧ w = w' := by
  have HI : Hid (Calls Try.prog 132 #[.slice none 0 0, .func (.func 116) #[] #[]] w fun e w' => e = .returned (.int .i64 (-1)) ∧ w = w') := Lib.hid ((Try.slices_IndexFunc_empty (α := Int) none 0 _ w).mono fun _ _ h => ⟨h.1, h.2.symm⟩)
  go_enter Try.func115, Try.ntmps115
  go_wp2_with (go_at_call 132; refine HI.out.mono ?_; rintro e w' ⟨rfl, rfl⟩)
  go_ret
  exact ⟨rfl, rfl⟩
theorem noZ_taken (T : List Nat) : noZ (T.map fun n : Nat => (n : Int)) = (T.filter fun n => !(n == 0)).map fun n : Nat => (n : Int) := by
  unfold noZ
  rw [List.filter_map]
  congr 1
  apply List.filter_congr
  intro x _
  show (!((x : Int) == 0)) = _
  congr 1
  rw [Bool.eq_iff_iff, beq_iff_eq, beq_iff_eq]
  omega

set_option maxRecDepth 100000 in
set_option maxHeartbeats 4000000 in
theorem implGreedyShare_any (A0 : Option Addr) (c0 : Nat) (L0 : List Int) (a1 : Int) (w : World) (l0 : L0.length ≤ 1048576) (_ : WfL L0) (_ : L0.length ≤ c0) (h0 : IntSl w A0 L0) (_ : (Lit.int .i64 a1).wf = true) :
    Calls Try.prog 69 #[.slice A0 L0.length c0, .int .i64 a1] w fun e w' => ∃ v, e = .returned (.tuple #[v, .bool (okG L0 a1)]) ∧ OwnInts w' w.heap.size 3 v (resG L0 a1) ∧ Below w.heap.size w w' := by
  have HW := Lib.hid fun W h => implWidths_any A0 c0 L0 W l0 h
  cases hm : okM L0 a1
  · have hok : okG L0 a1 = false := by unfold okG; rw [hm]; rfl
    rw [show resG L0 a1 = [] by unfold resG; rw [hok]; rfl, hok]
    cases hw : okW L0
    · rw [hw] at HW
      clear hm hok hw
      go_enter Try.func69, Try.ntmps69
      go_wp2_with (go_at_call 53; refine (HW.out _ h0).mono ?_; rintro e w1 ⟨rfl, rfl⟩)
      go_ret2
      exact ⟨_, rfl, OwnInts.nil _ _ _, Below.refl _ _⟩
    · have hr : ¬ (1 ≤ a1 ∧ a1 ≤ 30000) := by
        intro h
        unfold okM at hm
        rw [hw, decide_eq_true h] at hm
        cases hm
      rw [hw] at HW
      clear hm hok hw
      by_cases h1 : a1 < 1
      · clear hr
        go_enter Try.func69, Try.ntmps69
        go_wp2_with (go_at_call 53; refine (HW.out _ h0).mono ?_; rintro e w1 ⟨rfl, rfl⟩)
        go_ret2
        exact ⟨_, rfl, OwnInts.nil _ _ _, Below.refl _ _⟩
      · have h2 : 30000 < a1 := by omega
        clear hr
        go_enter Try.func69, Try.ntmps69
        go_wp2_with (go_at_call 53; refine (HW.out _ h0).mono ?_; rintro e w1 ⟨rfl, rfl⟩)
        go_ret2
        exact ⟨_, rfl, OwnInts.nil _ _ _, Below.refl _ _⟩
  · obtain ⟨hw, h1, h2⟩ := okM_at hm
    have hwl := okW_len hw
    have hg : okG L0 a1 = allLe L0 a1 := by unfold okG; rw [hm]; rfl
    have hWP : Pos L0 := fun x hx => (okW_mem hw x hx).1
    have hiff := left_iff_one (W := L0) (m := a1) hWP (by omega) (by omega)
    rw [hw] at HW
    have n1 : ¬ a1 < 1 := by omega
    have n2 : ¬ 30000 < a1 := by omega
    obtain ⟨W1, hW1⟩ : ∃ W1, W1 = w.alloc (.cells #[.int .i64 a1] 3) := ⟨_, rfl⟩
    have HB1 : Hid (Below w.heap.size w W1) := Lib.hid (by rw [hW1]; exact below_new w _)
    have hs1 : W1.heap.size = w.heap.size + 1 := by rw [hW1]; simp
    have HR : Hid (Calls Try.prog 114 #[.slice (some ⟨w.heap.size, 0, none⟩) 1 1, .int .i64 L0.length] W1 fun e w' => e = .returned (.slice (some ⟨w.heap.size + 1, 0, none⟩) L0.length L0.length) ∧ OwnInts w' w.heap.size 3 (.slice (some ⟨w.heap.size + 1, 0, none⟩) L0.length L0.length) (capM L0 a1) ∧ Below w.heap.size w w') := Lib.hid ((slRepeat_any (some ⟨w.heap.size, 0, none⟩) 1 a1 L0.length W1 hwl.1 l0 (by rw [hW1]; exact one_sl w a1 _)).mono fun e w' h => by
      rw [hs1] at h
      refine ⟨h.1, h.2.1.mono (by omega), HB1.out.trans (h.2.2.mono (by omega))⟩)
    have HH := Lib.hid fun A c W (x : IntSl W A0 L0) (y : IntSl W A (capM L0 a1)) => handOut_any A0 c0 L0 A c (capM L0 a1) W hwl.1 hwl.2 (okW_mem hw) (by rw [capM_len]; exact hwl.1) (by rw [capM_len]; exact hwl.2) (fun x hx => by obtain ⟨_, rfl⟩ := List.mem_replicate.1 hx; omega) x y
    rw [capM_len] at HH
    have H0 := Lib.hid h0
    cases ha : allLe L0 a1
    · have hG : ¬ leftG L0 (capM L0 a1) = [] := by rw [hiff, ha]; decide
      have HF : Hid (∀ A c W, IntSl W A0 L0 → IntSl W A (capM L0 a1) → Calls Try.prog 73 #[.slice A0 L0.length c0, .slice A L0.length c] W fun e w' => e = .returned (.tuple #[.slice none 0 0, .bool false]) ∧ Below W.heap.size W w') := Lib.hid fun A c W x y => (HH.out A c W x y).mono fun e w' h => by
        unfold HandPost at h
        rw [if_neg hG] at h
        exact h
      rw [ha] at hg
      rw [show resG L0 a1 = [] by unfold resG; rw [hg]; rfl, hg]
      rw [hW1] at HR
      clear hm hg hw ha hWP hiff hG HH h0 hW1 hs1 HB1
      go_enter Try.func69, Try.ntmps69
      go_wp2_with (first
        | (go_at_call 53; refine (HW.out _ H0.out).mono ?_; rintro e w1 ⟨rfl, rfl⟩)
        | (go_at_call 114; refine HR.out.mono ?_; rintro e w2 ⟨rfl, hown, hb⟩; have HB2 := Lib.hid hb; have HO2 := Lib.hid hown; clear hown hb)
        | (go_at_call 73; refine (HF.out _ _ _ (H0.out.below HB2.out) (IntSl.of_own HO2.out)).mono ?_; rintro e w3 ⟨rfl, hb⟩; have HB3 := Lib.hid (below_next HB2.out hb); clear hb)
        | (go_at_call 115; refine (deleteNil_any _).mono ?_; rintro e w4 ⟨rfl, rfl⟩))
      go_ret2
      exact ⟨_, rfl, OwnInts.nil _ _ _, HB3.out⟩
    · have hG : leftG L0 (capM L0 a1) = [] := by rw [hiff, ha]
      have HF : Hid (∀ A c W, IntSl W A0 L0 → IntSl W A (capM L0 a1) → Calls Try.prog 73 #[.slice A0 L0.length c0, .slice A L0.length c] W fun e w' => e = .returned (.tuple #[.slice (some ⟨W.heap.size, 0, none⟩) L0.length L0.length, .bool true]) ∧ OwnInts w' W.heap.size 3 (.slice (some ⟨W.heap.size, 0, none⟩) L0.length L0.length) ((takenG L0 (capM L0 a1)).map fun n : Nat => (n : Int)) ∧ Below W.heap.size W w') := Lib.hid fun A c W x y => (HH.out A c W x y).mono fun e w' h => by
        unfold HandPost at h
        rw [if_pos hG, capM_len] at h
        exact ⟨h.1.1, h.1.2, h.2⟩
      have HD : Hid (∀ W g base, OwnInts W base 3 (.slice (some ⟨g, 0, none⟩) L0.length L0.length) ((takenG L0 (capM L0 a1)).map fun n : Nat => (n : Int)) → Calls Try.prog 115 #[.slice (some ⟨g, 0, none⟩) L0.length L0.length, .func (.func 116) #[] #[]] W fun e w' => e = .returned (.slice (some ⟨g, 0, none⟩) (castG L0 a1).length L0.length) ∧ OwnInts w' base 3 (.slice (some ⟨g, 0, none⟩) (castG L0 a1).length L0.length) (castG L0 a1) ∧ ∀ B a, B ≤ base → Below B a W → Below B a w') := Lib.hid fun W g base h => by
        have := deleteZero_any h hwl.1 l0 (by rw [List.length_map, takenG_len, capM_len])
        rw [noZ_taken] at this
        exact this
      rw [ha] at hg
      rw [show resG L0 a1 = castG L0 a1 by unfold resG; rw [if_pos hg], hg]
      rw [hW1] at HR
      clear hm hg hw ha hWP hiff hG HH h0 hW1 hs1 HB1
      go_enter Try.func69, Try.ntmps69
      go_wp2_with (first
        | (go_at_call 53; refine (HW.out _ H0.out).mono ?_; rintro e w1 ⟨rfl, rfl⟩)
        | (go_at_call 114; refine HR.out.mono ?_; rintro e w2 ⟨rfl, hown, hb⟩; have HB2 := Lib.hid hb; have HO2 := Lib.hid hown; have hs2 := HB2.out.size; clear hown hb)
        | (go_at_call 73; refine (HF.out _ _ _ (H0.out.below HB2.out) (IntSl.of_own HO2.out)).mono ?_; rintro e w3 ⟨rfl, hown, hb⟩; have HB3 := Lib.hid (below_next HB2.out hb); have HO3 := Lib.hid hown; clear hown hb)
        | (go_at_call 115; refine (HD.out _ _ _ HO3.out).mono ?_; rintro e w4 ⟨rfl, hown, hbb⟩))
      go_ret2
      exact ⟨_, rfl, hown.mono hs2, hbb _ _ hs2 HB3.out⟩

set_option maxHeartbeats 1000000 in
theorem implFewestPainters_any (A0 : Option Addr) (c0 : Nat) (L0 : List Int) (a1 : Int) (w : World) (l0 : L0.length ≤ 1048576) (f0 : WfL L0) (q0 : L0.length ≤ c0) (h0 : IntSl w A0 L0) (w1 : (Lit.int .i64 a1).wf = true) :
    Calls Try.prog 67 #[.slice A0 L0.length c0, .int .i64 a1] w fun e w' => e = .returned (.tuple #[.int .i64 (resFP L0 a1), .bool (okG L0 a1)]) ∧ Below w.heap.size w w' := by
  have HG := Lib.hid (implGreedyShare_any A0 c0 L0 a1 w l0 f0 q0 h0 w1)
  have HL : Hid (((resG L0 a1).length : Int) = resFP L0 a1) := Lib.hid (by
    unfold resG resFP
    split
    · rw [castG_len]
    · rfl)
  obtain ⟨ra, hra⟩ : ∃ a, a = resG L0 a1 := ⟨_, rfl⟩
  obtain ⟨rb, hrb⟩ : ∃ a, a = okG L0 a1 := ⟨_, rfl⟩
  rw [← hra] at HG HL
  rw [← hrb] at HG ⊢
  clear hra hrb
  go_enter Try.func67, Try.ntmps67
  go_wp2_with (go_at_call 69; refine HG.out.mono ?_; rintro e w2 ⟨v, rfl, hown, hb⟩; obtain ⟨A, c, rfl⟩ := hown.len; clear hown)
  go_ret2
  exact ⟨by rw [← HL.out]; rfl, hb⟩
end Go.Proofs.Yteiaidjknnbpjaa
