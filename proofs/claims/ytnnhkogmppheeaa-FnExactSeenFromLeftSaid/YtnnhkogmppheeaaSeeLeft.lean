/- SeenFromLeft of both sides. No condition but the list's length. -/
import Derived.Test.YtnnhkogmppheeaaWhere
import Derived.Test.YtnnhkogmppheeaaSub
namespace Go.Proofs.Ytnnhkogmppheeaa
open Go.RowKit

/-- whether board j is higher than all to the left of it -/
def leftB (L : List Int) (j : Nat) : Bool := decide ((L.take j).foldl max (-1) < L.getD j 0)
def leftR (L : List Int) : List Int := if okH L = true then pickJ (leftB L) L.length else []
theorem leftR_len (L : List Int) : (leftR L).length ≤ 1048576 := by
  unfold leftR
  split
  · next h => have := okH_len h; have := pickJ_len (leftB L) L.length; omega
  · exact Nat.zero_le _
theorem leftR_no {L : List Int} (h : okH L = false) : leftR L = [] := by unfold leftR; rw [h]; rfl
theorem leftR_yes {L : List Int} (h : okH L = true) : leftR L = pickJ (leftB L) L.length := by unfold leftR; rw [h]; rfl
theorem leftB_zero {L : List Int} (h : okH L = true) : leftB L 0 = true := by
  have hl := okH_len h
  have := okH_at h (k := 0) (by omega)
  unfold leftB
  rw [List.take_zero, getD_lt L 0 (by omega)]
  exact decide_eq_true (by show (-1 : Int) < _; omega)
theorem foldMax_eq {L : List Int} (h0 : 0 < L.length) (h : ∀ x ∈ L, 0 ≤ x) : L.foldl max (-1) = Lib.maxOf L := by
  apply Int.le_antisymm
  · rw [foldl_max_le]
    have h1 := (maxOf_le h0 (Lib.maxOf L)).1 (Int.le_refl _)
    refine ⟨?_, h1⟩
    have := h1 L[0] (List.getElem_mem h0)
    have := h L[0] (List.getElem_mem h0)
    omega
  · rw [maxOf_le h0]
    exact ((foldl_max_le L (-1) _).1 (Int.le_refl _)).2
theorem leftB_pos {L : List Int} (h : okH L = true) {j : Nat} (hj : j < L.length) (h0 : 0 < j) : leftB L j = decide (Lib.maxOf (L.take j) < L[j]) := by
  unfold leftB
  rw [getD_lt L j hj, foldMax_eq (by rw [List.length_take]; omega) fun x hx => (okH_mem h (List.mem_of_mem_take hx)).1]

set_option maxRecDepth 20000 in
set_option maxHeartbeats 2000000 in
theorem seeLeft1_any (b1 j : Nat) (A : Option Addr) (c : Nat) (L : List Int) (w : World) (hk : okH L = true) (hj : j < L.length) (hc : L.length ≤ c) (k1 : w.cell? ⟨b1, 0, none⟩ = some (.slice A L.length c)) (h : IntSl w A L) :
    Calls Try.prog 103 #[.int .i64 j, .pointer (some ⟨b1, 0, none⟩)] w fun e w' => e = .returned (.bool (leftB L j)) ∧ ∃ d, w' = w.drewN d := by
  have hl := okH_len hk
  by_cases h0 : j = 0
  · subst h0
    rw [leftB_zero hk]
    clear h hk
    go_enter Try.func103, Try.ntmps103
    go_wp2
    go_quiet (fail)
    go_wp2
    go_ret
    exact ⟨rfl, _, rfl⟩
  · rw [leftB_pos hk hj (by omega)]
    obtain ⟨g, off, rfl, hg, hat⟩ := h.some (by omega)
    have cj := hat j hj
    have HX : Hid (∀ n, Calls Try.prog 66 #[.slice (some ⟨g, off, none⟩) j c] (w.drewN n) fun e w' => e = .returned (.int .i64 (Lib.maxOf (L.take j))) ∧ w' = w.drewN n) := Lib.hid fun n => by
      have ht : (L.take j).length = j := by rw [List.length_take]; omega
      have := slMax_any (some ⟨g, off, none⟩) c (L.take j) (w.drewN n) (by omega) (by omega) ((h.take j).below (below_drewN (Below.refl _ _) n))
      rw [ht] at this
      exact this.mono fun _ _ h => ⟨h.1, h.2.symm⟩
    obtain ⟨m, hm⟩ : ∃ m, m = Lib.maxOf (L.take j) := ⟨_, rfl⟩
    obtain ⟨v, hv⟩ : ∃ v : Int, v = L[j]'hj := ⟨_, rfl⟩
    rw [← hm] at HX ⊢
    rw [← hv] at cj ⊢
    have hs : ∀ W, (Instr.slice 22 (.slice (some ⟨g, off, none⟩) L.length c) none (some (.int .i64 (j : Int))) none).run Try.prog W = .ok (.slice (some ⟨g, off, none⟩) j c) W := fun W => cut_h _ L.length c j (by omega) W
    have ij0 : (0 : Int) ≤ (j : Int) := by omega
    have ij1 : (j : Int) < (L.length : Int) := by omega
    have hz : ((j : Int) == 0) = false := by rw [beq_eq_false_iff_ne]; omega
    clear h hk hm hv hat h0
    go_enter Try.func103, Try.ntmps103
    go_wp2
    go_quiet (first | (go_at_call 66; with_reducible exact Calls.quiet_of_same (HX.out _)))
    go_wp2
    go_ret
    exact ⟨rfl, _, rfl⟩

set_option maxRecDepth 20000 in
set_option maxHeartbeats 2000000 in
theorem implSeenFromLeft_any (A0 : Option Addr) (c0 : Nat) (L0 : List Int) (w : World) (l0 : L0.length ≤ 1048576) (_ : WfL L0) (q0 : L0.length ≤ c0) (h0 : IntSl w A0 L0) :
    Calls Try.prog 57 #[.slice A0 L0.length c0] w fun e w' => ∃ v, e = .returned (.tuple #[v, .bool (okH L0)]) ∧ OwnInts w' w.heap.size 3 v (leftR L0) ∧ Below w.heap.size w w' := by
  obtain ⟨W1, hW1⟩ : ∃ W1, W1 = w.alloc (.cells #[.slice A0 L0.length c0] 22) := ⟨_, rfl⟩
  have hs1 : W1.heap.size = w.heap.size + 1 := by rw [hW1]; simp
  have hB1 : Below w.heap.size w W1 := by rw [hW1]; exact below_new w _
  have k1 : W1.cell? ⟨w.heap.size, 0, none⟩ = some (.slice A0 L0.length c0) := by rw [hW1, cell_of_row _ w.heap.size 0 _ _ (0, 0) (heap_alloc_new w _)]; rfl
  have hsl : IntSl W1 A0 L0 := h0.below hB1
  have HG := Lib.hid (implHeights_any A0 c0 L0 W1 l0 hsl)
  have HB1 := Lib.hid hB1
  have K1 := Lib.hid k1
  have HS1 := Lib.hid hs1
  cases hk : okH L0
  · rw [leftR_no hk]
    rw [hk] at HG
    rw [hW1] at HG HB1 K1
    have k1' := K1.out
    clear hk hW1 hs1 hB1 k1 hsl h0 K1 HS1
    go_enter Try.func57, Try.ntmps57
    go_wp2_with fail
    refine HG.out.mono ?_
    rintro e w1 ⟨rfl, rfl⟩
    go_wp2
    go_ret2
    exact ⟨_, rfl, OwnInts.nil _ _ _, HB1.out⟩
  · rw [leftR_yes hk]
    rw [hk] at HG
    have HC := Lib.hid (whereLeft_any w.heap.size L0.length (leftB L0) W1 (by have := okH_len hk; omega) (fun i W hi hW =>
      (seeLeft1_any w.heap.size i A0 c0 L0 W hk hi q0 ((hW.cell (p := ⟨w.heap.size, 0, none⟩) (by show w.heap.size < _; omega)).trans k1) (hsl.below hW)).mono fun _ _ h => ⟨h.1, by obtain ⟨d, hd⟩ := h.2; rw [hd]; exact below_drewN (Below.refl _ _) d⟩))
    rw [HS1.out] at HC
    rw [hW1] at HG HB1 K1 HC
    have k1' := K1.out
    clear hk hW1 hs1 hB1 k1 hsl h0 K1 HS1
    go_enter Try.func57, Try.ntmps57
    go_wp2_with fail
    refine HG.out.mono ?_
    rintro e w1 ⟨rfl, rfl⟩
    go_wp2_with fail
    refine HC.out.mono ?_
    rintro e w1 ⟨v, rfl, hown, hb⟩
    have HO := Lib.hid (hown.mono (by omega : w.heap.size ≤ w.heap.size + 1))
    have HB := Lib.hid (HB1.out.trans (hb.mono (by omega : w.heap.size ≤ w.heap.size + 1)))
    clear hown hb
    go_wp2
    go_ret2
    exact ⟨_, rfl, HO.out, HB.out⟩

set_option maxRecDepth 20000 in
set_option maxHeartbeats 2000000 in
theorem specSeenFromLeft_any (A0 : Option Addr) (c0 : Nat) (L0 : List Int) (w : World) (l0 : L0.length ≤ 1048576) (_ : WfL L0) (_ : L0.length ≤ c0) (h0 : IntSl w A0 L0) :
    Calls Try.prog 56 #[.slice A0 L0.length c0] w fun e w' => ∃ v, e = .returned (.tuple #[v, .bool (okH L0)]) ∧ OwnInts w' w.heap.size 3 v (leftR L0) ∧ Below w.heap.size w w' := by
  have HG := Lib.hid (caGood_any A0 c0 L0 w l0 h0)
  obtain ⟨i0, hi, hz0, hz1, hz2⟩ := info_parts info_int
  cases hk : okH L0
  · rw [leftR_no hk]
    rw [hk] at HG
    clear hk h0
    go_enter Try.func56, Try.ntmps56
    go_wp2_with fail
    refine HG.out.mono ?_
    rintro e w1 ⟨rfl, rfl⟩
    go_wp2
    go_ret2
    exact ⟨_, rfl, OwnInts.nil _ _ _, Below.refl _ _⟩
  · rw [leftR_yes hk]
    have hl := okH_len hk
    rw [hk] at HG
    have HSL := Lib.hid h0
    have HFS : Hid (∀ j (hj : j < L0.length), (L0.take (j + 1)).foldl max (-1) = max ((L0.take j).foldl max (-1)) L0[j]) := Lib.hid fun j hj => by
      rw [List.take_succ_eq_append_getElem hj, List.foldl_append]; rfl
    have HLB : Hid (∀ j (hj : j < L0.length), leftB L0 j = decide ((L0.take j).foldl max (-1) < L0[j])) := Lib.hid fun j hj => by unfold leftB; rw [getD_lt L0 j hj]
    clear hk h0
    go_enter Try.func56, Try.ntmps56
    go_wp2_with fail
    refine HG.out.mono ?_
    rintro e w1 ⟨rfl, rfl⟩
    go_wp2
    go_loopw [4, 5, 13] (fun v u i wr => ∃ k : Nat, k ≤ L0.length ∧ i = .int .i64 k ∧ u = .int .i64 ((L0.take k).foldl max (-1)) ∧ OwnInts wr w.heap.size 3 v (pickJ (leftB L0) k) ∧ Below w.heap.size w wr) (fun _ _ i _ => L0.length - (intOf i).toNat)
    case atStart => exact ⟨0, Nat.zero_le _, rfl, rfl, OwnInts.nil _ _ _, Below.refl _ _⟩
    case round =>
      obtain ⟨j, hj, rfl, rfl, hown, hb⟩ := hrel
      have HO := Lib.hid hown
      clear hown
      by_cases hlt : j < L0.length
      · obtain ⟨g, off, rfl, hg, hat⟩ := (HSL.out.below hb).some (by omega)
        have c1 := hat j hlt
        have HS := Lib.hid (HFS.out j hlt)
        have HP := Lib.hid (HLB.out j hlt)
        obtain ⟨m, hm⟩ : ∃ m, m = (L0.take j).foldl max (-1) := ⟨_, rfl⟩
        obtain ⟨v, hv⟩ : ∃ v : Int, v = L0[j]'hlt := ⟨_, rfl⟩
        rw [← hm] at HS HP ⊢
        rw [← hv] at c1 HS HP
        clear hm hv hat
        by_cases hmv : m < v
        · have HN := Lib.hid (pickJ_yes (HP.out.trans (decide_eq_true hmv)))
          have HM : Hid ((L0.take (j + 1)).foldl max (-1) = v) := Lib.hid (by rw [HS.out]; omega)
          have hlen := pickJ_len (leftB L0) j
          have hbs := hb.size
          go_wp2_with (at_builtin; refine wpList_append_own _ rfl (.tmp 21) (.tmp 23) _ rfl w.heap.size 3 i0 _ 1 8 Try.underlying22 hi hz0 hz1 hz2 rfl (by decide) _ (pickJ (leftB L0) j).length ((pickJ (leftB L0) j).map (Value.int .i64)) rfl (World.ownsRow.alloc HO.out _) ⟨_, 0, none⟩ 1 1 [.int .i64 (j)] rfl rfl (World.news_of_block (cs := #[.int .i64 (j)]) (t := 3) (fr := (0, 0)) (by first | exact heap_alloc_new _ _ | exact heap_new_set _ _ _ _ _)) (by simp [Value.oneCell']) (by unfold maxLen; omega) (by omega) (by simp; omega) ?_; intro v' w3 hown' hgrow _)
          have HR : Hid (OwnInts w3 w.heap.size 3 v' (pickJ (leftB L0) (j + 1))) := Lib.hid (by rw [HN.out]; exact OwnInts.snoc hown')
          have HB3 : Hid (Below w.heap.size w w3) := Lib.hid ((hb.alloc hbs _).grown hgrow (by simp; omega) fun k hk => (World.ownsRow.lt HO.out k hk).1)
          clear hown' hgrow
          go_wp2
          go_roundw
          case rel => exact ⟨j + 1, by omega, by go_num, by rw [HM.out], HR.out, HB3.out⟩
          case measure => simp [intOf]; omega
        · have HN := Lib.hid (pickJ_no (HP.out.trans (decide_eq_false hmv)))
          have HM : Hid ((L0.take (j + 1)).foldl max (-1) = m) := Lib.hid (by rw [HS.out]; omega)
          go_wp2
          go_roundw
          case rel => exact ⟨j + 1, by omega, by go_num, by rw [HM.out], by rw [HN.out]; exact HO.out, hb⟩
          case measure => simp [intOf]; omega
      · obtain rfl : j = L0.length := by omega
        go_wp2
        go_ret2
        exact ⟨_, rfl, HO.out, hb⟩
end Go.Proofs.Ytnnhkogmppheeaa
