/- Tops and hollows: 'impl.boardsUnlikeBeside', the laws' two functions of the program. No condition but the lists' lengths. -/
import Derived.Test.YtnnhkogmppheeaaPeaks
namespace Go.Proofs.Ytnnhkogmppheeaa
open Go.RowKit

def peakR (R : Int → Int → Bool) (L : List Int) : List Int := if okH L = true then pickJ (upB R L) L.length else []
theorem peakR_len (R : Int → Int → Bool) (L : List Int) : (peakR R L).length ≤ 1048576 := by
  unfold peakR
  split
  · next h => have := okH_len h; have := pickJ_len (upB R L) L.length; omega
  · exact Nat.zero_le _
theorem peakR_no {R : Int → Int → Bool} {L : List Int} (h : okH L = false) : peakR R L = [] := by unfold peakR; rw [h]; rfl
theorem peakR_yes {R : Int → Int → Bool} {L : List Int} (h : okH L = true) : peakR R L = pickJ (upB R L) L.length := by unfold peakR; rw [h]; rfl
set_option maxRecDepth 20000 in
set_option maxHeartbeats 2000000 in
theorem topsBeside_any (A : Option Addr) (c : Nat) (L : List Int) (w : World) (hm : L.length ≤ 1048576) (h : IntSl w A L) :
    Calls Try.prog 95 #[.slice A L.length c, .func (.func 96) #[] #[]] w fun e w' => ∃ v, e = .returned (.tuple #[v, .bool (okH L)]) ∧ OwnInts w' w.heap.size 3 v (peakR higher L) ∧ Below w.heap.size w w' := by
  obtain ⟨W1, hW1⟩ : ∃ W1, W1 = w.alloc (.cells #[.slice A L.length c] 22) := ⟨_, rfl⟩
  obtain ⟨W2, hW2⟩ : ∃ W2, W2 = W1.alloc (.cells #[.func (.func 96) #[] #[]] 69) := ⟨_, rfl⟩
  have hs1 : W1.heap.size = w.heap.size + 1 := by rw [hW1]; simp
  have hs2 : W2.heap.size = w.heap.size + 2 := by rw [hW2]; simp [hs1]
  have hB1 : Below w.heap.size w W1 := by rw [hW1]; exact below_new w _
  have hB2 : Below w.heap.size w W2 := by rw [hW2]; exact below_next hB1 (below_new W1 _)
  have k1a : W1.cell? ⟨w.heap.size, 0, none⟩ = some (.slice A L.length c) := by rw [hW1, cell_of_row _ w.heap.size 0 _ _ (0, 0) (heap_alloc_new w _)]; rfl
  have k1 : W2.cell? ⟨w.heap.size, 0, none⟩ = some (.slice A L.length c) := by rw [hW2]; exact ((below_new W1 _).cell (p := ⟨w.heap.size, 0, none⟩) (by show w.heap.size < _; omega)).trans k1a
  have k2 : W2.cell? ⟨w.heap.size + 1, 0, none⟩ = some (.func (.func 96) #[] #[]) := by rw [← hs1, hW2, cell_of_row _ W1.heap.size 0 _ _ (0, 0) (heap_alloc_new W1 _)]; rfl
  have hsl : IntSl W2 A L := h.below hB2
  have HG := Lib.hid (implHeights_any A c L W2 hm hsl)
  cases hk : okH L
  · rw [peakR_no hk]
    rw [hk] at HG
    have HB2 := Lib.hid hB2
    have K1 := Lib.hid k1
    rw [hW2, hW1] at HG HB2 K1
    have k1' := K1.out
    clear hk hW1 hW2 hs1 hs2 hB1 hB2 k1a k1 k2 hsl h K1
    go_enter Try.func95, Try.ntmps95
    go_wp2_with fail
    refine HG.out.mono ?_
    rintro e w1 ⟨rfl, rfl⟩
    go_wp2
    go_ret2
    exact ⟨_, rfl, OwnInts.nil _ _ _, HB2.out⟩
  · obtain ⟨l1, l20⟩ := okH_len hk
    rw [peakR_yes hk]
    rw [hk] at HG
    have HC := Lib.hid (whereUnlike_any w.heap.size (w.heap.size + 1) L.length (upB higher L) W2 (by omega) (fun i W hi hW =>
      (unlikeT_any w.heap.size (w.heap.size + 1) i A c L W hi l20 ((hW.cell (p := ⟨w.heap.size, 0, none⟩) (by show w.heap.size < _; omega)).trans k1)
        ((hW.cell (p := ⟨w.heap.size + 1, 0, none⟩) (by show w.heap.size + 1 < _; omega)).trans k2) (hsl.below hW)).mono fun _ _ h => ⟨h.1, by obtain ⟨d, hd⟩ := h.2; rw [hd]; exact below_drewN (Below.refl _ _) d⟩))
    have HB2 := Lib.hid hB2
    have K1 := Lib.hid k1
    have HS2 := Lib.hid hs2
    rw [hW2, hW1] at HG HB2 K1 HC HS2
    have k1' := K1.out
    rw [show ((w.alloc (.cells #[.slice A L.length c] 22)).alloc (.cells #[.func (.func 96) #[] #[]] 69)).heap.size = w.heap.size + 2 from HS2.out] at HC
    have hz : (w.alloc (.cells #[.slice A L.length c] 22)).heap.size = w.heap.size + 1 := by simp
    clear hk hW1 hW2 hs1 hs2 hB1 hB2 k1a k1 k2 hsl h K1
    go_enter Try.func95, Try.ntmps95
    go_wp2_with fail
    refine HG.out.mono ?_
    rintro e w1 ⟨rfl, rfl⟩
    go_wp2_with fail
    refine HC.out.mono ?_
    rintro e w1 ⟨v, rfl, hown, hb⟩
    have HO := Lib.hid (hown.mono (by omega : w.heap.size ≤ w.heap.size + 2))
    have HB := Lib.hid (HB2.out.trans (hb.mono (by omega : w.heap.size ≤ w.heap.size + 2)))
    clear hown hb
    go_wp2
    go_ret2
    exact ⟨_, rfl, HO.out, HB.out⟩
theorem implTopsOf_any (A0 : Option Addr) (c0 : Nat) (L0 : List Int) (w : World) (l0 : L0.length ≤ 1048576) (_ : WfL L0) (_ : L0.length ≤ c0) (h0 : IntSl w A0 L0) :
    Calls Try.prog 51 #[.slice A0 L0.length c0] w fun e w' => ∃ v, e = .returned (.tuple #[v, .bool (okH L0)]) ∧ OwnInts w' w.heap.size 3 v (peakR higher L0) ∧ Below w.heap.size w w' := by
  have HC := Lib.hid (topsBeside_any A0 c0 L0 w l0 h0)
  clear h0
  go_enter Try.func51, Try.ntmps51
  go_wp2_with fail
  refine HC.out.mono ?_
  rintro e w1 ⟨v, rfl, hown, hb⟩
  have HO := Lib.hid hown
  have HB := Lib.hid hb
  clear hown hb HC
  go_wp2
  go_ret2
  exact ⟨_, rfl, HO.out, HB.out⟩
set_option maxRecDepth 20000 in
set_option maxHeartbeats 2000000 in
theorem hollowsBeside_any (A : Option Addr) (c : Nat) (L : List Int) (w : World) (hm : L.length ≤ 1048576) (h : IntSl w A L) :
    Calls Try.prog 95 #[.slice A L.length c, .func (.func 97) #[] #[]] w fun e w' => ∃ v, e = .returned (.tuple #[v, .bool (okH L)]) ∧ OwnInts w' w.heap.size 3 v (peakR lower L) ∧ Below w.heap.size w w' := by
  obtain ⟨W1, hW1⟩ : ∃ W1, W1 = w.alloc (.cells #[.slice A L.length c] 22) := ⟨_, rfl⟩
  obtain ⟨W2, hW2⟩ : ∃ W2, W2 = W1.alloc (.cells #[.func (.func 97) #[] #[]] 69) := ⟨_, rfl⟩
  have hs1 : W1.heap.size = w.heap.size + 1 := by rw [hW1]; simp
  have hs2 : W2.heap.size = w.heap.size + 2 := by rw [hW2]; simp [hs1]
  have hB1 : Below w.heap.size w W1 := by rw [hW1]; exact below_new w _
  have hB2 : Below w.heap.size w W2 := by rw [hW2]; exact below_next hB1 (below_new W1 _)
  have k1a : W1.cell? ⟨w.heap.size, 0, none⟩ = some (.slice A L.length c) := by rw [hW1, cell_of_row _ w.heap.size 0 _ _ (0, 0) (heap_alloc_new w _)]; rfl
  have k1 : W2.cell? ⟨w.heap.size, 0, none⟩ = some (.slice A L.length c) := by rw [hW2]; exact ((below_new W1 _).cell (p := ⟨w.heap.size, 0, none⟩) (by show w.heap.size < _; omega)).trans k1a
  have k2 : W2.cell? ⟨w.heap.size + 1, 0, none⟩ = some (.func (.func 97) #[] #[]) := by rw [← hs1, hW2, cell_of_row _ W1.heap.size 0 _ _ (0, 0) (heap_alloc_new W1 _)]; rfl
  have hsl : IntSl W2 A L := h.below hB2
  have HG := Lib.hid (implHeights_any A c L W2 hm hsl)
  cases hk : okH L
  · rw [peakR_no hk]
    rw [hk] at HG
    have HB2 := Lib.hid hB2
    have K1 := Lib.hid k1
    rw [hW2, hW1] at HG HB2 K1
    have k1' := K1.out
    clear hk hW1 hW2 hs1 hs2 hB1 hB2 k1a k1 k2 hsl h K1
    go_enter Try.func95, Try.ntmps95
    go_wp2_with fail
    refine HG.out.mono ?_
    rintro e w1 ⟨rfl, rfl⟩
    go_wp2
    go_ret2
    exact ⟨_, rfl, OwnInts.nil _ _ _, HB2.out⟩
  · obtain ⟨l1, l20⟩ := okH_len hk
    rw [peakR_yes hk]
    rw [hk] at HG
    have HC := Lib.hid (whereUnlike_any w.heap.size (w.heap.size + 1) L.length (upB lower L) W2 (by omega) (fun i W hi hW =>
      (unlikeH_any w.heap.size (w.heap.size + 1) i A c L W hi l20 ((hW.cell (p := ⟨w.heap.size, 0, none⟩) (by show w.heap.size < _; omega)).trans k1)
        ((hW.cell (p := ⟨w.heap.size + 1, 0, none⟩) (by show w.heap.size + 1 < _; omega)).trans k2) (hsl.below hW)).mono fun _ _ h => ⟨h.1, by obtain ⟨d, hd⟩ := h.2; rw [hd]; exact below_drewN (Below.refl _ _) d⟩))
    have HB2 := Lib.hid hB2
    have K1 := Lib.hid k1
    have HS2 := Lib.hid hs2
    rw [hW2, hW1] at HG HB2 K1 HC HS2
    have k1' := K1.out
    rw [show ((w.alloc (.cells #[.slice A L.length c] 22)).alloc (.cells #[.func (.func 97) #[] #[]] 69)).heap.size = w.heap.size + 2 from HS2.out] at HC
    have hz : (w.alloc (.cells #[.slice A L.length c] 22)).heap.size = w.heap.size + 1 := by simp
    clear hk hW1 hW2 hs1 hs2 hB1 hB2 k1a k1 k2 hsl h K1
    go_enter Try.func95, Try.ntmps95
    go_wp2_with fail
    refine HG.out.mono ?_
    rintro e w1 ⟨rfl, rfl⟩
    go_wp2_with fail
    refine HC.out.mono ?_
    rintro e w1 ⟨v, rfl, hown, hb⟩
    have HO := Lib.hid (hown.mono (by omega : w.heap.size ≤ w.heap.size + 2))
    have HB := Lib.hid (HB2.out.trans (hb.mono (by omega : w.heap.size ≤ w.heap.size + 2)))
    clear hown hb
    go_wp2
    go_ret2
    exact ⟨_, rfl, HO.out, HB.out⟩
theorem implHollowsOf_any (A0 : Option Addr) (c0 : Nat) (L0 : List Int) (w : World) (l0 : L0.length ≤ 1048576) (_ : WfL L0) (_ : L0.length ≤ c0) (h0 : IntSl w A0 L0) :
    Calls Try.prog 53 #[.slice A0 L0.length c0] w fun e w' => ∃ v, e = .returned (.tuple #[v, .bool (okH L0)]) ∧ OwnInts w' w.heap.size 3 v (peakR lower L0) ∧ Below w.heap.size w w' := by
  have HC := Lib.hid (hollowsBeside_any A0 c0 L0 w l0 h0)
  clear h0
  go_enter Try.func53, Try.ntmps53
  go_wp2_with fail
  refine HC.out.mono ?_
  rintro e w1 ⟨v, rfl, hown, hb⟩
  have HO := Lib.hid hown
  have HB := Lib.hid hb
  clear hown hb HC
  go_wp2
  go_ret2
  exact ⟨_, rfl, HO.out, HB.out⟩
end Go.Proofs.Ytnnhkogmppheeaa
