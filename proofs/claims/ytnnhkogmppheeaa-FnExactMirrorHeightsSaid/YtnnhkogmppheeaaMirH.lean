/- MirrorHeights and RaiseBoard of both sides. No condition but the list's length. -/
import Derived.Test.YtnnhkogmppheeaaPeaks
import Derived.Test.YtnnhkogmppheeaaRevClone
import Derived.Test.YtnnhkogmppheeaaOwnCopy
namespace Go.Proofs.Ytnnhkogmppheeaa
open Go.RowKit

def mirH (L : List Int) : List Int := if okH L = true then L.reverse else []
theorem mirH_len (L : List Int) : (mirH L).length ≤ 1048576 := by
  unfold mirH
  split
  · next h => have := okH_len h; rw [List.length_reverse]; omega
  · exact Nat.zero_le _
theorem mirH_no {L : List Int} (h : okH L = false) : mirH L = [] := by unfold mirH; rw [h]; rfl
theorem mirH_yes {L : List Int} (h : okH L = true) : mirH L = L.reverse := by unfold mirH; rw [h]; rfl
theorem rev_step {L : List Int} {j : Nat} (hj : j < L.length) : (L.drop j).reverse = (L.drop (j + 1)).reverse ++ [L[j]] := by
  rw [List.drop_eq_getElem_cons hj, List.reverse_cons]

theorem mirroredL_any (A : Option Addr) (c : Nat) (L : List Int) (w : World) (h0 : 0 < L.length) (hl : L.length ≤ 1048576) (h : IntSl w A L) :
    Calls Try.prog 89 #[.slice A L.length c] w fun e w' => ∃ g cap, e = .returned (.slice (some ⟨g, 0, none⟩) L.length cap) ∧ OwnInts w' w.heap.size 3 (.slice (some ⟨g, 0, none⟩) L.length cap) L.reverse ∧ Below w.heap.size w w' := by
  have HC := Lib.hid (clone_any A c L w h0 hl h)
  clear h
  go_enter Try.func89, Try.ntmps89
  go_wp2_with (first
    | (go_at_call 105; refine HC.out.mono ?_; rintro e w1 ⟨g, cap, rfl, hown, hb⟩; have HO := Lib.hid hown; clear hown)
    | (go_at_call 113; refine (reverse_own h0 hl HO.out).mono ?_; rintro e w2 ⟨rfl, hown2, hbb⟩))
  go_ret
  exact ⟨g, cap, rfl, hown2, hbb _ _ (Nat.le_refl _) hb⟩
theorem implMirrorHeights_any (A0 : Option Addr) (c0 : Nat) (L0 : List Int) (w : World) (l0 : L0.length ≤ 1048576) (_ : WfL L0) (_ : L0.length ≤ c0) (h0 : IntSl w A0 L0) :
    Calls Try.prog 63 #[.slice A0 L0.length c0] w fun e w' => ∃ v, e = .returned (.tuple #[v, .bool (okH L0)]) ∧ OwnInts w' w.heap.size 3 v (mirH L0) ∧ Below w.heap.size w w' := by
  have HG := Lib.hid (implHeights_any A0 c0 L0 w l0 h0)
  cases hk : okH L0
  · rw [mirH_no hk]
    rw [hk] at HG
    clear hk h0
    go_enter Try.func63, Try.ntmps63
    go_wp2_with fail
    refine HG.out.mono ?_
    rintro e w1 ⟨rfl, rfl⟩
    go_wp2
    go_ret2
    exact ⟨_, rfl, OwnInts.nil _ _ _, Below.refl _ _⟩
  · rw [mirH_yes hk]
    have hl := okH_len hk
    rw [hk] at HG
    have HC := Lib.hid (mirroredL_any A0 c0 L0 w (by omega) l0 h0)
    clear hk h0
    go_enter Try.func63, Try.ntmps63
    go_wp2_with fail
    refine HG.out.mono ?_
    rintro e w1 ⟨rfl, rfl⟩
    go_wp2_with fail
    refine HC.out.mono ?_
    rintro e w1 ⟨g, cap, rfl, hown, hb⟩
    have HO := Lib.hid hown
    have HB := Lib.hid hb
    clear hown hb
    go_wp2
    go_ret2
    exact ⟨_, rfl, HO.out, HB.out⟩

set_option maxRecDepth 20000 in
set_option maxHeartbeats 2000000 in
theorem specMirrorHeights_any (A0 : Option Addr) (c0 : Nat) (L0 : List Int) (w : World) (l0 : L0.length ≤ 1048576) (_ : WfL L0) (_ : L0.length ≤ c0) (h0 : IntSl w A0 L0) :
    Calls Try.prog 62 #[.slice A0 L0.length c0] w fun e w' => ∃ v, e = .returned (.tuple #[v, .bool (okH L0)]) ∧ OwnInts w' w.heap.size 3 v (mirH L0) ∧ Below w.heap.size w w' := by
  have HG := Lib.hid (caGood_any A0 c0 L0 w l0 h0)
  obtain ⟨i0, hi, hz0, hz1, hz2⟩ := info_parts info_int
  cases hk : okH L0
  · rw [mirH_no hk]
    rw [hk] at HG
    clear hk h0
    go_enter Try.func62, Try.ntmps62
    go_wp2_with fail
    refine HG.out.mono ?_
    rintro e w1 ⟨rfl, rfl⟩
    go_wp2
    go_ret2
    exact ⟨_, rfl, OwnInts.nil _ _ _, Below.refl _ _⟩
  · rw [mirH_yes hk]
    have hl := okH_len hk
    rw [hk] at HG
    have HSL := Lib.hid h0
    have HRS : Hid (∀ j (hj : j < L0.length), (L0.drop j).reverse = (L0.drop (j + 1)).reverse ++ [L0[j]]) := Lib.hid fun j hj => rev_step hj
    clear hk h0
    go_enter Try.func62, Try.ntmps62
    go_wp2_with fail
    refine HG.out.mono ?_
    rintro e w1 ⟨rfl, rfl⟩
    go_wp2
    go_loopw [4, 5] (fun v i wr => ∃ j : Nat, j ≤ L0.length ∧ i = .int .i64 ((j : Int) - 1) ∧ OwnInts wr w.heap.size 3 v (L0.drop j).reverse ∧ Below w.heap.size w wr) (fun _ i _ => (intOf i + 1).toNat)
    case atStart => exact ⟨L0.length, Nat.le_refl _, rfl, by rw [List.drop_length]; exact OwnInts.nil _ _ _, Below.refl _ _⟩
    case round =>
      obtain ⟨j, hj, rfl, hown, hb⟩ := hrel
      have HO := Lib.hid hown
      clear hown
      rcases Nat.eq_zero_or_pos j with hz | hz
      · subst hz
        go_wp2
        go_ret2
        exact ⟨_, rfl, by have := HO.out; rwa [List.drop_zero] at this, hb⟩
      · obtain ⟨p, rfl⟩ : ∃ p, j = p + 1 := ⟨j - 1, by omega⟩
        have hp : p < L0.length := by omega
        rw [show (((p + 1 : Nat) : Int) - 1) = (p : Int) by omega]
        obtain ⟨g, off, rfl, hg, hat⟩ := (HSL.out.below hb).some (by omega)
        have c1 := hat p hp
        have HS := Lib.hid (HRS.out p hp)
        obtain ⟨v, hv⟩ : ∃ v : Int, v = L0[p]'hp := ⟨_, rfl⟩
        rw [← hv] at c1 HS
        obtain ⟨T, hT⟩ : ∃ T, T = (L0.drop (p + 1)).reverse := ⟨_, rfl⟩
        rw [← hT] at HO HS
        have hlen : T.length ≤ 20 := by rw [hT, List.length_reverse, List.length_drop]; omega
        have hbs := hb.size
        have ip : (0 : Int) ≤ (p : Int) := by omega
        clear hv hT hat hj hz
        go_wp2_with (at_builtin; refine wpList_append_own _ rfl (.tmp 16) (.tmp 21) _ rfl w.heap.size 3 i0 _ 1 8 Try.underlying22 hi hz0 hz1 hz2 rfl (by decide) _ (T).length ((T).map (Value.int .i64)) rfl (World.ownsRow.alloc HO.out _) ⟨_, 0, none⟩ 1 1 [.int .i64 (v)] rfl rfl (World.news_of_block (cs := #[.int .i64 (v)]) (t := 3) (fr := (0, 0)) (by first | exact heap_alloc_new _ _ | exact heap_new_set _ _ _ _ _)) (by simp [Value.oneCell']) (by unfold maxLen; omega) (by omega) (by simp; omega) ?_; intro v' w3 hown' hgrow _)
        have HR : Hid (OwnInts w3 w.heap.size 3 v' (L0.drop p).reverse) := Lib.hid (by rw [HS.out]; exact OwnInts.snoc hown')
        have HB3 : Hid (Below w.heap.size w w3) := Lib.hid ((hb.alloc hbs _).grown hgrow (by simp; omega) fun k hk => (World.ownsRow.lt HO.out k hk).1)
        clear hown' hgrow
        go_wp2
        go_roundw
        case rel => exact ⟨p, by omega, by go_num, HR.out, HB3.out⟩
        case measure => simp [intOf]
end Go.Proofs.Ytnnhkogmppheeaa
