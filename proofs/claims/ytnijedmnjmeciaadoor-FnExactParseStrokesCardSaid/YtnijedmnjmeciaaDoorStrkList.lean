/- Lists of strokes of a fence: 'spec.stList', 'impl.areStrokesOf', 'impl.arePaintable'. No condition but the lists' and the texts' lengths. -/
import Derived.Test.YtnijedmnjmeciaaDoorStrks
namespace Go.Proofs.YtnijedmnjmeciaaDoor
open Go.RowKit

def okS (n : Nat) (s : Strk) : Bool := okStroke n s.f s.t s.c
/-- a list of strokes of so many boards -/
def okList (n : Nat) (L : List Strk) : Bool := decide (L.length ≤ 40) && L.all (okS n)
theorem okList_long {n : Nat} {L : List Strk} (h : 40 < L.length) : okList n L = false := by
  unfold okList; rw [decide_eq_false (by omega)]; rfl
theorem okList_end {n : Nat} {L : List Strk} (h : L.length ≤ 40) (ha : (L.take L.length).all (okS n) = true) : okList n L = true := by
  rw [List.take_length] at ha
  unfold okList; rw [decide_eq_true h, ha]; rfl
theorem okList_no {n : Nat} {L : List Strk} (k : Nat) (hk : k < L.length) (h : okS n L[k] = false) : okList n L = false := by
  have : L.all (okS n) = false := by
    rw [List.all_eq_false]
    exact ⟨L[k], List.getElem_mem hk, by rw [h]; decide⟩
  unfold okList; rw [this, Bool.and_false]
theorem allS_succ {n : Nat} {L : List Strk} (k : Nat) (hk : k < L.length) (h : (L.take k).all (okS n) = true) (h2 : okS n L[k] = true) : (L.take (k + 1)).all (okS n) = true := by
  rw [List.take_succ_eq_append_getElem hk, List.all_append, h]; simp [h2]
theorem okList_at {n : Nat} {L : List Strk} (h : okList n L = true) : L.length ≤ 40 ∧ ∀ k (hk : k < L.length), okS n L[k] = true := by
  unfold okList at h
  rw [Bool.and_eq_true, decide_eq_true_iff, List.all_eq_true] at h
  exact ⟨h.1, fun k hk => h.2 _ (List.getElem_mem hk)⟩
theorem StrkSl.some {w : World} {A : Option Addr} {L : List Strk} (h : StrkSl w A L) (h0 : 0 < L.length) : ∃ g off, A = some ⟨g, off, none⟩ ∧ g < w.heap.size ∧ StrkAt w g off L := by
  rcases h with h | h
  · subst h; simp at h0
  · exact h

set_option maxHeartbeats 1000000 in
theorem areStrokesOf_any (n : Nat) (A : Option Addr) (cap : Nat) (L : List Strk) (w : World) (hl : L.length ≤ maxLen) (hs : Short L) (h : StrkSl w A L) :
    Calls Tryd.prog 22 #[.int .i64 n, .slice A L.length cap] w fun e w' => e = .returned (.bool (okList n L)) ∧ Below w.heap.size w w' := by
  unfold maxLen at hl
  by_cases hbig : 40 < L.length
  · have H := Lib.hid (okList_long (n := n) hbig)
    go_enter Tryd.func22, Tryd.ntmps22
    go_wp2
    go_ret
    exact ⟨ret_bool H.out.symm, Below.refl _ _⟩
  · rcases Nat.eq_zero_or_pos L.length with h0 | h0
    · obtain rfl : L = [] := List.eq_nil_of_length_eq_zero h0
      clear h hs hbig hl h0
      go_enter Tryd.func22, Tryd.ntmps22
      go_wp2
      refine wp_loop_rounds 1 ?_
      rw [rounds_succ]
      go_wp2
      go_ret
      exact ⟨rfl, Below.refl _ _⟩
    · obtain ⟨g, off, rfl, hg, hat⟩ := h.some h0
      clear h
      have HAT := Lib.hid hat
      have HS := Lib.hid hs
      clear hat hs
      go_enter Tryd.func22, Tryd.ntmps22
      go_wp2
      go_loopw [12] (fun i wr => ∃ j : Nat, j ≤ L.length ∧ i = .int .i64 j ∧ (L.take j).all (okS n) = true ∧ Below w.heap.size w wr) (fun i _ => L.length - (intOf i).toNat)
      case atStart => exact ⟨0, Nat.zero_le _, rfl, rfl, Below.refl _ _⟩
      case round =>
        obtain ⟨j, hj, rfl, hall, hb⟩ := hrel
        have HA := Lib.hid hall
        clear hall
        by_cases hlt : j < L.length
        · obtain ⟨c1, c2, c3⟩ := HAT.out.below hb hg j hlt
          have hsz := HS.out j hlt
          cases hok : okS n L[j]
          · have HN := Lib.hid (okList_no j hlt hok)
            have HK : Hid (okStroke n L[j].f L[j].t L[j].c = false) := Lib.hid hok
            clear hok
            go_wp2_with (go_at_call 38; refine (isStrokeOf_any n _ _ _ _ hsz).mono ?_; rintro e w1 ⟨rfl, hb1⟩; rw [HK.out])
            go_ret
            exact ⟨ret_bool HN.out.symm, below_next hb (below_box hb1)⟩
          · have HN := Lib.hid (allS_succ j hlt HA.out hok)
            have HK : Hid (okStroke n L[j].f L[j].t L[j].c = true) := Lib.hid hok
            clear hok
            go_wp2_with (go_at_call 38; refine (isStrokeOf_any n _ _ _ _ hsz).mono ?_; rintro e w1 ⟨rfl, hb1⟩; rw [HK.out])
            go_roundw
            case rel => exact ⟨j + 1, by omega, by go_num, HN.out, below_next hb (below_box hb1)⟩
            case measure => simp [intOf]; omega
        · obtain rfl : j = L.length := by omega
          have HN := Lib.hid (okList_end (by omega) HA.out)
          go_wp2
          go_ret
          exact ⟨ret_bool HN.out.symm, hb⟩

set_option maxHeartbeats 1000000 in
theorem stList_any (s : ByteArray) (A : Option Addr) (cap : Nat) (L : List Strk) (w : World) (hz : s.size ≤ maxLen) (hl : L.length ≤ maxLen) (hs : Short L) (h : StrkSl w A L) :
    Calls Tryd.prog 18 #[.string s, .slice A L.length cap] w fun e w' => e = .returned (.bool (okFence s && okList s.size L)) ∧ Below w.heap.size w w' := by
  unfold maxLen at hl
  cases hf : okFence s
  · have H := Lib.hid hf; clear hf
    go_enter Tryd.func18, Tryd.ntmps18
    go_wp2_with (go_at_call 35; refine (stGood_any s _ hz).mono ?_; rintro e w' ⟨rfl, rfl⟩; rw [H.out])
    go_ret
    exact ⟨rfl, Below.refl _ _⟩
  · obtain ⟨_, h20⟩ := okFence_size hf
    have H := Lib.hid hf; clear hf
    by_cases hbig : 40 < L.length
    · have HB := Lib.hid (okList_long (n := s.size) hbig)
      go_enter Tryd.func18, Tryd.ntmps18
      go_wp2_with (go_at_call 35; refine (stGood_any s _ hz).mono ?_; rintro e w' ⟨rfl, rfl⟩; rw [H.out])
      go_ret
      exact ⟨ret_bool HB.out.symm, Below.refl _ _⟩
    · rcases Nat.eq_zero_or_pos L.length with h0 | h0
      · obtain rfl : L = [] := List.eq_nil_of_length_eq_zero h0
        clear h hs hbig hl h0
        go_enter Tryd.func18, Tryd.ntmps18
        go_wp2_with (go_at_call 35; refine (stGood_any s _ hz).mono ?_; rintro e w' ⟨rfl, rfl⟩; rw [H.out])
        refine wp_loop_rounds 1 ?_
        rw [rounds_succ]
        go_wp2
        go_ret
        exact ⟨rfl, Below.refl _ _⟩
      · obtain ⟨g, off, rfl, hg, hat⟩ := h.some h0
        clear h
        have HAT := Lib.hid hat
        have HS := Lib.hid hs
        clear hat hs
        go_enter Tryd.func18, Tryd.ntmps18
        go_wp2_with (go_at_call 35; refine (stGood_any s _ hz).mono ?_; rintro e w' ⟨rfl, rfl⟩; rw [H.out])
        go_loopw [17] (fun i wr => ∃ j : Nat, j ≤ L.length ∧ i = .int .i64 j ∧ (L.take j).all (okS s.size) = true ∧ Below w.heap.size w wr) (fun i _ => L.length - (intOf i).toNat)
        case atStart => exact ⟨0, Nat.zero_le _, rfl, rfl, Below.refl _ _⟩
        case round =>
          obtain ⟨j, hj, rfl, hall, hb⟩ := hrel
          have HA := Lib.hid hall
          clear hall
          by_cases hlt : j < L.length
          · obtain ⟨c1, c2, c3⟩ := HAT.out.below hb hg j hlt
            have hsz := HS.out j hlt
            cases hok : okS s.size L[j]
            · have HN := Lib.hid (okList_no j hlt hok)
              have HK : Hid (okStroke s.size L[j].f L[j].t L[j].c = false) := Lib.hid hok
              clear hok
              go_wp2_with (go_at_call 36; refine (stIs_any s.size _ _ _ _ h20 hsz).mono ?_; rintro e w1 ⟨rfl, hb1⟩; rw [HK.out])
              go_ret
              exact ⟨ret_bool HN.out.symm, below_next hb (below_box hb1)⟩
            · have HN := Lib.hid (allS_succ j hlt HA.out hok)
              have HK : Hid (okStroke s.size L[j].f L[j].t L[j].c = true) := Lib.hid hok
              clear hok
              go_wp2_with (go_at_call 36; refine (stIs_any s.size _ _ _ _ h20 hsz).mono ?_; rintro e w1 ⟨rfl, hb1⟩; rw [HK.out])
              go_roundw
              case rel => exact ⟨j + 1, by omega, by go_num, HN.out, below_next hb (below_box hb1)⟩
              case measure => simp [intOf]; omega
          · obtain rfl : j = L.length := by omega
            have HN := Lib.hid (okList_end (by omega) HA.out)
            go_wp2
            go_ret
            exact ⟨ret_bool HN.out.symm, hb⟩
end Go.Proofs.YtnijedmnjmeciaaDoor
