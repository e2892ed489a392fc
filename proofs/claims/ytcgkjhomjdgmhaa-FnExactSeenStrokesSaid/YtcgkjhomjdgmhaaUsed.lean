/- PaintUsed: the two functions, and the law's walk. No condition but the lists' and the texts' lengths. -/
import Derived.Test.YtcgkjhomjdgmhaaStrkList
namespace Go.Proofs.Ytcgkjhomjdgmhaa
open Go.RowKit

/-- how many boards the first j strokes paint together -/
def usedS (L : List Strk) (j : Nat) : Int := ((L.take j).map fun s => s.t - s.f + 1).sum
theorem usedS_succ (L : List Strk) (j : Nat) (h : j < L.length) : usedS L (j + 1) = usedS L j + (L[j].t - L[j].f + 1) := by
  unfold usedS; rw [List.take_succ_eq_append_getElem h, List.map_append, List.sum_append]; simp
theorem okS_nums {n : Nat} {s : Strk} (h : okS n s = true) : 0 ≤ s.f ∧ s.f ≤ s.t ∧ s.t < n ∧ s.c.size = 1 := by
  obtain ⟨a, b, c, d⟩ := okStroke_iff h
  exact ⟨a, b, c, isCol_size1 d⟩
theorem usedS_bd {n : Nat} {L : List Strk} (hn : n ≤ 20) (h : ∀ k (hk : k < L.length), okS n L[k] = true) : ∀ j, j ≤ L.length → 0 ≤ usedS L j ∧ usedS L j ≤ 20 * j
  | 0, _ => by simp [usedS]
  | j + 1, hj => by
    have ih := usedS_bd hn h j (by omega)
    obtain ⟨a, b, c, _⟩ := okS_nums (h j (by omega))
    rw [usedS_succ L j (by omega)]
    omega
theorem ret_ib {a b : Int} {x : Bool} (h : a = b) : Ending.returned (.tuple #[.int .i64 a, .bool x]) = .returned (.tuple #[.int .i64 b, .bool x]) := by rw [h]

set_option maxHeartbeats 1000000 in
theorem implUsed_any (s : ByteArray) (A : Option Addr) (cap : Nat) (L : List Strk) (w : World) (hz : s.size ≤ maxLen) (hl : L.length ≤ maxLen) (hs : Short L) (h : StrkSl w A L) :
    Calls Try.prog 78 #[.string s, .slice A L.length cap] w fun e w' => e = .returned (.tuple (if (okFence s && okList s.size L) = true then #[.int .i64 (usedS L L.length), .bool true] else #[.int .i64 0, .bool false])) ∧ Below w.heap.size w w' := by
  have hP := fun W hW => arePaintable_any s A cap L W hz hl hs hW
  cases hok : okFence s && okList s.size L
  · rw [hok] at hP
    rw [if_neg (by decide)]
    clear hok
    go_enter Try.func78, Try.ntmps78
    go_wp2_with (go_at_call 91; refine (hP _ h).mono ?_; rintro e w' ⟨rfl, hb⟩)
    go_ret2
    exact ⟨rfl, hb⟩
  · rw [hok] at hP
    rw [if_pos rfl]
    rw [Bool.and_eq_true] at hok
    obtain ⟨hof, hol⟩ := hok
    obtain ⟨_, h20⟩ := okFence_size hof
    obtain ⟨h40, hat⟩ := okList_at hol
    have HO := Lib.hid hat
    clear hof hol hat
    rcases Nat.eq_zero_or_pos L.length with h0 | h0
    · obtain rfl : L = [] := List.eq_nil_of_length_eq_zero h0
      clear hs hl h0 h40
      go_enter Try.func78, Try.ntmps78
      go_wp2_with (go_at_call 91; refine (hP _ h).mono ?_; rintro e w' ⟨rfl, hb⟩)
      refine wp_loop_rounds 1 ?_
      rw [rounds_succ]
      go_wp2
      go_ret2
      exact ⟨rfl, hb⟩
    · obtain ⟨g, off, rfl, hg, hat⟩ := h.some h0
      have HAT := Lib.hid hat
      have HP := Lib.hid (hP w h)
      clear hat h hP hs
      go_enter Try.func78, Try.ntmps78
      go_wp2_with (go_at_call 91; refine HP.out.mono ?_; rintro e w1 ⟨rfl, hb0⟩)
      go_loopw [6, 15] (fun u i wr => ∃ j : Nat, j ≤ L.length ∧ i = .int .i64 j ∧ u = .int .i64 (usedS L j) ∧ Below w.heap.size w wr) (fun _ i _ => L.length - (intOf i).toNat)
      case atStart => exact ⟨0, Nat.zero_le _, rfl, rfl, hb0⟩
      case round =>
        obtain ⟨j, hj, rfl, rfl, hb⟩ := hrel
        by_cases hlt : j < L.length
        · obtain ⟨c1, c2, c3⟩ := HAT.out.below hb hg j hlt
          obtain ⟨a1, a2, a3, _⟩ := okS_nums (HO.out j hlt)
          obtain ⟨b1, b2⟩ := usedS_bd h20 HO.out j hj
          have HU := Lib.hid (usedS_succ L j hlt)
          go_wp2
          go_roundw
          case rel => exact ⟨j + 1, by omega, by go_num, by rw [HU.out], hb.alloc hb.size _⟩
          case measure => simp [intOf]; omega
        · obtain rfl : j = L.length := by omega
          go_wp2
          go_ret2
          exact ⟨rfl, hb⟩

set_option maxHeartbeats 1000000 in
theorem specUsed_any (s : ByteArray) (A : Option Addr) (cap : Nat) (L : List Strk) (w : World) (hz : s.size ≤ maxLen) (hl : L.length ≤ maxLen) (hs : Short L) (h : StrkSl w A L) :
    Calls Try.prog 77 #[.string s, .slice A L.length cap] w fun e w' => e = .returned (.tuple (if (okFence s && okList s.size L) = true then #[.int .i64 (usedS L L.length), .bool true] else #[.int .i64 0, .bool false])) ∧ Below w.heap.size w w' := by
  have hP := fun W hW => stList_any s A cap L W hz hl hs hW
  cases hok : okFence s && okList s.size L
  · rw [hok] at hP
    rw [if_neg (by decide)]
    clear hok
    go_enter Try.func77, Try.ntmps77
    go_wp2_with (go_at_call 107; refine (hP _ h).mono ?_; rintro e w' ⟨rfl, hb⟩)
    go_ret2
    exact ⟨rfl, hb⟩
  · rw [hok] at hP
    rw [if_pos rfl]
    rw [Bool.and_eq_true] at hok
    obtain ⟨hof, hol⟩ := hok
    obtain ⟨_, h20⟩ := okFence_size hof
    obtain ⟨h40, hat⟩ := okList_at hol
    have HO := Lib.hid hat
    clear hof hol hat
    rcases Nat.eq_zero_or_pos L.length with h0 | h0
    · obtain rfl : L = [] := List.eq_nil_of_length_eq_zero h0
      clear hs hl h0 h40
      go_enter Try.func77, Try.ntmps77
      go_wp2_with (go_at_call 107; refine (hP _ h).mono ?_; rintro e w' ⟨rfl, hb⟩)
      refine wp_loop_rounds 1 ?_
      rw [rounds_succ]
      go_wp2
      go_ret2
      exact ⟨rfl, hb⟩
    · obtain ⟨g, off, rfl, hg, hat⟩ := h.some h0
      have HAT := Lib.hid hat
      have HP := Lib.hid (hP w h)
      clear hat h hP hs
      go_enter Try.func77, Try.ntmps77
      go_wp2_with (go_at_call 107; refine HP.out.mono ?_; rintro e w1 ⟨rfl, hb0⟩)
      go_loopw [6, 15] (fun u i wr => ∃ j : Nat, j ≤ L.length ∧ i = .int .i64 j ∧ u = .int .i64 (usedS L j) ∧ Below w.heap.size w wr) (fun _ i _ => L.length - (intOf i).toNat)
      case atStart => exact ⟨0, Nat.zero_le _, rfl, rfl, hb0⟩
      case round =>
        obtain ⟨j, hj, rfl, rfl, hb⟩ := hrel
        by_cases hlt : j < L.length
        · obtain ⟨c1, c2, c3⟩ := HAT.out.below hb hg j hlt
          obtain ⟨a1, a2, a3, _⟩ := okS_nums (HO.out j hlt)
          obtain ⟨b1, b2⟩ := usedS_bd h20 HO.out j hj
          have HU := Lib.hid (usedS_succ L j hlt)
          go_wp2
          go_roundw
          case rel => exact ⟨j + 1, by omega, by go_num, by rw [HU.out], hb.alloc hb.size _⟩
          case measure => simp [intOf]; omega
        · obtain rfl : j = L.length := by omega
          go_wp2
          go_ret2
          exact ⟨rfl, hb⟩

theorem Short_of_tot {L : List Strk} (h : totS L ≤ 1048576) : L.length ≤ 1048576 := by
  have := preS_le L 0; rw [preS_zero] at this; omega

set_option maxHeartbeats 1000000 in
theorem lawPaintUsed_walk (s : ByteArray) (A : Option Addr) (cap : Nat) (L : List Strk) (w : World) (hz : s.size ≤ maxLen) (hl : L.length ≤ maxLen) (hs : Short L) (h : StrkSl w A L) :
    Calls Try.prog 18 #[.string s, .slice A L.length cap] w fun e w' => e = .returned (.bool true) ∧ Below w.heap.size w w' := by
  have hz0 := hz
  have hl0 := hl
  unfold maxLen at hz hl
  by_cases hbig : s.size ≤ 1048576
  · by_cases htot : 1048576 < totS L
    · have HP := Lib.hid (szRes_no htot)
      go_enter Try.func18, Try.ntmps18
      go_wp2_with (go_at_call 63; refine (szStrokeS_any A cap L _ hl0 hs h).mono ?_; rintro e w1 ⟨rfl, hb⟩; rw [HP.out])
      go_ret
      exact ⟨rfl, hb⟩
    · have HP := Lib.hid (szRes_yes (L := L) (by omega))
      have hle : L.length ≤ 1048576 := Short_of_tot (by omega)
      obtain ⟨p, q, hp⟩ : ∃ (p : Int) (q : Bool), (if (okFence s && okList s.size L) = true then #[.int .i64 (usedS L L.length), .bool true] else #[.int .i64 0, .bool false] : Array Value) = #[.int .i64 p, .bool q] := by
        split
        · exact ⟨_, _, rfl⟩
        · exact ⟨_, _, rfl⟩
      have S := fun A cap (W : World) h => specUsed_any s A cap L W hz0 hl0 hs h
      have I := fun A cap (W : World) h => implUsed_any s A cap L W hz0 hl0 hs h
      rw [hp] at S I
      clear hp
      have HS := Lib.hid S
      have HI := Lib.hid I
      have hge : (0 : Int) ≤ 1048576 - (totS L : Int) := by omega
      clear S I
      go_enter Try.func18, Try.ntmps18
      go_wp2_with (first
        | (go_at_call 63; refine (szStrokeS_any A cap L _ hl0 hs h).mono ?_; rintro e w1 ⟨rfl, hb⟩; rw [HP.out])
        | (go_at_call 65; refine (toStrokeS_any A cap L _ hle (h.below hb)).mono ?_; rintro e w2 ⟨rfl, hown, hb2⟩; have hb := below_next hb hb2)
        | (go_at_call 77; refine (HS.out _ _ _ (StrkSl.of_own hown)).mono ?_; rintro e w2 ⟨rfl, hb2⟩; have hb := below_next hb hb2; have hown0 := own_below hown hb2)
        | (go_at_call 78; refine (HI.out _ _ _ (StrkSl.of_own hown)).mono ?_; rintro e w2 ⟨rfl, hb2⟩; have hb := below_next hb hb2; have hown1 := own_below hown hb2)
        | (go_at_call 66; refine (eqStrokeS_same _ _ _ _ L _ hle (StrkSl.of_own (own_below hown1 hb2)) (StrkSl.of_own hown)).mono ?_; rintro e w3 ⟨rfl, hb3⟩; have hb := below_next hb hb3))
      go_ret
      exact ⟨rfl, hb⟩
  · go_enter Try.func18, Try.ntmps18
    go_wp2
    go_ret
    exact ⟨rfl, Below.refl _ _⟩
end Go.Proofs.Ytcgkjhomjdgmhaa
