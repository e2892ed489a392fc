/- PaintAll: the two functions, and the law's walk. No condition but the lists' and the texts' lengths. -/
import Derived.Test.YtcgkjhomjdgmhaaUsed
namespace Go.Proofs.Ytcgkjhomjdgmhaa
open Go.RowKit

def paintK (s : ByteArray) (x : Strk) : ByteArray := paintS s x.f.toNat x.t.toNat x.c
/-- a fence behind the first j strokes of a list -/
def paintJ (s : ByteArray) (L : List Strk) (j : Nat) : ByteArray := (L.take j).foldl paintK s
theorem paintJ_succ (s : ByteArray) (L : List Strk) (j : Nat) (h : j < L.length) : paintJ s L (j + 1) = paintK (paintJ s L j) L[j] := by
  unfold paintJ; rw [List.take_succ_eq_append_getElem h, List.foldl_append]; rfl
theorem paintS_size {s : ByteArray} {f t : Nat} {c : ByteArray} (h1 : f ≤ t) (h2 : t < s.size) (hc : c.size = 1) : (paintS s f t c).size = s.size := by
  unfold paintS
  rw [ByteArray.size_append, ByteArray.size_append, repC_size, ByteArray.size_extract, ByteArray.size_extract, hc]
  omega
theorem paintJ_size {s : ByteArray} {L : List Strk} (h : ∀ k (hk : k < L.length), okS s.size L[k] = true) : ∀ j, j ≤ L.length → (paintJ s L j).size = s.size
  | 0, _ => rfl
  | j + 1, hj => by
    have ih := paintJ_size h j (by omega)
    obtain ⟨a, b, c, d⟩ := okS_nums (h j (by omega))
    rw [paintJ_succ s L j (by omega)]
    unfold paintK
    rw [paintS_size (by omega) (by omega) d, ih]

set_option maxHeartbeats 1000000 in
theorem stAll_any (s : ByteArray) (A : Option Addr) (cap : Nat) (L : List Strk) (w : World) (h20 : s.size ≤ 20) (h40 : L.length ≤ 40) (hat : ∀ k (hk : k < L.length), okS s.size L[k] = true) (h : StrkSl w A L) :
    Calls Try.prog 108 #[.string s, .slice A L.length cap] w fun e w' => e = .returned (.string (paintJ s L L.length)) ∧ Below w.heap.size w w' := by
  have HO := Lib.hid hat
  clear hat
  rcases Nat.eq_zero_or_pos L.length with h0 | h0
  · obtain rfl : L = [] := List.eq_nil_of_length_eq_zero h0
    clear h h0 h40 HO
    go_enter Try.func108, Try.ntmps108
    go_wp2
    refine wp_loop_rounds 1 ?_
    rw [rounds_succ]
    go_wp2
    go_ret
    exact ⟨rfl, Below.refl _ _⟩
  · obtain ⟨g, off, rfl, hg, hat⟩ := h.some h0
    have HAT := Lib.hid hat
    clear hat h
    go_enter Try.func108, Try.ntmps108
    go_wp2
    go_loopw [0, 9] (fun u i wr => ∃ j : Nat, j ≤ L.length ∧ i = .int .i64 j ∧ u = .string (paintJ s L j) ∧ Below w.heap.size w wr) (fun _ i _ => L.length - (intOf i).toNat)
    case atStart => exact ⟨0, Nat.zero_le _, rfl, rfl, Below.refl _ _⟩
    case round =>
      obtain ⟨j, hj, rfl, rfl, hb⟩ := hrel
      by_cases hlt : j < L.length
      · obtain ⟨c1, c2, c3⟩ := HAT.out.below hb hg j hlt
        obtain ⟨a1, a2, a3, a4⟩ := okS_nums (HO.out j hlt)
        have hsz := Lib.hid (paintJ_size HO.out j hj)
        have HU := Lib.hid (paintJ_succ s L j hlt)
        have hcall := fun W : World => stPaint_any (paintJ s L j) L[j].f.toNat L[j].t.toNat L[j].c W (by rw [hsz.out]; exact h20) (by omega) (by omega) (by rw [hsz.out]; omega)
        rw [Int.toNat_of_nonneg a1, Int.toNat_of_nonneg (Int.le_trans a1 a2)] at hcall
        have HC := Lib.hid hcall
        clear hcall
        go_wp2_with (go_at_call 106; refine (HC.out _).mono ?_; rintro e w1 ⟨rfl, hb1⟩)
        go_roundw
        case rel => exact ⟨j + 1, by omega, by go_num, by rw [HU.out]; rfl, below_next hb (below_box hb1)⟩
        case measure => simp [intOf]; omega
      · obtain rfl : j = L.length := by omega
        go_wp2
        go_ret
        exact ⟨rfl, hb⟩

/-- a fence behind the first j strokes of a list, the one with the index x left out -/
def paintX (s : ByteArray) (L : List Strk) (x : Nat) : Nat → ByteArray
  | 0 => s
  | j + 1 => if j = x then paintX s L x j else match L[j]? with | some y => paintK (paintX s L x j) y | none => paintX s L x j
theorem paintX_skip (s : ByteArray) (L : List Strk) (x : Nat) : paintX s L x (x + 1) = paintX s L x x := by
  rw [paintX, if_pos rfl]
theorem paintX_step (s : ByteArray) (L : List Strk) (x j : Nat) (h : j < L.length) (hx : j ≠ x) : paintX s L x (j + 1) = paintK (paintX s L x j) L[j] := by
  rw [paintX, if_neg hx, List.getElem?_eq_getElem h]
theorem paintX_all (s : ByteArray) (L : List Strk) : ∀ j, j ≤ L.length → paintX s L L.length j = paintJ s L j
  | 0, _ => rfl
  | j + 1, hj => by
    rw [paintX_step s L _ j (by omega) (by omega), paintX_all s L j (by omega), paintJ_succ s L j (by omega)]
theorem paintX_size {s : ByteArray} {L : List Strk} (x : Nat) (h : ∀ k (hk : k < L.length), okS s.size L[k] = true) : ∀ j, j ≤ L.length → (paintX s L x j).size = s.size
  | 0, _ => rfl
  | j + 1, hj => by
    have ih := paintX_size x h j (by omega)
    by_cases hx : j = x
    · subst hx; rw [paintX_skip, ih]
    · obtain ⟨a, b, c, d⟩ := okS_nums (h j (by omega))
      rw [paintX_step s L x j (by omega) hx]
      unfold paintK
      rw [paintS_size (by omega) (by omega) d, ih]

set_option maxHeartbeats 1000000 in
theorem paintedWithout_any (s : ByteArray) (A : Option Addr) (cap : Nat) (L : List Strk) (x : Nat) (w : World) (h20 : s.size ≤ 20) (h40 : L.length ≤ 40) (hat : ∀ k (hk : k < L.length), okS s.size L[k] = true) (h : StrkSl w A L) :
    Calls Try.prog 92 #[.string s, .slice A L.length cap, .int .i64 x] w fun e w' => e = .returned (.string (paintX s L x L.length)) ∧ Below w.heap.size w w' := by
  have HO := Lib.hid hat
  clear hat
  rcases Nat.eq_zero_or_pos L.length with h0 | h0
  · obtain rfl : L = [] := List.eq_nil_of_length_eq_zero h0
    clear h h0 h40 HO
    go_enter Try.func92, Try.ntmps92
    go_wp2
    refine wp_loop_rounds 1 ?_
    rw [rounds_succ]
    go_wp2
    go_ret
    exact ⟨rfl, Below.refl _ _⟩
  · obtain ⟨g, off, rfl, hg, hat⟩ := h.some h0
    have HAT := Lib.hid hat
    clear hat h
    go_enter Try.func92, Try.ntmps92
    go_wp2
    go_loopw [0, 11] (fun u i wr => ∃ j : Nat, j ≤ L.length ∧ i = .int .i64 j ∧ u = .string (paintX s L x j) ∧ Below w.heap.size w wr) (fun _ i _ => L.length - (intOf i).toNat)
    case atStart => exact ⟨0, Nat.zero_le _, rfl, rfl, Below.refl _ _⟩
    case round =>
      obtain ⟨j, hj, rfl, rfl, hb⟩ := hrel
      by_cases hlt : j < L.length
      · obtain ⟨c1, c2, c3⟩ := HAT.out.below hb hg j hlt
        by_cases hx : j = x
        · subst hx
          have HU := Lib.hid (paintX_skip s L j)
          go_wp2
          go_roundw
          case rel => exact ⟨j + 1, by omega, by go_num, by rw [HU.out], hb.alloc hb.size _⟩
          case measure => simp [intOf]; omega
        · obtain ⟨a1, a2, a3, a4⟩ := okS_nums (HO.out j hlt)
          have hsz := Lib.hid (paintX_size x HO.out j hj)
          have HU := Lib.hid (paintX_step s L x j hlt hx)
          have hcall := fun W : World => painted_any (paintX s L x j) L[j].f.toNat L[j].t.toNat L[j].c W (by rw [hsz.out]; exact h20) (by omega) (by omega) (by rw [hsz.out]; omega)
          rw [Int.toNat_of_nonneg a1, Int.toNat_of_nonneg (Int.le_trans a1 a2)] at hcall
          have HC := Lib.hid hcall
          have hne : ((j : Int) == (x : Int)) = false := by rw [beq_eq_false_iff_ne]; omega
          have hne' : ((j : Int) != (x : Int)) = true := by rw [bne_iff_ne]; omega
          clear hcall hx
          go_wp2_with (go_at_call 85; refine (HC.out _).mono ?_; rintro e w1 ⟨rfl, hb1⟩)
          go_roundw
          case rel => exact ⟨j + 1, by omega, by go_num, by rw [HU.out]; rfl, below_next hb (below_box hb1)⟩
          case measure => simp [intOf]; omega
      · obtain rfl : j = L.length := by omega
        go_wp2
        go_ret
        exact ⟨rfl, hb⟩

set_option maxHeartbeats 400000 in
theorem specAll_any (s : ByteArray) (A : Option Addr) (cap : Nat) (L : List Strk) (w : World) (hz : s.size ≤ maxLen) (hl : L.length ≤ maxLen) (hs : Short L) (h : StrkSl w A L) :
    Calls Try.prog 64 #[.string s, .slice A L.length cap] w fun e w' => e = .returned (.tuple (if (okFence s && okList s.size L) = true then #[.string (paintJ s L L.length), .bool true] else #[.string ⟨#[]⟩, .bool false])) ∧ Below w.heap.size w w' := by
  have hP := fun W hW => stList_any s A cap L W hz hl hs hW
  cases hok : okFence s && okList s.size L
  · rw [hok] at hP
    rw [if_neg (by decide)]
    clear hok
    go_enter Try.func64, Try.ntmps64
    go_wp2_with (go_at_call 107; refine (hP _ h).mono ?_; rintro e w' ⟨rfl, hb⟩)
    go_ret2
    exact ⟨rfl, hb⟩
  · rw [hok] at hP
    rw [if_pos rfl]
    rw [Bool.and_eq_true] at hok
    obtain ⟨_, h20⟩ := okFence_size hok.1
    obtain ⟨h40, hat⟩ := okList_at hok.2
    have HP := Lib.hid (hP w h)
    have HC := Lib.hid fun W hW => stAll_any s A cap L W h20 h40 hat hW
    clear hok hP hat
    go_enter Try.func64, Try.ntmps64
    go_wp2_with (first
      | (go_at_call 107; refine HP.out.mono ?_; rintro e w1 ⟨rfl, hb⟩)
      | (go_at_call 108; refine (HC.out _ (h.below hb)).mono ?_; rintro e w2 ⟨rfl, hb2⟩))
    go_ret2
    exact ⟨rfl, below_next hb hb2⟩

set_option maxHeartbeats 400000 in
theorem implAll_any (s : ByteArray) (A : Option Addr) (cap : Nat) (L : List Strk) (w : World) (hz : s.size ≤ maxLen) (hl : L.length ≤ maxLen) (hs : Short L) (h : StrkSl w A L) :
    Calls Try.prog 33 #[.string s, .slice A L.length cap] w fun e w' => e = .returned (.tuple (if (okFence s && okList s.size L) = true then #[.string (paintJ s L L.length), .bool true] else #[.string ⟨#[]⟩, .bool false])) ∧ Below w.heap.size w w' := by
  have hP := fun W hW => arePaintable_any s A cap L W hz hl hs hW
  cases hok : okFence s && okList s.size L
  · rw [hok] at hP
    rw [if_neg (by decide)]
    clear hok
    go_enter Try.func33, Try.ntmps33
    go_wp2_with (go_at_call 91; refine (hP _ h).mono ?_; rintro e w' ⟨rfl, hb⟩)
    go_ret2
    exact ⟨rfl, hb⟩
  · rw [hok] at hP
    rw [if_pos rfl]
    rw [Bool.and_eq_true] at hok
    obtain ⟨_, h20⟩ := okFence_size hok.1
    obtain ⟨h40, hat⟩ := okList_at hok.2
    have HP := Lib.hid (hP w h)
    have hcall := fun W hW => paintedWithout_any s A cap L L.length W h20 h40 hat hW
    rw [paintX_all s L _ (Nat.le_refl _)] at hcall
    have HC := Lib.hid hcall
    clear hok hP hat hcall
    go_enter Try.func33, Try.ntmps33
    go_wp2_with (first
      | (go_at_call 91; refine HP.out.mono ?_; rintro e w1 ⟨rfl, hb⟩)
      | (go_at_call 92; refine (HC.out _ (h.below hb)).mono ?_; rintro e w2 ⟨rfl, hb2⟩))
    go_ret2
    exact ⟨rfl, below_next hb hb2⟩

set_option maxHeartbeats 1000000 in
theorem lawPaintAll_walk (s : ByteArray) (A : Option Addr) (cap : Nat) (L : List Strk) (w : World) (hz : s.size ≤ maxLen) (hl : L.length ≤ maxLen) (hs : Short L) (h : StrkSl w A L) :
    Calls Try.prog 8 #[.string s, .slice A L.length cap] w fun e w' => e = .returned (.bool true) ∧ Below w.heap.size w w' := by
  have hz0 := hz
  have hl0 := hl
  unfold maxLen at hz hl
  by_cases hbig : s.size ≤ 1048576
  · by_cases htot : 1048576 < totS L
    · have HP := Lib.hid (szRes_no htot)
      go_enter Try.func8, Try.ntmps8
      go_wp2_with (go_at_call 63; refine (szStrokeS_any A cap L _ hl0 hs h).mono ?_; rintro e w1 ⟨rfl, hb⟩; rw [HP.out])
      go_ret
      exact ⟨rfl, hb⟩
    · have HP := Lib.hid (szRes_yes (L := L) (by omega))
      have hle : L.length ≤ 1048576 := Short_of_tot (by omega)
      obtain ⟨p, q, hp⟩ : ∃ (p : ByteArray) (q : Bool), (if (okFence s && okList s.size L) = true then #[.string (paintJ s L L.length), .bool true] else #[.string ⟨#[]⟩, .bool false] : Array Value) = #[.string p, .bool q] := by
        split
        · exact ⟨_, _, rfl⟩
        · exact ⟨_, _, rfl⟩
      have S := fun A cap (W : World) h => specAll_any s A cap L W hz0 hl0 hs h
      have I := fun A cap (W : World) h => implAll_any s A cap L W hz0 hl0 hs h
      rw [hp] at S I
      clear hp
      have HS := Lib.hid S
      have HI := Lib.hid I
      have hge : (0 : Int) ≤ 1048576 - (totS L : Int) := by omega
      clear S I
      go_enter Try.func8, Try.ntmps8
      go_wp2_with (first
        | (go_at_call 63; refine (szStrokeS_any A cap L _ hl0 hs h).mono ?_; rintro e w1 ⟨rfl, hb⟩; rw [HP.out])
        | (go_at_call 65; refine (toStrokeS_any A cap L _ hle (h.below hb)).mono ?_; rintro e w2 ⟨rfl, hown, hb2⟩; have hb := below_next hb hb2)
        | (go_at_call 64; refine (HS.out _ _ _ (StrkSl.of_own hown)).mono ?_; rintro e w2 ⟨rfl, hb2⟩; have hb := below_next hb hb2; have hown0 := own_below hown hb2)
        | (go_at_call 33; refine (HI.out _ _ _ (StrkSl.of_own hown)).mono ?_; rintro e w2 ⟨rfl, hb2⟩; have hb := below_next hb hb2; have hown1 := own_below hown hb2)
        | (go_at_call 66; refine (eqStrokeS_same _ _ _ _ L _ hle (StrkSl.of_own (own_below hown1 hb2)) (StrkSl.of_own hown)).mono ?_; rintro e w3 ⟨rfl, hb3⟩; have hb := below_next hb hb3))
      go_ret
      exact ⟨rfl, hb⟩
  · go_enter Try.func8, Try.ntmps8
    go_wp2
    go_ret
    exact ⟨rfl, Below.refl _ _⟩
end Go.Proofs.Ytcgkjhomjdgmhaa
