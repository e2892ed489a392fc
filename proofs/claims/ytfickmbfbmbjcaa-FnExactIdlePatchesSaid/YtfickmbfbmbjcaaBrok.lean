/- BrokenOf of both sides. No condition but the text's length. -/
import Derived.Test.YtfickmbfbmbjcaaYard
import Derived.Test.YtfickmbfbmbjcaaIter
namespace Go.Proofs.Ytfickmbfbmbjcaa
open Go.RowKit Go.Lib

/-- whether a board is broken; the broken ones of the first k -/
def isX (s : ByteArray) (k : Nat) : Bool := decide (s.data.toList[k]? = some 120)
def brkL (s : ByteArray) : Nat → List Int
  | 0 => []
  | k + 1 => if isX s k = true then brkL s k ++ [(k : Int)] else brkL s k
theorem ylist_at (s : ByteArray) (k : Nat) (h : k < s.size) : s.data.toList[k]? = some s[k] := by
  rw [List.getElem?_eq_getElem (by simpa using h)]; rfl
theorem isX_yes {s : ByteArray} {k : Nat} (h : k < s.size) (hc : s[k].toNat = 120) : isX s k = true := by
  unfold isX; rw [ylist_at s k h, decide_eq_true_iff]; congr 1; exact UInt8.toNat_inj.1 hc
theorem isX_no {s : ByteArray} {k : Nat} (h : k < s.size) (hc : s[k].toNat ≠ 120) : isX s k = false := by
  unfold isX; rw [ylist_at s k h, decide_eq_false_iff_not]; intro e; injection e with e; apply hc; rw [e]; rfl
theorem isX_out {s : ByteArray} {k : Nat} (h : s.size ≤ k) : isX s k = false := by
  unfold isX; rw [List.getElem?_eq_none (by simpa using h)]; rfl
theorem isX_lt {s : ByteArray} {k : Nat} (h : isX s k = true) : k < s.size := by
  rcases Nat.lt_or_ge k s.size with h1 | h1
  · exact h1
  · rw [isX_out h1] at h; cases h
theorem isX_byte {s : ByteArray} {k : Nat} (hk : k < s.size) (h : isX s k = true) : s[k].toNat = 120 := by
  by_cases hc : s[k].toNat = 120
  · exact hc
  · rw [isX_no hk hc] at h; cases h
theorem isX_byteN {s : ByteArray} (hy : okYard s = true) {k : Nat} (hk : k < s.size) (h : isX s k = false) : s[k].toNat = 111 := by
  rcases yB_or (okYard_at hy k hk) with h1 | h1
  · rw [isX_yes hk h1] at h; cases h
  · exact h1
theorem brkL_yes {s : ByteArray} {k : Nat} (h : isX s k = true) : brkL s (k + 1) = brkL s k ++ [(k : Int)] := by
  show (if _ then _ else _) = _; rw [if_pos h]
theorem brkL_no {s : ByteArray} {k : Nat} (h : isX s k = false) : brkL s (k + 1) = brkL s k := by
  show (if _ then _ else _) = _; rw [if_neg (by rw [h]; decide)]
theorem brkL_len (s : ByteArray) : ∀ k, (brkL s k).length ≤ k
  | 0 => Nat.le_refl _
  | k + 1 => by
    have := brkL_len s k
    cases h : isX s k
    · rw [brkL_no h]; omega
    · rw [brkL_yes h, List.length_append, List.length_singleton]; omega
theorem brkL_mem (s : ByteArray) : ∀ k (x : Int), x ∈ brkL s k ↔ ∃ i : Nat, i < k ∧ x = i ∧ isX s i = true
  | 0, x => by simp [brkL]
  | k + 1, x => by
    have ih := brkL_mem s k x
    cases h : isX s k
    · rw [brkL_no h, ih]
      constructor
      · rintro ⟨i, h1, h2, h3⟩; exact ⟨i, by omega, h2, h3⟩
      · rintro ⟨i, h1, h2, h3⟩
        rcases Nat.lt_or_ge i k with h4 | h4
        · exact ⟨i, h4, h2, h3⟩
        · obtain rfl : i = k := by omega
          rw [h] at h3; cases h3
    · rw [brkL_yes h, List.mem_append, ih, List.mem_singleton]
      constructor
      · rintro (⟨i, h1, h2, h3⟩ | h1)
        · exact ⟨i, by omega, h2, h3⟩
        · exact ⟨k, by omega, h1, h⟩
      · rintro ⟨i, h1, h2, h3⟩
        rcases Nat.lt_or_ge i k with h4 | h4
        · exact .inl ⟨i, h4, h2, h3⟩
        · obtain rfl : i = k := by omega
          exact .inr h2
def brkR (s : ByteArray) : List Int := if okYard s = true then brkL s s.size else []
theorem brkR_len (s : ByteArray) : (brkR s).length ≤ 1048576 := by
  unfold brkR
  split
  · next h =>
    have := okYard_size h
    have := brkL_len s s.size
    omega
  · exact Nat.zero_le _

set_option maxRecDepth 20000 in
set_option maxHeartbeats 2000000 in
theorem reBroken_any (s : ByteArray) (w : World) (hs : s.size ≤ 1048576) :
    Calls Try.prog 74 #[.string s] w fun e w' => ∃ v, e = .returned v ∧ OwnInts w' w.heap.size 3 v (brkL s s.size) ∧ Below w.heap.size w w' := by
  obtain ⟨i0, hi, hz0, hz1, hz2⟩ := info_parts info_int
  go_enter Try.func74, Try.ntmps74
  go_wp2
  go_loopw [3, 4] (fun v i wr => ∃ k : Nat, k ≤ s.size ∧ i = .int .i64 k ∧ OwnInts wr w.heap.size 3 v (brkL s k) ∧ Below w.heap.size w wr) (fun _ i _ => s.size - (intOf i).toNat)
  case atStart => exact ⟨0, Nat.zero_le _, rfl, OwnInts.nil _ _ _, Below.refl _ _⟩
  case round =>
    obtain ⟨k, hk, rfl, hown, hb⟩ := hrel
    have HO := Lib.hid hown
    clear hown
    by_cases hlt : k < s.size
    · by_cases hx : s[k].toNat = 120
      · have HN := Lib.hid (brkL_yes (isX_yes hlt hx))
        have hlen := brkL_len s k
        have hbs := hb.size
        go_wp2_with (at_builtin; refine wpList_append_own _ rfl (.tmp 15) (.tmp 17) _ rfl w.heap.size 3 i0 _ 1 8 Try.underlying23 hi hz0 hz1 hz2 rfl (by decide) _ (brkL s k).length ((brkL s k).map (Value.int .i64)) rfl (World.ownsRow.alloc HO.out _) ⟨_, 0, none⟩ 1 1 [.int .i64 (k)] rfl rfl (World.news_of_block (cs := #[.int .i64 (k)]) (t := 3) (fr := (0, 0)) (by first | exact heap_alloc_new _ _ | exact heap_new_set _ _ _ _ _)) (by simp [Value.oneCell']) (by unfold maxLen; omega) (by omega) (by simp; omega) ?_; intro v' w3 hown' hgrow _)
        have HR : Hid (OwnInts w3 w.heap.size 3 v' (brkL s (k + 1))) := Lib.hid (by rw [HN.out]; exact OwnInts.snoc hown')
        have HB3 : Hid (Below w.heap.size w w3) := Lib.hid ((hb.alloc hbs _).grown hgrow (by simp; omega) fun k hk => (World.ownsRow.lt HO.out k hk).1)
        clear hown' hgrow
        go_wp2
        go_roundw
        case rel => exact ⟨k + 1, by omega, by go_num, HR.out, HB3.out⟩
        case measure => simp [intOf]; omega
      · have HN := Lib.hid (brkL_no (isX_no hlt hx))
        have hx1 : ((s[k].toNat : Int) == 120) = false := by rw [beq_eq_false_iff_ne]; omega
        go_wp2
        go_roundw
        case rel => exact ⟨k + 1, by omega, by go_num, by rw [HN.out]; exact HO.out, hb⟩
        case measure => simp [intOf]; omega
    · obtain rfl : k = s.size := by omega
      go_wp2
      go_ret
      exact ⟨_, rfl, HO.out, hb⟩

theorem specBrokenOf_any (s0 : ByteArray) (w : World) (hs : s0.size ≤ maxLen) :
    Calls Try.prog 25 #[.string s0] w fun e w' => ∃ v, e = .returned (.tuple #[v, .bool (okYard s0)]) ∧ OwnInts w' w.heap.size 3 v (brkR s0) ∧ Below w.heap.size w w' := by
  unfold brkR
  cases h : okYard s0
  · rw [if_neg (by decide)]
    have H := Lib.hid h; clear h
    go_enter Try.func25, Try.ntmps25
    go_wp2_with (go_at_call 72; refine (reGood_any s0 _ hs).mono ?_; rintro e w' ⟨rfl, rfl⟩; rw [H.out])
    go_ret2
    exact ⟨_, rfl, OwnInts.nil _ _ _, Below.refl _ _⟩
  · rw [if_pos rfl]
    have hz := okYard_size h
    have H := Lib.hid h; clear h
    go_enter Try.func25, Try.ntmps25
    go_wp2_with (first
      | (go_at_call 72; refine (reGood_any s0 _ hs).mono ?_; rintro e w' ⟨rfl, rfl⟩; rw [H.out])
      | (go_at_call 74; refine (reBroken_any s0 _ (by omega)).mono ?_; rintro e w1 ⟨v, rfl, ho, hb⟩))
    go_ret2
    exact ⟨_, rfl, ho, hb⟩

set_option maxRecDepth 20000 in
set_option maxHeartbeats 2000000 in
theorem implBrokenOf_any (s0 : ByteArray) (w : World) (hs : s0.size ≤ maxLen) :
    Calls Try.prog 26 #[.string s0] w fun e w' => ∃ v, e = .returned (.tuple #[v, .bool (okYard s0)]) ∧ OwnInts w' w.heap.size 3 v (brkR s0) ∧ Below w.heap.size w w' := by
  unfold brkR
  obtain ⟨i0, hi, hz0, hz1, hz2⟩ := info_parts info_int
  cases h : okYard s0
  · rw [if_neg (by decide)]
    have H := Lib.hid h; clear h
    go_enter Try.func26, Try.ntmps26
    go_wp2_with (go_at_call 24; refine (implIsYard_any s0 _ hs).mono ?_; rintro e w1 ⟨rfl, hb1⟩; rw [H.out])
    go_ret2
    exact ⟨_, rfl, OwnInts.nil _ _ _, hb1⟩
  · rw [if_pos rfl]
    obtain ⟨s1, s30⟩ := okYard_size h
    have HA := Lib.hid (okYard_at h)
    have H := Lib.hid h; clear h
    go_enter Try.func26, Try.ntmps26
    go_wp2_with (go_at_call 24; refine (implIsYard_any s0 _ hs).mono ?_; rintro e w1 ⟨rfl, hb1⟩; rw [H.out])
    have hb1s := hb1.size
    go_loopw [4] (fun v wr => ∃ k : Nat, k ≤ s0.size ∧ wr.heap[w1.heap.size]? = some (.stringIter s0 k) ∧ OwnInts wr (w1.heap.size + 1) 3 v (brkL s0 k) ∧ Below w.heap.size w wr) (fun _ wr => s0.size - wr.iterPos w1.heap.size)
    case atStart => exact ⟨0, Nat.zero_le _, World.iter_heap _ _ _, OwnInts.nil _ _ _, below_next hb1 (below_iter _ _ _)⟩
    case round =>
      obtain ⟨k, hk, hit, hown, hb⟩ := hrel
      have hpos := iterPos_at hit
      have HO := Lib.hid hown
      have HO1 := Lib.hid (own_iterAt hown s0 (k + 1))
      have hbs := hb.size
      clear hown
      by_cases hp : k < s0.size
      · have h128 := yB_128 (HA.out k hp)
        have hnx : ∀ ty, (Instr.next (.pointer (some ⟨w1.heap.size, 0, none⟩)) true ty).run Try.prog wr = _ := fun ty => run_next_ascii_at wr w1.heap.size s0 k ty hit hp h128
        have HB1 := Lib.hid (below_iterAt hb hb1s s0 (k + 1))
        have HI1 : Hid ((wr.iterAt w1.heap.size s0 (k + 1)).heap[w1.heap.size]? = some (.stringIter s0 (k + 1))) := Lib.hid (iterAt_heap wr w1.heap.size s0 k (k + 1) hit)
        obtain ⟨wi, hwi⟩ : ∃ wi, wi = wr.iterAt w1.heap.size s0 (k + 1) := ⟨_, rfl⟩
        rw [← hwi] at HO1 HB1 HI1 hnx
        have hbi := HB1.out.size
        have hlt1 := (Array.getElem?_eq_some_iff.1 HI1.out).1
        clear hwi
        rcases yB_or (HA.out k hp) with hc | hc
        · have HN := Lib.hid (brkL_yes (isX_yes hp hc))
          rw [hc] at hnx
          have hlen := brkL_len s0 k
          clear hc h128
          go_wp2_with (at_builtin; refine wpList_append_own _ rfl (.tmp 18) (.tmp 20) _ rfl (w1.heap.size + 1) 3 i0 _ 1 8 Try.underlying23 hi hz0 hz1 hz2 rfl (by decide) _ (brkL s0 k).length ((brkL s0 k).map (Value.int .i64)) rfl (World.ownsRow.alloc HO1.out _) ⟨_, 0, none⟩ 1 1 [.int .i64 (k)] rfl rfl (World.news_of_block (cs := #[.int .i64 (k)]) (t := 3) (fr := (0, 0)) (by first | exact heap_alloc_new _ _ | exact heap_new_set _ _ _ _ _)) (by simp [Value.oneCell']) (by unfold maxLen; omega) (by omega) (by simp; omega) ?_; intro v' w3 hown' hgrow _)
          have HR : Hid (OwnInts w3 (w1.heap.size + 1) 3 v' (brkL s0 (k + 1))) := Lib.hid (by rw [HN.out]; exact OwnInts.snoc hown')
          have HB3 : Hid (Below w.heap.size w w3) := Lib.hid ((HB1.out.alloc hbi _).grown hgrow (by simp; omega) fun k hk => by have := (World.ownsRow.lt HO1.out k hk).1; omega)
          have HI3 : Hid (w3.heap[w1.heap.size]? = some (.stringIter s0 (k + 1))) := Lib.hid (iter_kept (iter_alloc HI1.out _) hgrow (own_not HO1.out (Nat.lt_succ_self _)))
          clear hown' hgrow
          go_wp2
          go_roundw
          case rel => exact ⟨k + 1, by omega, HI3.out, HR.out, HB3.out⟩
          case measure => rw [hpos, iterPos_at HI3.out]; omega
        · have HN := Lib.hid (brkL_no (isX_no hp (by omega)))
          rw [hc] at hnx
          clear hc h128
          go_wp2
          go_roundw
          case rel => exact ⟨k + 1, by omega, HI1.out, by rw [HN.out]; exact HO1.out, HB1.out⟩
          case measure => rw [hpos, iterPos_at HI1.out]; omega
      · obtain rfl : k = s0.size := by omega
        have hnx : ∀ ty, (Instr.next (.pointer (some ⟨w1.heap.size, 0, none⟩)) true ty).run Try.prog wr = _ := fun ty => run_next_end_at wr w1.heap.size s0 s0.size ty hit hp
        go_wp2
        go_ret2
        exact ⟨_, rfl, own_mono HO.out (by omega), hb⟩
end Go.Proofs.Ytfickmbfbmbjcaa
