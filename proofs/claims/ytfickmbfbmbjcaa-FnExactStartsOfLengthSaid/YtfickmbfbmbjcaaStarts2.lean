/- StartsOfLength and FewestOfLength of the program. No condition but the text's length. -/
import Derived.Test.YtfickmbfbmbjcaaStarts
namespace Go.Proofs.Ytfickmbfbmbjcaa
open Go.RowKit Go.Lib

set_option maxRecDepth 20000 in
set_option maxHeartbeats 4000000 in
theorem implStartsOfLength_any (s0 : ByteArray) (a1 : Int) (w : World) (hs : s0.size ≤ maxLen) (_ : (Lit.int .i64 a1).wf = true) :
    Calls Try.prog 51 #[.string s0, .int .i64 a1] w fun e w' => ∃ v, e = .returned (.tuple #[v, .bool (okSt s0 a1)]) ∧ OwnInts w' w.heap.size 3 v (startsR s0 a1) ∧ Below w.heap.size w w' := by
  unfold startsR
  obtain ⟨i0, hi, hz0, hz1, hz2⟩ := info_parts info_int
  have HY := Lib.hid fun W => implIsYard_any s0 W hs
  cases h : okSt s0 a1
  · rw [if_neg (by decide)]
    cases hy : okYard s0
    · rw [hy] at HY
      clear h hy
      go_enter Try.func51, Try.ntmps51
      go_wp2_with (go_at_call 24; refine (HY.out _).mono ?_; rintro e w1 ⟨rfl, hb1⟩)
      go_ret2
      exact ⟨_, rfl, OwnInts.nil _ _ _, hb1⟩
    · rw [hy] at HY
      have HI := Lib.hid fun W => isYardLength_any a1 W
      have hn : decide (1 ≤ a1 ∧ a1 ≤ 30) = false := by unfold okSt at h; rw [hy] at h; exact h
      rw [hn] at HI
      clear h hy hn
      go_enter Try.func51, Try.ntmps51
      go_wp2_with (first
        | (go_at_call 24; refine (HY.out _).mono ?_; rintro e w1 ⟨rfl, hb1⟩)
        | (go_at_call 73; refine (HI.out _).mono ?_; rintro e w' ⟨rfl, rfl⟩))
      go_ret2
      exact ⟨_, rfl, OwnInts.nil _ _ _, hb1⟩
  · rw [if_pos rfl]
    obtain ⟨hy, l1, l2⟩ := okSt_at h
    obtain ⟨s1, s30⟩ := okYard_size hy
    have HA := Lib.hid (okYard_at hy)
    have HI := Lib.hid fun W => isYardLength_any a1 W
    rw [hy] at HY
    rw [decide_eq_true (show 1 ≤ a1 ∧ a1 ≤ 30 from ⟨l1, l2⟩)] at HI
    obtain ⟨l, rfl⟩ : ∃ l : Nat, a1 = l := ⟨a1.toNat, by omega⟩
    rw [Int.toNat_natCast]
    clear h hy
    go_enter Try.func51, Try.ntmps51
    go_wp2_with (first
      | (go_at_call 24; refine (HY.out _).mono ?_; rintro e w1 ⟨rfl, hb1⟩)
      | (go_at_call 73; refine (HI.out _).mono ?_; rintro e w' ⟨rfl, rfl⟩))
    have hb1s := hb1.size
    go_loopw [6, 7] (fun v b wr => ∃ k : Nat, k ≤ s0.size ∧ wr.heap[w1.heap.size]? = some (.stringIter s0 k) ∧ b = .int .i64 (behd l (stF l (brkL s0 k))) ∧ OwnInts wr (w1.heap.size + 1) 3 v (stF l (brkL s0 k)) ∧ Below w.heap.size w wr) (fun _ _ wr => s0.size - wr.iterPos w1.heap.size)
    case atStart => exact ⟨0, Nat.zero_le _, World.iter_heap _ _ _, rfl, OwnInts.nil _ _ _, below_next hb1 (below_iter _ _ _)⟩
    case round =>
      obtain ⟨k, hk, hit, rfl, hown, hb⟩ := hrel
      have hpos := iterPos_at hit
      have HO := Lib.hid hown
      have HO1 := Lib.hid (own_iterAt hown s0 (k + 1))
      have hbs := hb.size
      clear hown
      by_cases hp : k < s0.size
      · have h128 := yB_128 (HA.out k hp)
        have hnx : ∀ ty, (Instr.next (.pointer (some ⟨w1.heap.size, 0, none⟩)) true ty).run Try.prog wr = _ := fun ty => run_next_ascii_at wr w1.heap.size s0 k ty hit hp h128
        have HB1 := Lib.hid (below_iterAt hb hb1s s0 (k + 1))
        have HI1 : Hid ((wr.iterAt w1.heap.size s0 (k + 1)).heap[w1.heap.size]? = some (.stringIter s0 (k + 1))) := Lib.hid (iterAt_heap wr w1.heap.size s0 k (k + 1) hit)
        obtain ⟨wi, hwi⟩ : ∃ wi, wi = wr.iterAt w1.heap.size s0 (k + 1) := ⟨_, rfl⟩
        rw [← hwi] at HO1 HB1 HI1 hnx
        have hbi := HB1.out.size
        have hlt1 := (Array.getElem?_eq_some_iff.1 HI1.out).1
        clear hwi
        have hsb := stB_bd s0 l k hk
        obtain ⟨q, hq⟩ : ∃ q, q = behd l (stF l (brkL s0 k)) := ⟨_, rfl⟩
        have hlen := hsb.2
        clear hsb
        rw [← hq]
        rcases yB_or (HA.out k hp) with hc | hc
        · have HX := Lib.hid (brkL_yes (isX_yes hp hc))
          rw [hc] at hnx
          by_cases hd : q ≤ (k : Int)
          · have HN : Hid (stF l (brkL s0 (k + 1)) = stF l (brkL s0 k) ++ [(k : Int)]) := Lib.hid (by rw [HX.out, stF_snoc, stStep_yes (by rw [← hq]; exact hd)])
            have HE : Hid (behd l (stF l (brkL s0 (k + 1))) = (k : Int) + l) := Lib.hid (by rw [HN.out, behd_snoc])
            clear hc h128 hq
            go_wp2_with (at_builtin; refine wpList_append_own _ rfl (.tmp 31) (.tmp 33) _ rfl (w1.heap.size + 1) 3 i0 _ 1 8 Try.underlying23 hi hz0 hz1 hz2 rfl (by decide) _ (stF l (brkL s0 k)).length ((stF l (brkL s0 k)).map (Value.int .i64)) rfl (World.ownsRow.alloc HO1.out _) ⟨_, 0, none⟩ 1 1 [.int .i64 (k)] rfl rfl (World.news_of_block (cs := #[.int .i64 (k)]) (t := 3) (fr := (0, 0)) (by first | exact heap_alloc_new _ _ | exact heap_new_set _ _ _ _ _)) (by simp [Value.oneCell']) (by unfold maxLen; omega) (by omega) (by simp; omega) ?_; intro v' w3 hown' hgrow _)
            have HR : Hid (OwnInts w3 (w1.heap.size + 1) 3 v' (stF l (brkL s0 (k + 1)))) := Lib.hid (by rw [HN.out]; exact OwnInts.snoc hown')
            have HB3 : Hid (Below w.heap.size w w3) := Lib.hid ((HB1.out.alloc hbi _).grown hgrow (by simp; omega) fun k hk => by have := (World.ownsRow.lt HO1.out k hk).1; omega)
            have HI3 : Hid (w3.heap[w1.heap.size]? = some (.stringIter s0 (k + 1))) := Lib.hid (iter_kept (iter_alloc HI1.out _) hgrow (own_not HO1.out (Nat.lt_succ_self _)))
            clear hown' hgrow
            go_wp2
            go_roundw
            case rel => exact ⟨k + 1, by omega, HI3.out, by rw [HE.out], HR.out, HB3.out⟩
            case measure => rw [hpos, iterPos_at HI3.out]; omega
          · have HN : Hid (stF l (brkL s0 (k + 1)) = stF l (brkL s0 k)) := Lib.hid (by rw [HX.out, stF_snoc, stStep_no (by rw [← hq]; exact hd)])
            have HE : Hid (q = behd l (stF l (brkL s0 (k + 1)))) := Lib.hid (by rw [HN.out, hq])
            clear hc h128 hq
            go_wp2
            go_roundw
            case rel => exact ⟨k + 1, by omega, HI1.out, by rw [← HE.out], by rw [HN.out]; exact HO1.out, HB1.out⟩
            case measure => rw [hpos, iterPos_at HI1.out]; omega
        · have HN := Lib.hid (brkL_no (isX_no hp (by omega)))
          have HE : Hid (q = behd l (stF l (brkL s0 (k + 1)))) := Lib.hid (by rw [HN.out, hq])
          rw [hc] at hnx
          clear hc h128 hq
          go_wp2
          go_roundw
          case rel => exact ⟨k + 1, by omega, HI1.out, by rw [← HE.out], by rw [HN.out]; exact HO1.out, HB1.out⟩
          case measure => rw [hpos, iterPos_at HI1.out]; omega
      · obtain rfl : k = s0.size := by omega
        have hnx : ∀ ty, (Instr.next (.pointer (some ⟨w1.heap.size, 0, none⟩)) true ty).run Try.prog wr = _ := fun ty => run_next_end_at wr w1.heap.size s0 s0.size ty hit hp
        go_wp2
        go_ret2
        exact ⟨_, rfl, own_mono HO.out (by omega), hb⟩

set_option maxHeartbeats 1000000 in
theorem implFewestOfLength_any (s0 : ByteArray) (a1 : Int) (w : World) (hs : s0.size ≤ maxLen) (hw : (Lit.int .i64 a1).wf = true) :
    Calls Try.prog 49 #[.string s0, .int .i64 a1] w fun e w' => e = .returned (.tuple #[.int .i64 ((startsR s0 a1).length : Nat), .bool (okSt s0 a1)]) ∧ Below w.heap.size w w' := by
  have HS := Lib.hid fun W => implStartsOfLength_any s0 a1 W hs hw
  have hle := startsR_len s0 a1
  obtain ⟨L, hL⟩ : ∃ L, L = startsR s0 a1 := ⟨_, rfl⟩
  obtain ⟨q, hq⟩ : ∃ q, q = okSt s0 a1 := ⟨_, rfl⟩
  rw [← hL] at hle
  rw [← hL, ← hq] at HS ⊢
  clear hL hq
  go_enter Try.func49, Try.ntmps49
  go_wp2_with (go_at_call 51; refine (HS.out _).mono ?_; rintro e w1 ⟨v, rfl, ho, hb⟩; obtain ⟨A, c, rfl⟩ := OwnInts.len ho)
  go_ret2
  exact ⟨rfl, hb⟩
end Go.Proofs.Ytfickmbfbmbjcaa
