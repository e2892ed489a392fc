/- Runs of one colour: 'spec.stRuns', CountRuns, and the law's walk. No condition but the text's length. -/
import Derived.Test.YtcgkjhomjdgmhaaRuns
import Derived.Deep.AppendLies
namespace Go.Proofs.Ytcgkjhomjdgmhaa
open Go.RowKit Go.Maps

def lastR (s : ByteArray) (k : Nat) : Strk := ⟨(fo s k : Int), (k : Int), s.extract (fo s k) (fo s k + 1)⟩
/-- the runs that end before the one of a board -/
def doneL (s : ByteArray) : Nat → List Strk
  | 0 => []
  | k + 1 => if s.data.toList[k + 1]? = s.data.toList[k]? then doneL s k else doneL s k ++ [lastR s k]
/-- the runs of the first boards -/
def runsL (s : ByteArray) : Nat → List Strk
  | 0 => []
  | k + 1 => doneL s k ++ [lastR s k]
theorem doneL_cnt (s : ByteArray) : ∀ k, (doneL s k).length + 1 = cnt s k
  | 0 => rfl
  | k + 1 => by
    have ih := doneL_cnt s k
    unfold doneL cnt
    by_cases h : s.data.toList[k + 1]? = s.data.toList[k]?
    · rw [if_pos h, if_pos h, ih]
    · rw [if_neg h, if_neg h, List.length_append, ← ih]; rfl
theorem cnt_le (s : ByteArray) : ∀ k, cnt s k ≤ k + 1
  | 0 => Nat.le_refl _
  | k + 1 => by
    have := cnt_le s k
    unfold cnt; split <;> omega
theorem runsL_len (s : ByteArray) (k : Nat) : (runsL s (k + 1)).length = (doneL s k).length + 1 := by unfold runsL; rw [List.length_append]; rfl
theorem strkCells_snoc (L : List Strk) (x : Strk) : strkCells (L ++ [x]) = strkCells L ++ x.vals := by unfold strkCells; rw [List.flatMap_append]; simp
theorem runs_same {s : ByteArray} {k : Nat} (h : s.data.toList[k + 1]? = s.data.toList[k]?) : (strkCells (runsL s (k + 1))).set ((doneL s k).length * 3 + 1) (.int .i64 ((k : Int) + 1)) = strkCells (runsL s (k + 2)) ∧ (runsL s (k + 2)).length = (doneL s k).length + 1 := by
  have e1 : doneL s (k + 1) = doneL s k := by rw [doneL, if_pos h]
  have e2 : fo s (k + 1) = fo s k := by rw [fo, if_pos h]
  constructor
  · rw [runsL, runsL, e1, strkCells_snoc, strkCells_snoc, List.set_append_right _ _ (by rw [strkCells_len]; omega), strkCells_len]
    rw [show (doneL s k).length * 3 + 1 - (doneL s k).length * 3 = 1 by omega]
    unfold lastR Strk.vals
    rw [e2]
    rfl
  · rw [runsL_len, e1]
theorem runs_new {s : ByteArray} {k : Nat} (h : s.data.toList[k + 1]? ≠ s.data.toList[k]?) : strkCells (runsL s (k + 1)) ++ (⟨((k : Int) + 1), ((k : Int) + 1), s.extract (k + 1) (k + 2)⟩ : Strk).vals = strkCells (runsL s (k + 2)) ∧ (runsL s (k + 2)).length = (doneL s k).length + 1 + 1 := by
  have e1 : doneL s (k + 1) = doneL s k ++ [lastR s k] := by rw [doneL, if_neg h]
  have e2 : fo s (k + 1) = k + 1 := by rw [fo, if_neg h]
  constructor
  · rw [runsL, runsL, e1, strkCells_snoc, strkCells_snoc (doneL s k ++ [lastR s k]), strkCells_snoc]
    congr 1
    unfold lastR
    rw [e2]
    rfl
  · rw [runsL_len, e1, List.length_append]; rfl

set_option maxRecDepth 20000 in
set_option maxHeartbeats 1600000 in
theorem stRuns_any (s : ByteArray) (w : World) (h20 : s.size ≤ 20) :
    Calls Try.prog 98 #[.string s] w fun e w' => ∃ v, e = .returned v ∧ w'.ownsRow w.heap.size 43 3 v (runsL s s.size).length (strkCells (runsL s s.size)) ∧ Below w.heap.size w w' := by
  obtain ⟨i0, hi, hz0, hz1, hz2⟩ := info_parts info_strk
  go_enter Try.func98, Try.ntmps98
  go_wp2
  go_loopw [3, 4] (fun v i wr => ∃ k : Nat, k ≤ s.size ∧ i = .int .i64 k ∧ wr.ownsRow w.heap.size 43 3 v (runsL s k).length (strkCells (runsL s k)) ∧ Below w.heap.size w wr) (fun _ i _ => s.size - (intOf i).toNat)
  case atStart => exact ⟨0, Nat.zero_le _, rfl, World.ownsRow_nil _ _ _ _, Below.refl _ _⟩
  case round =>
    obtain ⟨k, hk, rfl, hown, hb⟩ := hrel
    have HO := Lib.hid hown
    clear hown
    by_cases hlt : k < s.size
    · rcases Nat.eq_zero_or_pos k with h0 | h0
      · have hown0 := HO.out
        rw [h0, show (runsL s 0).length = 0 from rfl, show strkCells (runsL s 0) = [] from rfl] at hown0
        have hk0 : (0 : Int) ≤ (k : Int) := by omega
        have hk1 : (k : Int) ≤ (k : Int) + 1 := by omega
        have hk2 : (k : Int) + 1 ≤ (s.size : Int) := by omega
        have hk3 : ((k : Int) + 1).toNat = k + 1 := by omega
        have HE : Hid ([] ++ [Value.int .i64 (k : Int), .int .i64 (k : Int), .string (s.extract k (k + 1))] = strkCells (runsL s (k + 1)) ∧ (runsL s (k + 1)).length = 0 + 1) := Lib.hid (by rw [h0]; exact ⟨rfl, rfl⟩)
        clear h0 HO
        obtain ⟨A, c, rfl⟩ := own_any hown0
        have HO := Lib.hid hown0
        clear hown0
        have hbs := hb.size
        go_wp2
        go_quiet (fail)
        go_wp2_with (at_builtin; refine wpList_append_own _ rfl (.tmp 32) (.tmp 41) _ rfl w.heap.size 43 i0 _ 3 32 Try.underlying26 hi hz0 hz1 hz2 rfl (by decide) _ 0 [] rfl (World.ownsRow.alloc HO.out _) ⟨wr.heap.size, 0, none⟩ 1 1 [.int .i64 (k : Int), .int .i64 (k : Int), .string (s.extract k (k + 1))] rfl rfl (World.news_of_block (cs := #[.int .i64 (k : Int), .int .i64 (k : Int), .string (s.extract k (k + 1))]) (t := 43) (fr := (0, 0)) (heap_alloc_new wr _)) (by simp [Value.oneCell']) (by unfold maxLen; omega) (by omega) (by simp; omega) ?_; intro v' w3 hown' hgrow _)
        have HR : Hid (w3.ownsRow w.heap.size 43 3 v' (runsL s (k + 1)).length (strkCells (runsL s (k + 1)))) := Lib.hid (by rw [HE.out.2, ← HE.out.1]; exact hown')
        have HB3 : Hid (Below w.heap.size w w3) := Lib.hid ((below_drewN (hb.alloc hbs _) _).grown hgrow (by simp; omega) fun x hx => (World.ownsRow.lt HO.out x hx).1)
        clear hown' hgrow
        go_roundw
        case rel => exact ⟨k + 1, by omega, by go_num, HR.out, HB3.out⟩
        case measure => simp [intOf]; omega
      · obtain ⟨j, rfl⟩ : ∃ j, k = j + 1 := ⟨k - 1, by omega⟩
        have hown1 := HO.out
        have hdl := doneL_cnt s j
        have hcl := cnt_le s j
        obtain ⟨D, hD⟩ : ∃ D, D = (doneL s j).length := ⟨_, rfl⟩
        rw [runsL_len, ← hD] at hown1
        obtain ⟨g, c, rfl, hgb, hgl⟩ := own_some hown1 (by omega)
        have HO1 := Lib.hid hown1
        have hjs : j < s.size := by omega
        have hD9 : D ≤ 20 := by omega
        have hcell := hown1.cellAt (D * 3 + 1) (by omega)
        have hxl : (strkCells (runsL s (j + 1))).length = (D + 1) * 3 := hown1.1
        rw [List.getElem?_eq_getElem (by omega)] at hcell
        obtain ⟨u, hu⟩ : ∃ u, u = (strkCells (runsL s (j + 1)))[D * 3 + 1]'(by omega) := ⟨_, rfl⟩
        rw [← hu] at hcell
        have hfrz := hown1.frozenAt (D * 3 + 1)
        have HD := Lib.hid hD
        clear hown1 HO hdl hcl hxl hu hD h0
        have j0 : (0 : Int) ≤ (j : Int) := by omega
        have j1 : (j : Int) < (s.size : Int) := by omega
        have kk : (j : Int) + 1 < (s.size : Int) := by omega
        have kz : (0 : Int) ≤ (j : Int) + 1 := by omega
        have e2 : ((j : Int) + 1).toNat = j + 1 := by omega
        have d0 : (0 : Int) ≤ (D : Int) := by omega
        have hbs := hb.size
        rw [show ((j + 1 : Nat) : Int) = (j : Int) + 1 by omega]
        by_cases hc : s[j + 1] = s[j]
        · have hq : ((s[j + 1].toNat : Int) == (s[j].toNat : Int)) = true := by rw [hc]; simp
          have HR : Hid ((wr.setCell ⟨g, D * 3 + 1, none⟩ (.int .i64 ((j : Int) + 1))).ownsRow w.heap.size 43 3 (.slice (some ⟨g, 0, none⟩) (D + 1) c) (runsL s (j + 2)).length (strkCells (runsL s (j + 2)))) := Lib.hid (by
            obtain ⟨x1, x2⟩ := runs_same (s := s) (k := j) (by rw [byte_at s _ hlt, byte_at s _ hjs, hc])
            rw [← HD.out] at x1 x2
            rw [x2, ← x1]; exact (HO1.out.stored _ _).1)
          clear hc
          go_wp2
          go_quiet (fail)
          go_wp2
          go_roundw
          case rel => exact ⟨j + 2, by omega, by go_num, HR.out, below_drewN (hb.setCell (p := ⟨g, D * 3 + 1, none⟩) hgb _) _⟩
          case measure => simp [intOf]; omega
        · have hq : ((s[j + 1].toNat : Int) == (s[j].toNat : Int)) = false := by
            rw [beq_eq_false_iff_ne]; intro e; apply hc; exact UInt8.toNat_inj.1 (by omega)
          have HE : Hid (strkCells (runsL s (j + 1)) ++ [Value.int .i64 ((j : Int) + 1), .int .i64 ((j : Int) + 1), .string (s.extract (j + 1) (j + 1 + 1))] = strkCells (runsL s (j + 2)) ∧ (runsL s (j + 2)).length = D + 1 + 1) := Lib.hid (by
            have := runs_new (s := s) (k := j) (by rw [byte_at s _ hlt, byte_at s _ hjs]; intro e; injection e with e; exact hc e)
            rw [← HD.out] at this
            exact this)
          clear hc
          have k3 : (j : Int) + 1 ≤ (j : Int) + 1 + 1 := by omega
          have k4 : (j : Int) + 1 + 1 ≤ (s.size : Int) := by omega
          have k5 : ((j : Int) + 1 + 1).toNat = j + 1 + 1 := by omega
          go_wp2
          go_quiet (fail)
          go_wp2_with (at_builtin; refine wpList_append_own _ rfl (.tmp 32) (.tmp 41) _ rfl w.heap.size 43 i0 _ 3 32 Try.underlying26 hi hz0 hz1 hz2 rfl (by decide) _ (D + 1) (strkCells (runsL s (j + 1))) rfl (World.ownsRow.alloc HO1.out _) ⟨wr.heap.size, 0, none⟩ 1 1 [.int .i64 ((j : Int) + 1), .int .i64 ((j : Int) + 1), .string (s.extract (j + 1) (j + 1 + 1))] rfl rfl (World.news_of_block (cs := #[.int .i64 ((j : Int) + 1), .int .i64 ((j : Int) + 1), .string (s.extract (j + 1) (j + 1 + 1))]) (t := 43) (fr := (0, 0)) (heap_alloc_new wr _)) (by simp [Value.oneCell']) (by unfold maxLen; omega) (by omega) (by simp; omega) ?_; intro v' w3 hown' hgrow _)
          have HR : Hid (w3.ownsRow w.heap.size 43 3 v' (runsL s (j + 2)).length (strkCells (runsL s (j + 2)))) := Lib.hid (by rw [HE.out.2, ← HE.out.1]; exact hown')
          have HB3 : Hid (Below w.heap.size w w3) := Lib.hid ((below_drewN (hb.alloc hbs _) _).grown hgrow (by simp; omega) fun x hx => (World.ownsRow.lt HO1.out x hx).1)
          clear hown' hgrow
          go_roundw
          case rel => exact ⟨j + 2, by omega, by go_num, HR.out, HB3.out⟩
          case measure => simp [intOf]; omega
    · obtain rfl : k = s.size := by omega
      go_wp2
      go_ret
      exact ⟨_, rfl, HO.out, hb⟩

theorem runsL_cnt {s : ByteArray} (h : 1 ≤ s.size) : (runsL s s.size).length = cnt s (s.size - 1) := by
  have e := runsL_len s (s.size - 1)
  rw [show s.size - 1 + 1 = s.size by omega, doneL_cnt] at e
  exact e

theorem specCountRuns_any (s : ByteArray) (w : World) (hs : s.size ≤ maxLen) :
    Calls Try.prog 45 #[.string s] w fun e w' => e = .returned (.tuple (if okFence s = true then #[.int .i64 (cnt s (s.size - 1) : Int), .bool true] else #[.int .i64 0, .bool false])) ∧ Below w.heap.size w w' := by
  cases h : okFence s
  · rw [if_neg (by decide)]
    have H := Lib.hid h; clear h
    go_enter Try.func45, Try.ntmps45
    go_wp2_with (go_at_call 95; refine (stGood_any s _ hs).mono ?_; rintro e w' ⟨rfl, rfl⟩; rw [H.out])
    go_ret2
    exact ⟨rfl, Below.refl _ _⟩
  · rw [if_pos rfl]
    obtain ⟨h1, h20⟩ := okFence_size h
    have H := Lib.hid h; clear h
    have HZ : Hid (((runsL s s.size).length : Int) = (cnt s (s.size - 1) : Int)) := Lib.hid (by rw [runsL_cnt h1])
    go_enter Try.func45, Try.ntmps45
    go_wp2_with (first
      | (go_at_call 95; refine (stGood_any s _ hs).mono ?_; rintro e w' ⟨rfl, rfl⟩; rw [H.out])
      | (go_at_call 98; refine (stRuns_any s _ h20).mono ?_; rintro e w1 ⟨v, rfl, hown, hb⟩; obtain ⟨A, c, rfl⟩ := own_any hown; have HO := Lib.hid hown; clear hown))
    go_ret2
    exact ⟨ret_ib HZ.out, hb⟩

theorem lawCountRuns_walk (s : ByteArray) (w : World) (hs : s.size ≤ maxLen) :
    Calls Try.prog 10 #[.string s] w fun e w' => e = .returned (.bool true) ∧ Below w.heap.size w w' := by
  have hs0 := hs
  unfold maxLen at hs
  obtain ⟨p, q, hp⟩ : ∃ (p : Int) (q : Bool), (if okFence s = true then #[.int .i64 (cnt s (s.size - 1) : Int), .bool true] else #[.int .i64 0, .bool false] : Array Value) = #[.int .i64 p, .bool q] := by
    split
    · exact ⟨_, _, rfl⟩
    · exact ⟨_, _, rfl⟩
  have S := fun W : World => specCountRuns_any s W hs0
  have I := fun W : World => implCountRuns_any s W hs0
  rw [hp] at S I
  clear hp
  have HS := Lib.hid S
  have HI := Lib.hid I
  clear S I
  by_cases h : s.size ≤ 1048576
  · go_enter Try.func10, Try.ntmps10
    go_wp2_with (first
      | (go_at_call 45; refine (HS.out _).mono ?_; rintro e w1 ⟨rfl, hb⟩)
      | (go_at_call 44; refine (HI.out _).mono ?_; rintro e w1 ⟨rfl, hb1⟩))
    go_ret
    exact ⟨rfl, below_next hb hb1⟩
  · go_enter Try.func10, Try.ntmps10
    go_wp2
    go_ret
    exact ⟨rfl, Below.refl _ _⟩
end Go.Proofs.Ytcgkjhomjdgmhaa
