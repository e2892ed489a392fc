/- RunsOf: the model's function, and the law's walk. No condition but the text's length. -/
import Derived.Test.YtcgkjhomjdgmhaaRuns4
namespace Go.Proofs.Ytcgkjhomjdgmhaa
open Go.RowKit Go.Maps

def accS (L : List Strk) (j : Nat) : List Strk := (L.take j).filter nbR
theorem accS_yes {L : List Strk} {j : Nat} (hj : j < L.length) (h : nbR L[j] = true) : accS L (j + 1) = accS L j ++ [L[j]] := by
  unfold accS; rw [List.take_succ_eq_append_getElem hj, List.filter_append]; simp [h]
theorem accS_no {L : List Strk} {j : Nat} (hj : j < L.length) (h : nbR L[j] = false) : accS L (j + 1) = accS L j := by
  unfold accS; rw [List.take_succ_eq_append_getElem hj, List.filter_append]; simp [h]
theorem accS_len (L : List Strk) (j : Nat) : (accS L j).length ≤ j := by
  unfold accS
  have := List.length_filter_le nbR (L.take j)
  rw [List.length_take] at this; omega
theorem accS_all (L : List Strk) : accS L L.length = L.filter nbR := by unfold accS; rw [List.take_length]
theorem runsL_pos {s : ByteArray} (h : 1 ≤ s.size) : 0 < (runsL s s.size).length := by
  rw [runsL_cnt h, ← doneL_cnt]; omega
theorem runsL_le {s : ByteArray} (h : 1 ≤ s.size) : (runsL s s.size).length ≤ s.size := by
  have := cnt_le s (s.size - 1)
  rw [runsL_cnt h]; omega

theorem heap_alloc_new2 (w : World) (o o' : Obj) : ((w.alloc o).alloc o').heap[w.heap.size + 1]? = some o' := by
  have := heap_alloc_new (w.alloc o) o'
  have e : (w.alloc o).heap.size = w.heap.size + 1 := Array.size_push _
  rw [e] at this
  exact this

set_option maxRecDepth 20000 in
set_option maxHeartbeats 1600000 in
theorem specRunsOf_yes (s : ByteArray) (w : World) (hs : s.size ≤ maxLen) (hok : okFence s = true) :
    Calls Try.prog 43 #[.string s] w fun e w' => ∃ v, e = .returned (.tuple #[v, .bool true]) ∧ w'.ownsRow w.heap.size 43 3 v (outR s).length (strkCells (outR s)) ∧ Below w.heap.size w w' := by
  obtain ⟨i0, hi, hz0, hz1, hz2⟩ := info_parts info_strk
  obtain ⟨h1, h20⟩ := okFence_size hok
  have hpos := runsL_pos h1
  have hle := runsL_le h1
  have HE : Hid (outR s = (runsL s s.size).filter nbR) := Lib.hid rfl
  have HR0 := Lib.hid fun W => stRuns_any s W h20
  have H := Lib.hid hok
  obtain ⟨L, hL⟩ : ∃ L, L = runsL s s.size := ⟨_, rfl⟩
  rw [← hL] at hpos hle HE HR0
  clear hok hL
  go_enter Try.func43, Try.ntmps43
  go_wp2_with (first
    | (go_at_call 95; refine (stGood_any s _ hs).mono ?_; rintro e w' ⟨rfl, rfl⟩; rw [H.out])
    | (go_at_call 98; refine (HR0.out _).mono ?_; rintro e w1 ⟨v, rfl, hown, hb⟩; obtain ⟨g, c, rfl, -, hg⟩ := own_some hown hpos; have HT := Lib.hid hown; have HB1 := Lib.hid hb; clear hown hb))
  go_loopw [4, 13] (fun v i wr => ∃ j : Nat, j ≤ L.length ∧ i = .int .i64 j ∧ wr.ownsRow w1.heap.size 43 3 v (accS L j).length (strkCells (accS L j)) ∧ Below w1.heap.size w1 wr) (fun _ i _ => L.length - (intOf i).toNat)
  case atStart => exact ⟨0, Nat.zero_le _, rfl, World.ownsRow_nil _ _ _ _, Below.refl _ _⟩
  case round =>
    obtain ⟨j, hj, rfl, hown, hb⟩ := hrel
    have HO := Lib.hid hown
    clear hown
    by_cases hlt : j < L.length
    · obtain ⟨k1, k2, k3⟩ := strkCells_at L j hlt
      have d1 := (hb.cell (p := ⟨g, j * 3, none⟩) hg).trans ((HT.out.cellAt _ (by omega)).trans k1)
      have d2 := (hb.cell (p := ⟨g, j * 3 + 1, none⟩) hg).trans ((HT.out.cellAt _ (by omega)).trans k2)
      have d3 := (hb.cell (p := ⟨g, j * 3 + 2, none⟩) hg).trans ((HT.out.cellAt _ (by omega)).trans k3)
      clear k1 k2 k3
      have hlen := accS_len L j
      have hbs := hb.size
      cases hn : nbR L[j]
      · have HN := Lib.hid (accS_no hlt hn)
        have hq : (L[j].c.toList == [46]) = true := by unfold nbR at hn; simpa using hn
        clear hn
        go_wp2
        go_roundw
        case rel => exact ⟨j + 1, by omega, by go_num, by rw [HN.out]; exact World.ownsRow.alloc HO.out _, hb.alloc hbs _⟩
        case measure => simp [intOf]; omega
      · have HN := Lib.hid (accS_yes hlt hn)
        have hq : (L[j].c.toList == [46]) = false := by unfold nbR at hn; simpa using hn
        clear hn
        have hsz := (hb.alloc hbs (.cells #[Value.int .i64 L[j].f, .int .i64 L[j].t, .string L[j].c] 43)).size
        go_wp2_with (at_builtin; refine wpList_append_own _ rfl (.tmp 20) (.tmp 22) _ rfl w1.heap.size 43 i0 _ 3 32 Try.underlying26 hi hz0 hz1 hz2 rfl (by decide) _ (accS L j).length (strkCells (accS L j)) rfl (World.ownsRow.alloc (World.ownsRow.alloc HO.out _) _) ⟨wr.heap.size + 1, 0, none⟩ 1 1 [.int .i64 L[j].f, .int .i64 L[j].t, .string L[j].c] rfl rfl (World.news_of_block (cs := #[.int .i64 L[j].f, .int .i64 L[j].t, .string L[j].c]) (t := 43) (fr := (0, 0)) (heap_alloc_new2 wr _ _)) (by simp [Value.oneCell']) (by unfold maxLen; omega) (by omega) (by simp; omega) ?_; intro v' w3 hown' hgrow _)
        have HR : Hid (w3.ownsRow w1.heap.size 43 3 v' (accS L (j + 1)).length (strkCells (accS L (j + 1)))) := Lib.hid (by
          rw [HN.out, List.length_append, ← strkCells_one (accS L j) L[j] L[j].c rfl]
          exact hown')
        have HB3 : Hid (Below w1.heap.size w1 w3) := Lib.hid (((hb.alloc hbs _).alloc hsz _).grown hgrow (by simp; omega) fun x hx => (World.ownsRow.lt HO.out x hx).1)
        clear hown' hgrow
        go_roundw
        case rel => exact ⟨j + 1, by omega, by go_num, HR.out, HB3.out⟩
        case measure => simp [intOf]; omega
    · obtain rfl : j = L.length := by omega
      have HN := Lib.hid ((accS_all L).trans HE.out.symm)
      go_wp2
      go_ret2
      exact ⟨_, rfl, own_mono (by rw [← HN.out]; exact HO.out) HB1.out.size, below_next HB1.out hb⟩
end Go.Proofs.Ytcgkjhomjdgmhaa
