/- LongestRun: the functions, and the law's walk. No condition but the text's length. -/
import Derived.Test.YtcgkjhomjdgmhaaRuns6
namespace Go.Proofs.Ytcgkjhomjdgmhaa
open Go.RowKit Go.Maps

def lstep (p : Int × Int) (x : Strk) : Int × Int := if p.2 < x.t - x.f + 1 then (x.f, x.t - x.f + 1) else p
def longF (L : List Strk) (j : Nat) : Int × Int := (L.take j).foldl lstep (0, 0)
def lstepN (p : Int × Int) (x : Strk) : Int × Int := if nbR x = true then lstep p x else p
def longG (L : List Strk) (j : Nat) : Int × Int := (L.take j).foldl lstepN (0, 0)
theorem longF_succ {L : List Strk} {j : Nat} (h : j < L.length) : longF L (j + 1) = lstep (longF L j) L[j] := by
  unfold longF; rw [List.take_succ_eq_append_getElem h, List.foldl_append]; rfl
theorem longG_succ {L : List Strk} {j : Nat} (h : j < L.length) : longG L (j + 1) = lstepN (longG L j) L[j] := by
  unfold longG; rw [List.take_succ_eq_append_getElem h, List.foldl_append]; rfl
theorem long_eq (L : List Strk) : longF (L.filter nbR) (L.filter nbR).length = longG L L.length := by
  unfold longF longG
  rw [List.take_length, List.take_length, List.foldl_filter]
  rfl
/-- numbers of boards -/
def Small (x : Strk) : Prop := 0 ≤ x.f ∧ x.f ≤ 20 ∧ 0 ≤ x.t ∧ x.t ≤ 20
theorem lastR_small (s : ByteArray) (k : Nat) (h : k ≤ 20) : Small (lastR s k) := by
  have := fo_le s k
  unfold Small lastR; dsimp only; omega
theorem doneL_small (s : ByteArray) : ∀ k, k ≤ 20 → ∀ x ∈ doneL s k, Small x
  | 0, _, x, h => by cases h
  | k + 1, hk, x, h => by
    have ih := doneL_small s k (by omega)
    unfold doneL at h
    split at h
    · exact ih x h
    · rcases List.mem_append.1 h with h | h
      · exact ih x h
      · obtain rfl : x = lastR s k := by simpa using h
        exact lastR_small s k (by omega)
theorem runsL_small (s : ByteArray) (k : Nat) (hk : k ≤ 20) : ∀ x ∈ runsL s k, Small x := by
  intro x h
  cases k with
  | zero => cases h
  | succ k =>
    unfold runsL at h
    rcases List.mem_append.1 h with h | h
    · exact doneL_small s k (by omega) x h
    · obtain rfl : x = lastR s k := by simpa using h
      exact lastR_small s k (by omega)
theorem longF_ok {L : List Strk} (hL : ∀ x ∈ L, Small x) : ∀ j, j ≤ L.length → 0 ≤ (longF L j).2 ∧ (longF L j).2 ≤ 21 ∧ 0 ≤ (longF L j).1 ∧ (longF L j).1 ≤ 20 ∧ ((longF L j).2 = 0 → (longF L j).1 = 0)
  | 0, _ => by show (0 : Int) ≤ 0 ∧ (0 : Int) ≤ 21 ∧ (0 : Int) ≤ 0 ∧ (0 : Int) ≤ 20 ∧ ((0 : Int) = 0 → (0 : Int) = 0); decide
  | j + 1, h => by
    have ih := longF_ok hL j (by omega)
    have hs : Small L[j] := hL _ (List.getElem_mem (by omega))
    unfold Small at hs
    rw [longF_succ (by omega)]
    unfold lstep
    by_cases hc : (longF L j).2 < L[j].t - L[j].f + 1
    · rw [if_pos hc]; dsimp only; omega
    · rw [if_neg hc]; exact ih
theorem longG_ok {L : List Strk} (hL : ∀ x ∈ L, Small x) : ∀ j, j ≤ L.length → 0 ≤ (longG L j).2 ∧ (longG L j).2 ≤ 21 ∧ 0 ≤ (longG L j).1 ∧ (longG L j).1 ≤ 20 ∧ ((longG L j).2 = 0 → (longG L j).1 = 0)
  | 0, _ => by show (0 : Int) ≤ 0 ∧ (0 : Int) ≤ 21 ∧ (0 : Int) ≤ 0 ∧ (0 : Int) ≤ 20 ∧ ((0 : Int) = 0 → (0 : Int) = 0); decide
  | j + 1, h => by
    have ih := longG_ok hL j (by omega)
    have hs : Small L[j] := hL _ (List.getElem_mem (by omega))
    unfold Small at hs
    rw [longG_succ (by omega)]
    unfold lstepN lstep
    by_cases hn : nbR L[j] = true
    · rw [if_pos hn]
      by_cases hc : (longG L j).2 < L[j].t - L[j].f + 1
      · rw [if_pos hc]; dsimp only; omega
      · rw [if_neg hc]; exact ih
    · rw [if_neg hn]; exact ih
/-- what LongestRun answers -/
def longA (L : List Strk) : Array Value := #[.int .i64 (longF L L.length).1, .int .i64 (longF L L.length).2, .bool (decide (0 < (longF L L.length).2))]

set_option maxHeartbeats 1600000 in
theorem implLongest_any (s : ByteArray) (w : World) (hs : s.size ≤ maxLen) :
    Calls Try.prog 46 #[.string s] w fun e w' => e = .returned (.tuple (longA (resR s))) ∧ Below w.heap.size w w' := by
  have HI := Lib.hid (implRunsOf_any s w hs)
  have hlen := resR_len s
  have hsm : ∀ x ∈ resR s, Small x := by
    intro x h
    unfold resR at h
    split at h
    · next hok => exact runsL_small s s.size (okFence_size hok).2 x (List.mem_filter.1 h).1
    · cases h
  obtain ⟨L, hL⟩ : ∃ L, L = resR s := ⟨_, rfl⟩
  rw [← hL] at HI hlen hsm ⊢
  have HLF := Lib.hid (longF_ok hsm)
  have HSM := Lib.hid fun j (h : j < L.length) => hsm L[j] (List.getElem_mem h)
  clear hL hsm
  go_enter Try.func46, Try.ntmps46
  go_wp2_with (go_at_call 42; refine HI.out.mono ?_; rintro e w1 ⟨v, rfl, hown, hb⟩; obtain ⟨A1, c1, rfl⟩ := own_any hown; have HO := Lib.hid hown; have HB1 := Lib.hid hb; clear hown hb)
  rcases Nat.eq_zero_or_pos L.length with h0 | h0
  · obtain rfl : L = [] := List.eq_nil_of_length_eq_zero h0
    clear h0 HLF HSM
    refine wp_loop_rounds 1 ?_
    rw [rounds_succ]
    go_wp2
    go_ret3
    exact ⟨rfl, HB1.out⟩
  · obtain ⟨g, c2, hv, -, hg⟩ := own_some HO.out h0
    injection hv with hA _ _
    subst hA
    go_loopw [7, 8, 19] (fun a m i wr => ∃ j : Nat, j ≤ L.length ∧ i = .int .i64 j ∧ a = .int .i64 (longF L j).1 ∧ m = .int .i64 (longF L j).2 ∧ Below w1.heap.size w1 wr) (fun _ _ i _ => L.length - (intOf i).toNat)
    case atStart => exact ⟨0, Nat.zero_le _, rfl, rfl, rfl, Below.refl _ _⟩
    case round =>
      obtain ⟨j, hj, rfl, rfl, rfl, hb⟩ := hrel
      have hok := HLF.out j hj
      by_cases hlt : j < L.length
      · obtain ⟨k1, k2, k3⟩ := strkCells_at L j hlt
        have d1 := (hb.cell (p := ⟨g, j * 3, none⟩) hg).trans ((HO.out.cellAt _ (by omega)).trans k1)
        have d2 := (hb.cell (p := ⟨g, j * 3 + 1, none⟩) hg).trans ((HO.out.cellAt _ (by omega)).trans k2)
        have d3 := (hb.cell (p := ⟨g, j * 3 + 2, none⟩) hg).trans ((HO.out.cellAt _ (by omega)).trans k3)
        clear k1 k2 k3
        have hbs := hb.size
        have HS := Lib.hid (longF_succ hlt)
        have hx := HSM.out j hlt
        unfold Small at hx
        obtain ⟨F, hF⟩ : ∃ F, F = (longF L j).1 := ⟨_, rfl⟩
        obtain ⟨M, hM⟩ : ∃ M, M = (longF L j).2 := ⟨_, rfl⟩
        obtain ⟨f, hf⟩ : ∃ f, f = L[j].f := ⟨_, rfl⟩
        obtain ⟨t, ht⟩ : ∃ t, t = L[j].t := ⟨_, rfl⟩
        have HE : Hid (longF L (j + 1) = if M < t - f + 1 then (f, t - f + 1) else (F, M)) := Lib.hid (by rw [HS.out, hM, hF, hf, ht]; rfl)
        rw [← hF, ← hM] at hok ⊢
        rw [← hf, ← ht] at hx
        rw [← hf] at d1
        rw [← ht] at d2
        clear hF hM hf ht HS
        by_cases hc : M < t - f + 1
        · have HE1 : Hid (longF L (j + 1) = (f, t - f + 1)) := Lib.hid (by rw [HE.out, if_pos hc])
          go_wp2
          go_roundw
          case rel => exact ⟨j + 1, by omega, by go_num, by rw [HE1.out], by rw [HE1.out], hb.alloc hbs _⟩
          case measure => simp [intOf]; omega
        · have HE1 : Hid (longF L (j + 1) = (F, M)) := Lib.hid (by rw [HE.out, if_neg hc])
          go_wp2
          go_roundw
          case rel => exact ⟨j + 1, by omega, by go_num, by rw [HE1.out], by rw [HE1.out], hb.alloc hbs _⟩
          case measure => simp [intOf]; omega
      · obtain rfl : j = L.length := by omega
        go_wp2
        go_ret3
        exact ⟨by unfold longA; rfl, below_next HB1.out hb⟩
end Go.Proofs.Ytcgkjhomjdgmhaa
