/- Runs of one colour: 'impl.runEnds', CountRuns of the program. No condition but the text's length. -/
import Derived.Test.YtcgkjhomjdgmhaaUsed
import Derived.Maps.Own
import Derived.Maps.OwnOps
import Derived.Maps.OwnSet
import Derived.Maps.Views
namespace Go.Proofs.Ytcgkjhomjdgmhaa
open Go.RowKit Go.Maps

/-- the first board of the run that a board is in -/
def fo (s : ByteArray) : Nat → Nat
  | 0 => 0
  | k + 1 => if s.data.toList[k + 1]? = s.data.toList[k]? then fo s k else k + 1
/-- that of the board before -/
def fp (s : ByteArray) : Nat → Nat
  | 0 => 0
  | k + 1 => fo s k
/-- how many runs the boards up to one are -/
def cnt (s : ByteArray) : Nat → Nat
  | 0 => 1
  | k + 1 => if s.data.toList[k + 1]? = s.data.toList[k]? then cnt s k else cnt s k + 1
theorem fo_le (s : ByteArray) : ∀ k, fo s k ≤ k
  | 0 => Nat.le_refl _
  | k + 1 => by
    have := fo_le s k
    unfold fo; split <;> omega
theorem fo_same (s : ByteArray) : ∀ k, s.data.toList[fo s k]? = s.data.toList[k]?
  | 0 => rfl
  | k + 1 => by
    unfold fo
    by_cases h : s.data.toList[k + 1]? = s.data.toList[k]?
    · rw [if_pos h, fo_same s k, h]
    · rw [if_neg h]
theorem fp_le (s : ByteArray) (k : Nat) : fp s k ≤ k := by
  cases k with
  | zero => exact Nat.le_refl _
  | succ k => exact Nat.le_succ_of_le (fo_le s k)
theorem fo_keep {s : ByteArray} {k : Nat} (h : s.data.toList[k]? = s.data.toList[fp s k]?) : fo s k = fp s k := by
  cases k with
  | zero => rfl
  | succ k =>
    unfold fo
    rw [fp] at h
    rw [fo_same] at h
    rw [if_pos h]; rfl
theorem fo_new {s : ByteArray} {k : Nat} (h : s.data.toList[k]? ≠ s.data.toList[fp s k]?) : fo s k = k := by
  cases k with
  | zero => rfl
  | succ k =>
    unfold fo
    rw [fp] at h
    rw [fo_same] at h
    rw [if_neg h]
theorem byte_at (t : ByteArray) (j : Nat) (h : j < t.size) : t.data.toList[j]? = some t[j] := by
  rw [List.getElem?_eq_getElem (by simpa using h)]; rfl

/-- the map of the runs: their first boards, their last ones -/
def mapD (s : ByteArray) : Nat → DataW Unit
  | 0 => .map []
  | k + 1 => (mapD s k).put (.int .i64 (fo s k : Int)) (.lit (.int .i64 (k : Int)))
theorem isKey (n : Int) : WideAt.IsKeyLit (.int .i64 n) := by trivial
theorem mapD_is (s : ByteArray) (k : Nat) : IsMap (mapD s k) := by
  induction k with
  | zero => exact ⟨[], rfl⟩
  | succ k ih => exact ih.put _ _
theorem mapD_tidy (s : ByteArray) (k : Nat) : Tidy (mapD s k) := by
  induction k with
  | zero => exact tidy_empty
  | succ k ih => exact ih.put (isKey _) _
theorem mapD_has (s : ByteArray) (x : Int) : ∀ k, has (mapD s k) (.int .i64 x) = true ↔ ∃ j, j < k ∧ (fo s j : Int) = x
  | 0 => by
    constructor
    · intro h; cases h
    · rintro ⟨j, hj, _⟩; omega
  | k + 1 => by
    have ih := mapD_has s x k
    by_cases e : (fo s k : Int) = x
    · subst e
      exact ⟨fun _ => ⟨k, by omega, rfl⟩, fun _ => has_put_same (mapD_is s k) (isKey _) _⟩
    · have : has (mapD s (k + 1)) (.int .i64 x) = has (mapD s k) (.int .i64 x) := has_put_other (by intro h; injection h with _ h; exact e h.symm) _
      rw [this, ih]
      constructor
      · rintro ⟨j, hj, h⟩; exact ⟨j, by omega, h⟩
      · rintro ⟨j, hj, h⟩
        rcases Nat.lt_or_ge j k with l | l
        · exact ⟨j, l, h⟩
        · obtain rfl : j = k := by omega
          exact absurd h e
theorem mapD_size (s : ByteArray) : ∀ k, size (mapD s (k + 1)) = cnt s k
  | 0 => by
    rw [mapD, size_put (mapD_tidy s 0)]
    rfl
  | k + 1 => by
    rw [mapD, size_put (mapD_tidy s (k + 1)), mapD_size s k, cnt]
    by_cases h : s.data.toList[k + 1]? = s.data.toList[k]?
    · have e : fo s (k + 1) = fo s k := by rw [fo, if_pos h]
      have : has (mapD s (k + 1)) (.int .i64 (fo s (k + 1) : Int)) = true := (mapD_has s _ (k + 1)).2 ⟨k, by omega, by rw [e]⟩
      rw [this, if_pos rfl, if_pos h]
    · have e : fo s (k + 1) = k + 1 := by rw [fo, if_neg h]
      have : has (mapD s (k + 1)) (.int .i64 (fo s (k + 1) : Int)) = false := by
        rw [Bool.eq_false_iff]
        intro hh
        obtain ⟨j, hj, hf⟩ := (mapD_has s _ (k + 1)).1 hh
        have := fo_le s j
        rw [e] at hf; omega
      rw [this, if_neg (by decide), if_neg h]

theorem keyed_int : Keyed Try.prog 3 := int_keyed Try.underlying3
def MapAt (w : World) (b n : Nat) (D : DataW Unit) : Prop := w.ownsMap Try.prog 3 (plainElem Try.prog 3) b n D
theorem small_wf (n : Nat) (h : n ≤ 1048576) : (Lit.int .i64 (n : Int)).wf = true := WalkArith.wf_i64 (by omega)

set_option maxHeartbeats 1000000 in
theorem runEnds_any (s : ByteArray) (w : World) (h1 : 1 ≤ s.size) (h20 : s.size ≤ 20) :
    Calls Try.prog 97 #[.string s] w fun e w' => e = .returned (.map (some w.heap.size)) ∧ MapAt w' w.heap.size s.size (mapD s s.size) ∧ Below w.heap.size w w' := by
  have hmm := @run_makeMap Try.prog
  go_enter Try.func97, Try.ntmps97
  go_wp2
  go_loopw [4, 9] (fun f i wr => ∃ k : Nat, k ≤ s.size ∧ i = .int .i64 k ∧ f = .int .i64 (fp s k : Int) ∧ MapAt wr w.heap.size k (mapD s k) ∧ Below w.heap.size w wr) (fun _ i _ => s.size - (intOf i).toNat)
  case atStart => exact ⟨0, Nat.zero_le _, rfl, rfl, World.ownsMap_made _ _ _ _, below_new _ _⟩
  case round =>
    obtain ⟨k, hk, rfl, rfl, hown, hb⟩ := hrel
    have HO := Lib.hid hown
    clear hown
    by_cases hlt : k < s.size
    · have hf := fp_le s k
      have hfl : fp s k < s.size := by omega
      have k0 : (0 : Int) ≤ (k : Int) := by omega
      have k1 : (k : Int) < (s.size : Int) := by omega
      have f0 : (0 : Int) ≤ (fp s k : Int) := by omega
      have f1 : (fp s k : Int) < (s.size : Int) := by omega
      have hkey : keyOf Try.prog 3 (.int .i64 (fo s k : Int)) = some (.int .i64 (fo s k : Int)) := keyOf_int_mk Try.underlying3 (small_wf _ (by have := fo_le s k; omega))
      have hel : plainElem (H := Unit) Try.prog 3 (.int .i64 (k : Int)) = some (.lit (.int .i64 (k : Int)), []) := plainElem_int Try.underlying3 (small_wf _ (by omega))
      have HK := Lib.hid hkey
      have HE := Lib.hid hel
      clear hkey hel
      by_cases hc : s[k] = s[fp s k]
      · have HF : Hid (fo s k = fp s k) := Lib.hid (fo_keep (by rw [byte_at s k hlt, byte_at s _ hfl, hc]))
        have hq : ((s[k].toNat : Int) != (s[fp s k].toNat : Int)) = false := by rw [hc]; simp
        clear hc
        go_wp2
        go_quiet (fail)
        have hkey2 : Hid (keyOf Try.prog 3 (.int .i64 (fp s k : Int)) = some (.int .i64 (fo s k : Int))) := Lib.hid (by rw [← HF.out]; exact HK.out)
        go_wp2_with (at_mapUpdate; refine wpList_mapUpdate_own _ rfl _ _ _ 83 rfl 3 3 keyed_int Try.underlying83 _ w.heap.size k _ rfl HO.out (by unfold maxLen; omega) _ _ _ rfl rfl hkey2.out _ [] HE.out ?_; intro w1 hown1 hgrow1)
        have HO1 := Lib.hid hown1
        have HB : Hid (Below w.heap.size w w1) := Lib.hid ((below_drewN hb _).grown hgrow1 hb.size fun j hj => by cases hj; exact Nat.le_refl _)
        clear hown1 hgrow1
        go_roundw
        case rel => exact ⟨k + 1, by omega, by go_num, by rw [← HF.out]; rfl, HO1.out, HB.out⟩
        case measure => simp [intOf]; omega
      · have HF : Hid (fo s k = k) := Lib.hid (fo_new (by rw [byte_at s k hlt, byte_at s _ hfl]; intro e; injection e with e; exact hc e))
        have hq : ((s[k].toNat : Int) != (s[fp s k].toNat : Int)) = true := by
          rw [bne_iff_ne]; intro e; apply hc; exact UInt8.toNat_inj.1 (by omega)
        clear hc
        go_wp2
        go_quiet (fail)
        have hkey2 : Hid (keyOf Try.prog 3 (.int .i64 (k : Int)) = some (.int .i64 (fo s k : Int))) := Lib.hid (by have := HK.out; rw [HF.out] at this ⊢; exact this)
        go_wp2_with (at_mapUpdate; refine wpList_mapUpdate_own _ rfl _ _ _ 83 rfl 3 3 keyed_int Try.underlying83 _ w.heap.size k _ rfl HO.out (by unfold maxLen; omega) _ _ _ rfl rfl hkey2.out _ [] HE.out ?_; intro w1 hown1 hgrow1)
        have HO1 := Lib.hid hown1
        have HB : Hid (Below w.heap.size w w1) := Lib.hid ((below_drewN hb _).grown hgrow1 hb.size fun j hj => by cases hj; exact Nat.le_refl _)
        clear hown1 hgrow1
        go_roundw
        case rel => exact ⟨k + 1, by omega, by go_num, by show _ = Value.int .i64 (fo s k : Int); rw [HF.out], HO1.out, HB.out⟩
        case measure => simp [intOf]; omega
    · obtain rfl : k = s.size := by omega
      go_wp2
      go_ret
      exact ⟨rfl, HO.out, hb⟩

theorem implCountRuns_any (s : ByteArray) (w : World) (hs : s.size ≤ maxLen) :
    Calls Try.prog 44 #[.string s] w fun e w' => e = .returned (.tuple (if okFence s = true then #[.int .i64 (cnt s (s.size - 1) : Int), .bool true] else #[.int .i64 0, .bool false])) ∧ Below w.heap.size w w' := by
  cases h : okFence s
  · rw [if_neg (by decide)]
    have H := Lib.hid h; clear h
    go_enter Try.func44, Try.ntmps44
    go_wp2_with (go_at_call 56; refine (implIsFence_any s _ hs).mono ?_; rintro e w' ⟨rfl, rfl⟩; rw [H.out])
    go_ret2
    exact ⟨rfl, Below.refl _ _⟩
  · rw [if_pos rfl]
    obtain ⟨h1, h20⟩ := okFence_size h
    have H := Lib.hid h; clear h
    have HZ : Hid ((size (mapD s s.size) : Int) = (cnt s (s.size - 1) : Int)) := Lib.hid (by
      have := mapD_size s (s.size - 1)
      rw [show s.size - 1 + 1 = s.size by omega] at this
      rw [this])
    go_enter Try.func44, Try.ntmps44
    go_wp2_with (first
      | (go_at_call 56; refine (implIsFence_any s _ hs).mono ?_; rintro e w' ⟨rfl, rfl⟩; rw [H.out])
      | (go_at_call 97; refine (runEnds_any s _ h1 h20).mono ?_; rintro e w1 ⟨rfl, hown, hb⟩; have HO := Lib.hid hown; clear hown)
      | (at_len; refine wpList_len_own _ rfl _ 83 rfl 3 3 Try.underlying83 _ w.heap.size s.size (mapD s s.size) rfl HO.out ?_))
    go_ret2
    exact ⟨ret_ib HZ.out, hb⟩
end Go.Proofs.Ytcgkjhomjdgmhaa
