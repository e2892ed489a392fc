/- KeptBoards: the boards that no stroke paints. Pure, and what the list of strokes is. -/
import Derived.Test.YtohmodjigneldaaFewFirst2
import Derived.Test.YtohmodjigneldaaCoats2
import Derived.Test.YtohmodjigneldaaInts2
namespace Go.Proofs.Ytohmodjigneldaa
open Go.RowKit

def keptB (L : List Strk) (i : Nat) : Bool := decide (coatF L L.length i = 0)
def keptJ (L : List Strk) (j : Nat) : List Int := ((List.range j).filter (keptB L)).map fun x : Nat => (x : Int)
theorem keptJ_len (L : List Strk) (j : Nat) : (keptJ L j).length ≤ j := by
  unfold keptJ
  rw [List.length_map]
  have := List.length_filter_le (keptB L) (List.range j)
  rwa [List.length_range] at this
theorem keptJ_yes {L : List Strk} {j : Nat} (h : keptB L j = true) : keptJ L (j + 1) = keptJ L j ++ [(j : Int)] := by
  unfold keptJ; rw [List.range_succ, List.filter_append, List.map_append]; simp [h]
theorem keptJ_no {L : List Strk} {j : Nat} (h : keptB L j = false) : keptJ L (j + 1) = keptJ L j := by
  unfold keptJ; rw [List.range_succ, List.filter_append, List.map_append]; simp [h]
noncomputable def keptR (s t : ByteArray) : List Int := if okFi s t = true then keptJ (fiR s t) t.size else []
theorem keptR_len (s t : ByteArray) : (keptR s t).length ≤ 20 := by
  unfold keptR
  split
  · next h =>
    have h2 : t.size ≤ 12 := by unfold okFi at h; rw [Bool.and_eq_true, decide_eq_true_iff] at h; exact h.2
    have := keptJ_len (fiR s t) t.size
    omega
  · exact Nat.zero_le _
theorem letB_col (k : Nat) (h : k < 5) : isCol ⟨#[letB k]⟩ = true := by
  have g : ∀ k : Fin 5, isCol ⟨#[letB k.val]⟩ = true := by decide +kernel
  exact g ⟨k, h⟩
theorem fiR_ok {s t : ByteArray} (h : okFi s t = true) (k : Nat) (hk : k < (fiR s t).length) : okS t.size (fiR s t)[k] = true := by
  have hl : okLead s t = true := by unfold okFi at h; rw [Bool.and_eq_true] at h; exact h.1
  obtain ⟨hs, ht, hst, hle⟩ := okLead_parts hl
  have e := fiR_yes h
  have hkm : k < Tx.fpN (Tx.cB t) (Tx.cB s) t.size := by rw [e, foL_len] at hk; exact hk
  have hp := fo_pick ht hst hle rfl k hkm
  have ex : (fiR s t)[k] = foX t s k := by
    simp only [e]
    unfold foL
    rw [List.getElem_map, List.getElem_range]
  rw [ex]
  have q1 := hp.fl
  have q2 := hp.ln
  unfold okS okStroke foX
  simp only
  rw [letB_col _ hp.k5, Bool.and_true, decide_eq_true_iff]
  omega
end Go.Proofs.Ytohmodjigneldaa
