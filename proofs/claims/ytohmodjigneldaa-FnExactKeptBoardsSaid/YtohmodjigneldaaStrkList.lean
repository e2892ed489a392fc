/- Lists of strokes of a fence: 'spec.stList', 'impl.areStrokesOf', 'impl.arePaintable'. No condition but the lists' and the texts' lengths. -/
import Derived.Test.YtohmodjigneldaaStrks
namespace Go.Proofs.Ytohmodjigneldaa
open Go.RowKit

def okS (n : Nat) (s : Strk) : Bool := okStroke n s.f s.t s.c
/-- a list of strokes of so many boards -/
def okList (n : Nat) (L : List Strk) : Bool := decide (L.length ≤ 40) && L.all (okS n)
theorem okList_long {n : Nat} {L : List Strk} (h : 40 < L.length) : okList n L = false := by
  unfold okList; rw [decide_eq_false (by omega)]; rfl
theorem okList_end {n : Nat} {L : List Strk} (h : L.length ≤ 40) (ha : (L.take L.length).all (okS n) = true) : okList n L = true := by
  rw [List.take_length] at ha
  unfold okList; rw [decide_eq_true h, ha]; rfl
theorem okList_no {n : Nat} {L : List Strk} (k : Nat) (hk : k < L.length) (h : okS n L[k] = false) : okList n L = false := by
  have : L.all (okS n) = false := by
    rw [List.all_eq_false]
    exact ⟨L[k], List.getElem_mem hk, by rw [h]; decide⟩
  unfold okList; rw [this, Bool.and_false]
theorem allS_succ {n : Nat} {L : List Strk} (k : Nat) (hk : k < L.length) (h : (L.take k).all (okS n) = true) (h2 : okS n L[k] = true) : (L.take (k + 1)).all (okS n) = true := by
  rw [List.take_succ_eq_append_getElem hk, List.all_append, h]; simp [h2]
theorem okList_at {n : Nat} {L : List Strk} (h : okList n L = true) : L.length ≤ 40 ∧ ∀ k (hk : k < L.length), okS n L[k] = true := by
  unfold okList at h
  rw [Bool.and_eq_true, decide_eq_true_iff, List.all_eq_true] at h
  exact ⟨h.1, fun k hk => h.2 _ (List.getElem_mem hk)⟩
theorem StrkSl.some {w : World} {A : Option Addr} {L : List Strk} (h : StrkSl w A L) (h0 : 0 < L.length) : ∃ g off, A = some ⟨g, off, none⟩ ∧ g < w.heap.size ∧ StrkAt w g off L := by
  rcases h with h | h
  · subst h; simp at h0
  · exact h

end Go.Proofs.Ytohmodjigneldaa
