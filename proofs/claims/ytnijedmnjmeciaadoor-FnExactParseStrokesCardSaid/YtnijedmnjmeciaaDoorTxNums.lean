/- Lists of numbers in bounds: slices.Min, slices.Max, 'impl.areNumbers', 'spec.l1In', 'spec.l1All', and widths and rates. No condition but the lists' lengths. -/
import Derived.Test.YtnijedmnjmeciaaDoorTxIn
import Derived.Lib.MinMax
import Derived.Lib.Slices
namespace Go.Proofs.YtnijedmnjmeciaaDoor.Tx
open Go.RowKit

theorem getD_lt (zs : List Int) (k : Nat) (h : k < zs.length) : zs.getD k 0 = zs[k] := by
  rw [List.getD_eq_getElem?_getD, List.getElem?_eq_getElem h]; rfl

/-- all numbers of a list lie in bounds -/
def allIn (lo hi : Int) (L : List Int) : Bool := L.all fun x => decide (lo ≤ x ∧ x ≤ hi)
/-- 1 to n numbers from 1 to m -/
def okNums (n : Nat) (m : Int) (L : List Int) : Bool := decide (1 ≤ L.length ∧ L.length ≤ n) && allIn 1 m L
theorem allIn_succ {lo hi : Int} {L : List Int} {k : Nat} (hk : k < L.length) (h : allIn lo hi (L.take k) = true) (h2 : lo ≤ L[k] ∧ L[k] ≤ hi) : allIn lo hi (L.take (k + 1)) = true := by
  unfold allIn at *
  rw [List.take_succ_eq_append_getElem hk, List.all_append, h]
  simp [h2]
theorem allIn_no {lo hi : Int} {L : List Int} {k : Nat} (hk : k < L.length) (h2 : ¬ (lo ≤ L[k] ∧ L[k] ≤ hi)) : allIn lo hi L = false := by
  unfold allIn
  rw [List.all_eq_false]
  exact ⟨L[k], List.getElem_mem hk, by simpa using h2⟩
theorem allIn_at {lo hi : Int} {L : List Int} (h : allIn lo hi L = true) {k : Nat} (hk : k < L.length) : lo ≤ L[k] ∧ L[k] ≤ hi := by
  unfold allIn at h
  rw [List.all_eq_true] at h
  exact of_decide_eq_true (h _ (List.getElem_mem hk))
theorem allIn_mem {lo hi : Int} {L : List Int} (h : allIn lo hi L = true) {x : Int} (hx : x ∈ L) : lo ≤ x ∧ x ≤ hi := by
  unfold allIn at h
  rw [List.all_eq_true] at h
  exact of_decide_eq_true (h _ hx)
theorem okNums_len {n : Nat} {m : Int} {L : List Int} (h : okNums n m L = true) : 1 ≤ L.length ∧ L.length ≤ n := by
  unfold okNums at h
  rw [Bool.and_eq_true, decide_eq_true_iff] at h
  exact h.1
theorem okNums_all {n : Nat} {m : Int} {L : List Int} (h : okNums n m L = true) : allIn 1 m L = true := by
  unfold okNums at h
  rw [Bool.and_eq_true] at h
  exact h.2
theorem okNums_at {n : Nat} {m : Int} {L : List Int} (h : okNums n m L = true) {k : Nat} (hk : k < L.length) : 1 ≤ L[k] ∧ L[k] ≤ m := allIn_at (okNums_all h) hk
theorem okNums_long {n : Nat} {m : Int} {L : List Int} (h : ¬ (1 ≤ L.length ∧ L.length ≤ n)) : okNums n m L = false := by
  unfold okNums; rw [decide_eq_false h]; rfl
theorem okNums_of {n : Nat} {m : Int} {L : List Int} (h : 1 ≤ L.length ∧ L.length ≤ n) : okNums n m L = allIn 1 m L := by
  unfold okNums; rw [decide_eq_true h]; rfl

theorem foldl_max_le (L : List Int) : ∀ (a m : Int), (L.foldl max a ≤ m ↔ a ≤ m ∧ ∀ x ∈ L, x ≤ m) := by
  induction L with
  | nil => intro a m; simp
  | cons z L ih =>
    intro a m
    rw [List.foldl_cons, ih]
    simp only [List.mem_cons, forall_eq_or_imp]
    constructor
    · rintro ⟨h, h2⟩; exact ⟨by omega, by omega, h2⟩
    · rintro ⟨h, h1, h2⟩; exact ⟨by omega, h2⟩
theorem foldl_min_ge (L : List Int) : ∀ (a m : Int), (m ≤ L.foldl min a ↔ m ≤ a ∧ ∀ x ∈ L, m ≤ x) := by
  induction L with
  | nil => intro a m; simp
  | cons z L ih =>
    intro a m
    rw [List.foldl_cons, ih]
    simp only [List.mem_cons, forall_eq_or_imp]
    constructor
    · rintro ⟨h, h2⟩; exact ⟨by omega, by omega, h2⟩
    · rintro ⟨h, h1, h2⟩; exact ⟨by omega, h2⟩
theorem maxOf_le {L : List Int} (h : 0 < L.length) (m : Int) : (Lib.maxOf L ≤ m ↔ ∀ x ∈ L, x ≤ m) := by
  unfold Lib.maxOf
  rw [foldl_max_le]
  match L, h with
  | z :: L, _ => simp
theorem minOf_ge {L : List Int} (h : 0 < L.length) (m : Int) : (m ≤ Lib.minOf L ↔ ∀ x ∈ L, m ≤ x) := by
  unfold Lib.minOf
  rw [foldl_min_ge]
  match L, h with
  | z :: L, _ => simp
theorem minMax_all {L : List Int} (h : 0 < L.length) (lo hi : Int) : (decide (lo ≤ Lib.minOf L) && decide (Lib.maxOf L ≤ hi)) = allIn lo hi L := by
  rw [Bool.eq_iff_iff, Bool.and_eq_true, decide_eq_true_iff, decide_eq_true_iff, minOf_ge h, maxOf_le h]
  unfold allIn
  rw [List.all_eq_true]
  constructor
  · rintro ⟨h1, h2⟩ x hx; exact decide_eq_true ⟨h1 x hx, h2 x hx⟩
  · intro h1; exact ⟨fun x hx => (of_decide_eq_true (h1 x hx)).1, fun x hx => (of_decide_eq_true (h1 x hx)).2⟩

end Go.Proofs.YtnijedmnjmeciaaDoor.Tx
