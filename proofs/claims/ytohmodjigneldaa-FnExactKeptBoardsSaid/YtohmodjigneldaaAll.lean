/- PaintAll: the two functions, and the law's walk. No condition but the lists' and the texts' lengths. -/
import Derived.Test.YtohmodjigneldaaUsed
namespace Go.Proofs.Ytohmodjigneldaa
open Go.RowKit

def paintK (s : ByteArray) (x : Strk) : ByteArray := paintS s x.f.toNat x.t.toNat x.c
/-- a fence behind the first j strokes of a list -/
def paintJ (s : ByteArray) (L : List Strk) (j : Nat) : ByteArray := (L.take j).foldl paintK s
theorem paintJ_succ (s : ByteArray) (L : List Strk) (j : Nat) (h : j < L.length) : paintJ s L (j + 1) = paintK (paintJ s L j) L[j] := by
  unfold paintJ; rw [List.take_succ_eq_append_getElem h, List.foldl_append]; rfl
theorem paintS_size {s : ByteArray} {f t : Nat} {c : ByteArray} (h1 : f ≤ t) (h2 : t < s.size) (hc : c.size = 1) : (paintS s f t c).size = s.size := by
  unfold paintS
  rw [ByteArray.size_append, ByteArray.size_append, repC_size, ByteArray.size_extract, ByteArray.size_extract, hc]
  omega
theorem paintJ_size {s : ByteArray} {L : List Strk} (h : ∀ k (hk : k < L.length), okS s.size L[k] = true) : ∀ j, j ≤ L.length → (paintJ s L j).size = s.size
  | 0, _ => rfl
  | j + 1, hj => by
    have ih := paintJ_size h j (by omega)
    obtain ⟨a, b, c, d⟩ := okS_nums (h j (by omega))
    rw [paintJ_succ s L j (by omega)]
    unfold paintK
    rw [paintS_size (by omega) (by omega) d, ih]

/-- a fence behind the first j strokes of a list, the one with the index x left out -/
def paintX (s : ByteArray) (L : List Strk) (x : Nat) : Nat → ByteArray
  | 0 => s
  | j + 1 => if j = x then paintX s L x j else match L[j]? with | some y => paintK (paintX s L x j) y | none => paintX s L x j
theorem paintX_skip (s : ByteArray) (L : List Strk) (x : Nat) : paintX s L x (x + 1) = paintX s L x x := by
  rw [paintX, if_pos rfl]
theorem paintX_step (s : ByteArray) (L : List Strk) (x j : Nat) (h : j < L.length) (hx : j ≠ x) : paintX s L x (j + 1) = paintK (paintX s L x j) L[j] := by
  rw [paintX, if_neg hx, List.getElem?_eq_getElem h]
theorem paintX_all (s : ByteArray) (L : List Strk) : ∀ j, j ≤ L.length → paintX s L L.length j = paintJ s L j
  | 0, _ => rfl
  | j + 1, hj => by
    rw [paintX_step s L _ j (by omega) (by omega), paintX_all s L j (by omega), paintJ_succ s L j (by omega)]
theorem paintX_size {s : ByteArray} {L : List Strk} (x : Nat) (h : ∀ k (hk : k < L.length), okS s.size L[k] = true) : ∀ j, j ≤ L.length → (paintX s L x j).size = s.size
  | 0, _ => rfl
  | j + 1, hj => by
    have ih := paintX_size x h j (by omega)
    by_cases hx : j = x
    · subst hx; rw [paintX_skip, ih]
    · obtain ⟨a, b, c, d⟩ := okS_nums (h j (by omega))
      rw [paintX_step s L x j (by omega) hx]
      unfold paintK
      rw [paintS_size (by omega) (by omega) d, ih]

end Go.Proofs.Ytohmodjigneldaa
