/- A text's iterator among lists of the call's own. No condition. -/
import Derived.Test.YtohmodjigneldaaTxOpenI
import Derived.Lib.OthersKept
import Derived.Laws.RangeAny
namespace Go.Proofs.Ytohmodjigneldaa.Tx
open Go.RowKit

theorem below_iterAt {B0 B : Nat} {a w : World} (h : Below B0 a w) (hB : B0 ≤ B) (s : ByteArray) (k : Nat) : Below B0 a (w.iterAt B s k) := by
  refine ⟨h.os, h.tape, h.output, ?_, fun i hi => ?_⟩
  · have := h.size
    simpa [World.iterAt] using this
  · rw [← h.block i hi]
    show (w.heap.setIfInBounds B _)[i]? = _
    rw [Array.getElem?_setIfInBounds_ne (by omega)]
theorem grown_iterAt (w : World) (B : Nat) (s : ByteArray) (k : Nat) : w.grownBy (w.iterAt B s k) (some B) := by
  refine ⟨rfl, rfl, rfl, ?_, fun i hi hn => ?_⟩
  · simp [World.iterAt]
  · show (w.heap.setIfInBounds B _)[i]? = _
    rw [Array.getElem?_setIfInBounds_ne (fun e => hn (by rw [e]))]
theorem own_iterAt {w : World} {B : Nat} {e : TypeId} {v : Value} {zs : List Int} (h : OwnInts w (B + 1) e v zs) (s : ByteArray) (k : Nat) : OwnInts (w.iterAt B s k) (B + 1) e v zs :=
  own_apart h (grown_iterAt w B s k) fun i hi e => by
    have := World.ownsRow.lt h i hi
    injection e with e
    omega
theorem iter_kept {w w' : World} {B : Nat} {row : Option Nat} {o : Obj} (h : w.heap[B]? = some o) (hg : w.grownBy w' row) (hne : row ≠ some B) : w'.heap[B]? = some o := by
  rw [hg.block B (Array.getElem?_eq_some_iff.1 h).1 (Ne.symm hne), h]
theorem iter_below {w w' : World} {B n : Nat} {o : Obj} (h : w.heap[B]? = some o) (hb : Below n w w') (hn : B < n) : w'.heap[B]? = some o := by
  rw [hb.block B hn, h]
theorem iter_alloc {w : World} {B : Nat} {o : Obj} (h : w.heap[B]? = some o) (x : Obj) : (w.alloc x).heap[B]? = some o := by
  have hlt := (Array.getElem?_eq_some_iff.1 h).1
  rw [(below_new w x).block B hlt, h]
theorem iterPos_at {w : World} {B k : Nat} {s : ByteArray} (h : w.heap[B]? = some (.stringIter s k)) : w.iterPos B = k := by
  unfold World.iterPos; rw [h]
theorem own_not {w : World} {base size n : Nat} {e : TypeId} {v : Value} {xs : List Value} (h : w.ownsRow base e size v n xs) {B : Nat} (hB : B < base) : v.ownBlock ≠ some B := fun e => by
  have := World.ownsRow.lt h B e
  omega
end Go.Proofs.Ytohmodjigneldaa.Tx
