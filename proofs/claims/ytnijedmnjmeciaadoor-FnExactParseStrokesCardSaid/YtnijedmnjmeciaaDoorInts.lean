/- Lists of numbers that the call itself has made: 'laws.eqIntS', 'markIntS', 'heldIntS'. No condition but the lists' lengths. -/
import Derived.Test.YtnijedmnjmeciaaDoorPaint
namespace Go.Proofs.YtnijedmnjmeciaaDoor
open Go.RowKit

theorem info_int : (Tryd.prog.info? 3).map (fun i => (i.zero, i.size, i.bytes)) = some (some (.int .i64 0), 1, 8) := by kernel_rfl

section
variable {w w' : World} {base n size : Nat} {e : TypeId} {v : Value} {xs : List Value}
theorem own_any (h : w.ownsRow base e size v n xs) : ∃ A c, v = .slice A n c := by
  rcases h.2 with ⟨rfl, rfl⟩ | ⟨g, cap, _, rfl, _⟩
  · exact ⟨_, _, rfl⟩
  · exact ⟨_, _, rfl⟩
theorem own_some (h : w.ownsRow base e size v n xs) (hn : 0 < n) : ∃ g cap, v = .slice (some ⟨g, 0, none⟩) n cap ∧ base ≤ g ∧ g < w.heap.size := by
  rcases h.2 with ⟨rfl, h0⟩ | ⟨g, cap, cur, rfl, hb, hg, _⟩
  · omega
  · exact ⟨g, cap, rfl, hb, (Array.getElem?_eq_some_iff.1 hg).1⟩
theorem own_below (h : w.ownsRow base e size v n xs) (hb : Below w.heap.size w w') : w'.ownsRow base e size v n xs := by
  refine ⟨h.1, ?_⟩
  rcases h.2 with hn | ⟨g, cap, cur, rfl, h1, hg, rest⟩
  · exact .inl hn
  · refine .inr ⟨g, cap, cur, rfl, h1, ?_, rest⟩
    rw [hb.block g (Array.getElem?_eq_some_iff.1 hg).1]
    exact hg
theorem own_le (h : w.ownsRow base e size v n xs) : n ≤ maxLen := by
  rcases h.2 with ⟨_, rfl⟩ | ⟨g, cap, cur, rfl, h1, hg, h2, h3, _⟩
  · exact Nat.zero_le _
  · omega
end

theorem below_drewN {B : Nat} {a w : World} (h : Below B a w) (n : Nat) : Below B a (w.drewN n) := ⟨h.os, h.tape, h.output, h.size, h.block⟩
theorem getElem?_ints (zs : List Int) (k : Nat) (h : k < zs.length) : (zs.map (Value.int .i64))[k]? = some (.int .i64 zs[k]) := by
  rw [List.getElem?_map, List.getElem?_eq_getElem h]; rfl

/-- the marks k, k + 1, .. -/
def marksI (k n : Nat) : List Value := (List.range n).map fun i => Value.int .i64 ((k + i : Nat) : Int)
theorem marksI_at (k n j : Nat) (h : j < n) : (marksI k n)[j]? = some (.int .i64 ((k + j : Nat) : Int)) := by
  unfold marksI; rw [List.getElem?_map, List.getElem?_range h]; rfl
theorem marksI_of {k n : Nat} {ys : List Value} (hl : ys.length = n) (h : ∀ j, j < n → ys[j]? = some (.int .i64 ((k + j : Nat) : Int))) : ys = marksI k n := by
  apply List.ext_getElem?
  intro j
  by_cases hj : j < n
  · rw [h j hj, marksI_at k n j hj]
  · rw [List.getElem?_eq_none (by omega), List.getElem?_eq_none (by unfold marksI; simp; omega)]
/-- so far marked -/
def Marked (w : World) (base : Nat) (e : TypeId) (v : Value) (n k j : Nat) (wr : World) : Prop :=
  ∃ ys : List Value, wr.ownsRow base e 1 v n ys ∧ (∀ i, i < j → ys[i]? = some (.int .i64 ((k + i : Nat) : Int))) ∧ (∀ i, i < n → ∃ u, ys[i]? = some u) ∧ w.grownBy wr v.ownBlock
theorem grown_trans' {a b c : World} {r : Option Nat} (h : a.grownBy b r) (k : b.grownBy c r) : a.grownBy c r :=
  ⟨k.os.trans h.os, k.tape.trans h.tape, k.output.trans h.output, Nat.le_trans h.size k.size, fun i hi hn => (k.block i (Nat.lt_of_lt_of_le hi h.size) hn).trans (h.block i hi hn)⟩
theorem Marked.step {w wr : World} {base g cap n k j : Nat} {e : TypeId} (h : Marked w base e (.slice (some ⟨g, 0, none⟩) n cap) n k j wr) (hj : j < n) :
    Marked w base e (.slice (some ⟨g, 0, none⟩) n cap) n k (j + 1) (wr.setCell ⟨g, j, none⟩ (.int .i64 ((k + j : Nat) : Int))) := by
  obtain ⟨ys, ho, hm, hs, hg⟩ := h
  have hl : ys.length = n := by have := ho.1; omega
  obtain ⟨ho', hg'⟩ := ho.stored j (.int .i64 ((k + j : Nat) : Int))
  refine ⟨_, ho', fun i hi => ?_, fun i hi => ?_, grown_trans' hg hg'⟩
  · rw [List.getElem?_set]
    by_cases e : j = i
    · subst e; rw [if_pos rfl, if_pos (by omega)]
    · rw [if_neg e]; exact hm i (by omega)
  · rw [List.getElem?_set]
    by_cases e : j = i
    · subst e; rw [if_pos rfl, if_pos (by omega)]; exact ⟨_, rfl⟩
    · rw [if_neg e]; exact hs i hi
theorem Marked.cell {w wr : World} {base g cap n k j : Nat} {e : TypeId} (h : Marked w base e (.slice (some ⟨g, 0, none⟩) n cap) n k j wr) (hj : j < n) :
    (∃ u, wr.cell? ⟨g, j, none⟩ = some u) ∧ wr.frozen? ⟨g, j, none⟩ = false := by
  obtain ⟨ys, ho, hm, hs, hg⟩ := h
  obtain ⟨u, hu⟩ := hs j hj
  exact ⟨⟨u, by rw [ho.cellAt j (by omega), hu]⟩, ho.frozenAt j⟩
theorem Marked.all {w wr : World} {base n k : Nat} {v : Value} {e : TypeId} (h : Marked w base e v n k n wr) : wr.ownsRow base e 1 v n (marksI k n) ∧ w.grownBy wr v.ownBlock := by
  obtain ⟨ys, ho, hm, hs, hg⟩ := h
  have hl : ys.length = n := by have := ho.1; omega
  rw [marksI_of hl hm] at ho
  exact ⟨ho, hg⟩

end Go.Proofs.YtnijedmnjmeciaaDoor
