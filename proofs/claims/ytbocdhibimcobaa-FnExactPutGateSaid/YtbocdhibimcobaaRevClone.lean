/- Lists of numbers turned round and copied: 'slices.Reverse', 'slices.Clone'. No condition but the lists' lengths. -/
import Derived.Test.YtbocdhibimcobaaNums
import Derived.Test.YtbocdhibimcobaaShelf
namespace Go.Proofs.Ytbocdhibimcobaa
open Go.RowKit

theorem own_setCells {base g n cap : Nat} {e : TypeId} : ∀ (ys : List Value) (o : Nat) {w : World} {xs : List Value}, w.ownsRow base e 1 (.slice (some ⟨g, 0, none⟩) n cap) n xs → o + ys.length ≤ n → (w.setCells g o ys).ownsRow base e 1 (.slice (some ⟨g, 0, none⟩) n cap) n (xs.take o ++ ys ++ xs.drop (o + ys.length))
  | [], o, w, xs, h, _ => by rw [List.append_nil, List.length_nil, Nat.add_zero, List.take_append_drop]; exact h
  | v :: ys, o, w, xs, h, hl => by
    have hx := h.1
    rw [List.length_cons] at hl
    have h2 := own_setCells ys (o + 1) (World.ownsRow.stored h o v).1 (by omega)
    have e : (xs.set o v).take (o + 1) ++ ys ++ (xs.set o v).drop (o + 1 + ys.length) = xs.take o ++ v :: ys ++ xs.drop (o + (ys.length + 1)) := by
      rw [List.drop_set_of_lt (by omega), List.take_succ_eq_append_getElem (by rw [List.length_set]; omega), List.take_set_of_le (Nat.le_refl _), List.getElem_set_self, show o + 1 + ys.length = o + (ys.length + 1) by omega]
      simp
    rw [List.length_cons, ← e]
    exact h2
theorem below_setCells {B g : Nat} {a : World} (hg : B ≤ g) : ∀ (ys : List Value) (o : Nat) {w : World}, Below B a w → Below B a (w.setCells g o ys)
  | [], _, _, h => h
  | _ :: ys, o, _, h => below_setCells hg ys (o + 1) (below_store h hg o _)
/-- a row of the call's own, turned round -/
theorem reverse_own {base g cap : Nat} {e : TypeId} {L : List Int} {w : World} (h0 : 0 < L.length) (hl : L.length ≤ 1048576) (h : OwnInts w base e (.slice (some ⟨g, 0, none⟩) L.length cap) L) :
    Calls Try.prog 91 #[.slice (some ⟨g, 0, none⟩) L.length cap] w fun e' w' => e' = .returned (.tuple #[]) ∧ OwnInts w' base e (.slice (some ⟨g, 0, none⟩) L.length cap) L.reverse ∧ ∀ B a, B ≤ base → Below B a w → Below B a w' := by
  have hlt := World.ownsRow.lt h g rfl
  refine (Try.slices_Reverse_int_cells g 0 L.length cap L w (Nat.le_refl _) (by omega) (fun j hj => ?_) (fun j _ => ?_)).mono ?_
  · rw [Nat.zero_add, World.ownsRow.cellAt h j (by omega), getElem?_ints L j hj, getD_lt L j hj]
  · exact World.ownsRow.frozenAt h (0 + j)
  · rintro e' w' ⟨rfl, q, rfl⟩
    rw [List.take_length]
    refine ⟨rfl, ?_, fun B a hB hb => below_setCells (by omega) _ _ (below_drewN hb q)⟩
    have h2 := own_setCells (L.reverse.map (Value.int .i64)) 0 (own_below h (below_drewN (Below.refl _ _) q)) (by simp)
    unfold OwnInts
    rw [List.length_reverse]
    have e2 : (L.map (Value.int .i64)).take 0 ++ L.reverse.map (Value.int .i64) ++ (L.map (Value.int .i64)).drop (0 + (L.reverse.map (Value.int .i64)).length) = L.reverse.map (Value.int .i64) := by
      rw [List.take_zero, List.nil_append, List.drop_of_length_le (by simp), List.append_nil]
    rw [e2] at h2
    exact h2
theorem clone_any (A : Option Addr) (c : Nat) (L : List Int) (w : World) (h0 : 0 < L.length) (hl : L.length ≤ 1048576) (h : IntSl w A L) :
    Calls Try.prog 80 #[.slice A L.length c] w fun e w' => ∃ g cap, e = .returned (.slice (some ⟨g, 0, none⟩) L.length cap) ∧ OwnInts w' w.heap.size 3 (.slice (some ⟨g, 0, none⟩) L.length cap) L ∧ Below w.heap.size w w' := by
  obtain ⟨g, off, rfl, hg, hat⟩ := h.some h0
  refine (Try.slices_Clone_int g off L.length c L w (Nat.le_refl _) (by omega) (fun j hj => by rw [hat j hj, getD_lt L j hj])).mono ?_
  rintro e w' ⟨v, rfl, hown, -, hb⟩
  rw [List.take_length] at hown
  obtain ⟨g', cap, rfl, -, -⟩ := own_some hown h0
  exact ⟨g', cap, rfl, hown, hb⟩
end Go.Proofs.Ytbocdhibimcobaa
