/- One stroke: what 'spec.stIs', 'impl.isStrokeOf' and the two IsStroke return. No condition but the texts' lengths. -/
import Derived.Test.YtnijedmnjmeciaaDoorFenceB
namespace Go.Proofs.YtnijedmnjmeciaaDoor
open Go.RowKit

/-- a stroke of so many boards -/
def okStroke (boards : Nat) (f t : Int) (c : ByteArray) : Bool := decide (0 ≤ f ∧ f ≤ t ∧ t < boards) && isCol c
theorem okStroke_col {boards : Nat} {f t : Int} {c : ByteArray} (h : isCol c = false) : okStroke boards f t c = false := by simp [okStroke, h]
theorem okStroke_num {boards : Nat} {f t : Int} {c : ByteArray} (h : ¬ (0 ≤ f ∧ f ≤ t ∧ t < boards)) : okStroke boards f t c = false := by
  simp only [okStroke, h, decide_false, Bool.false_and]
theorem okStroke_yes {boards : Nat} {f t : Int} {c : ByteArray} (h : 0 ≤ f ∧ f ≤ t ∧ t < boards) (hc : isCol c = true) : okStroke boards f t c = true := by
  simp only [okStroke, h, hc, and_self, decide_true, Bool.and_self]
theorem isCol_one (b : UInt8) : isCol ⟨#[b]⟩ = colB b := rfl
theorem isCol_size {c : ByteArray} (h : c.size ≠ 1) : isCol c = false := by
  unfold isCol
  split
  · rename_i x hx
    exfalso; apply h
    have := congrArg List.length hx
    simpa using this
  · rfl

theorem bcell {W w1 : World} {B : Nat} (hb : Below B W w1) : (∀ b o, b < B → w1.cell? ⟨b, o, none⟩ = W.cell? ⟨b, o, none⟩) ∧ (∀ b o, b < B → w1.frozen? ⟨b, o, none⟩ = W.frozen? ⟨b, o, none⟩) :=
  ⟨fun b o h => hb.cell (p := ⟨b, o, none⟩) h, fun b o h => hb.frozen (p := ⟨b, o, none⟩) h⟩

theorem less_a (b : UInt8) : Op.bytesLess [b] [97] = decide ((b.toNat : Int) < 97) := by
  have h : ∀ n : Fin 256, Op.bytesLess [UInt8.ofNat n.val] [97] = decide (((UInt8.ofNat n.val).toNat : Int) < 97) := by decide +kernel
  have := h ⟨b.toNat, b.toNat_lt⟩
  simpa using this
theorem less_e (b : UInt8) : (Op.bytesLess [b] [101] || b == 101) = decide ((b.toNat : Int) ≤ 101) := by
  have h : ∀ n : Fin 256, (Op.bytesLess [UInt8.ofNat n.val] [101] || UInt8.ofNat n.val == 101) = decide (((UInt8.ofNat n.val).toNat : Int) ≤ 101) := by decide +kernel
  have := h ⟨b.toNat, b.toNat_lt⟩
  simpa using this

set_option maxHeartbeats 1000000 in
theorem stIs_any (n : Nat) (f t : Int) (c : ByteArray) (w : World) (hn : n ≤ 20) (hc : c.size ≤ maxLen) :
    Calls Tryd.prog 36 #[.int .i64 n, .agg #[.int .i64 f, .int .i64 t, .string c]] w fun e w' => e = .returned (.bool (okStroke n f t c)) ∧ Below w.heap.size w w' := by
  unfold maxLen at hc
  by_cases h1 : c.size = 1
  · obtain ⟨b, rfl⟩ : ∃ b, c = ⟨#[b]⟩ := by
      obtain ⟨⟨l⟩⟩ := c
      match l, h1 with
      | [b], _ => exact ⟨b, rfl⟩
    clear hc h1
    have ha := less_a b
    have he := less_e b
    by_cases hlo : 97 ≤ (b.toNat : Int)
    · have ha' : Op.bytesLess [b] [97] = false := by rw [ha, decide_eq_false_iff_not]; omega
      clear ha
      by_cases hhi : (b.toNat : Int) ≤ 101
      · have he' : (Op.bytesLess [b] [101] || b == 101) = true := he.trans (decide_eq_true hhi)
        clear he
        have hcc : isCol ⟨#[b]⟩ = true := by rw [isCol_one]; unfold colB; rw [decide_eq_true_iff]; exact ⟨hlo, hhi⟩
        by_cases ht : 0 ≤ t ∧ t ≤ n - 1
        · by_cases hf : 0 ≤ f ∧ f ≤ t
          · have H := Lib.hid (okStroke_yes (boards := n) (f := f) (t := t) (by omega) hcc)
            clear hcc
            go_enter Tryd.func36, Tryd.ntmps36
            go_wp2_with (go_at_call 53; refine (l1In_t _ _ _ _ (by omega)).mono ?_; rintro e w' ⟨rfl, rfl⟩)
            go_ret
            exact ⟨ret_bool H.out.symm, (Below.refl _ _).alloc (Nat.le_refl _) _⟩
          · have H := Lib.hid (okStroke_num (boards := n) (f := f) (t := t) (c := ⟨#[b]⟩) (by omega))
            clear hcc
            go_enter Tryd.func36, Tryd.ntmps36
            go_wp2_with (go_at_call 53; first | ((with_reducible refine (l1In_t t _ _ _ (by omega)).mono ?_); rintro e w' ⟨rfl, rfl⟩) | ((with_reducible refine (l1In_f f _ _ _ (by omega)).mono ?_); rintro e w' ⟨rfl, rfl⟩))
            go_ret
            exact ⟨ret_bool H.out.symm, (Below.refl _ _).alloc (Nat.le_refl _) _⟩
        · have H := Lib.hid (okStroke_num (boards := n) (f := f) (t := t) (c := ⟨#[b]⟩) (by omega))
          clear hcc
          go_enter Tryd.func36, Tryd.ntmps36
          go_wp2_with (go_at_call 53; refine (l1In_f _ _ _ _ (by omega)).mono ?_; rintro e w' ⟨rfl, rfl⟩)
          go_ret
          exact ⟨ret_bool H.out.symm, (Below.refl _ _).alloc (Nat.le_refl _) _⟩
      · have H := Lib.hid (okStroke_col (boards := n) (f := f) (t := t) (c := ⟨#[b]⟩) (by rw [isCol_one]; unfold colB; rw [decide_eq_false_iff_not]; omega))
        have he2 := he.trans (decide_eq_false hhi)
        have he3 : Op.bytesLess [b] [101] = false := by cases h : Op.bytesLess [b] [101] <;> simp_all
        have he4 : ¬ b = 101 := by rintro rfl; simp at hhi
        clear he he2
        go_enter Tryd.func36, Tryd.ntmps36
        go_wp2
        go_ret
        exact ⟨ret_bool H.out.symm, (Below.refl _ _).alloc (Nat.le_refl _) _⟩
    · have ha' : Op.bytesLess [b] [97] = true := by rw [ha, decide_eq_true_iff]; omega
      have H := Lib.hid (okStroke_col (boards := n) (f := f) (t := t) (c := ⟨#[b]⟩) (by rw [isCol_one]; unfold colB; rw [decide_eq_false_iff_not]; omega))
      clear ha he
      go_enter Tryd.func36, Tryd.ntmps36
      go_wp2
      go_ret
      exact ⟨ret_bool H.out.symm, (Below.refl _ _).alloc (Nat.le_refl _) _⟩
  · have hb : (((c.size : Nat) : Int) == 1) = false := by simpa using (by omega : ¬ ((c.size : Int) = 1))
    have H := Lib.hid (okStroke_col (boards := n) (f := f) (t := t) (isCol_size h1))
    clear h1
    go_enter Tryd.func36, Tryd.ntmps36
    go_wp2
    go_ret
    exact ⟨ret_bool H.out.symm, (Below.refl _ _).alloc (Nat.le_refl _) _⟩

set_option maxHeartbeats 1000000 in
theorem isStrokeOf_any (n : Nat) (f t : Int) (c : ByteArray) (w : World) (hc : c.size ≤ maxLen) :
    Calls Tryd.prog 38 #[.int .i64 n, .agg #[.int .i64 f, .int .i64 t, .string c]] w fun e w' => e = .returned (.bool (okStroke n f t c)) ∧ Below w.heap.size w w' := by
  by_cases h0 : 0 ≤ f
  · by_cases h1 : f ≤ t
    · by_cases h2 : t < n
      · have H : Hid (isCol c = okStroke n f t c) := by
          refine Lib.hid ?_
          simp only [okStroke, h0, h1, h2, and_self, decide_true, Bool.true_and]
        go_enter Tryd.func38, Tryd.ntmps38
        go_wp2_with (go_at_call 54; refine (isColour_any _ _ hc).mono ?_; rintro e w' ⟨rfl, rfl⟩)
        go_ret
        exact ⟨ret_bool H.out, (Below.refl _ _).alloc (Nat.le_refl _) _⟩
      · have H := Lib.hid (okStroke_num (boards := n) (f := f) (t := t) (c := c) (by omega))
        go_enter Tryd.func38, Tryd.ntmps38
        go_wp2
        go_ret
        exact ⟨ret_bool H.out.symm, (Below.refl _ _).alloc (Nat.le_refl _) _⟩
    · have H := Lib.hid (okStroke_num (boards := n) (f := f) (t := t) (c := c) (by omega))
      go_enter Tryd.func38, Tryd.ntmps38
      go_wp2
      go_ret
      exact ⟨ret_bool H.out.symm, (Below.refl _ _).alloc (Nat.le_refl _) _⟩
  · have H := Lib.hid (okStroke_num (boards := n) (f := f) (t := t) (c := c) (by omega))
    go_enter Tryd.func38, Tryd.ntmps38
    go_wp2
    go_ret
    exact ⟨ret_bool H.out.symm, (Below.refl _ _).alloc (Nat.le_refl _) _⟩
end Go.Proofs.YtnijedmnjmeciaaDoor
