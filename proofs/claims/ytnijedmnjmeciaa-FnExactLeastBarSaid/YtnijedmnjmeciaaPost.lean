/- Lengths and gaps: 'impl.areLengths', 'impl.fewestGaps', 'spec.poLong', 'spec.poParts', and FewestPosts and PostsAround of both sides. No condition. -/
import Derived.Test.YtnijedmnjmeciaaNums
namespace Go.Proofs.Ytnijedmnjmeciaa
open Go.RowKit

def okL (a : Int) : Bool := decide (1 ≤ a ∧ a ≤ 500)
def okL2 (a b : Int) : Bool := okL a && okL b
def okL3 (a b c : Int) : Bool := okL a && (okL b && okL c)
theorem okL_at {a : Int} (h : okL a = true) : 1 ≤ a ∧ a ≤ 500 := of_decide_eq_true h
theorem okL2_at {a b : Int} (h : okL2 a b = true) : okL a = true ∧ okL b = true := by
  unfold okL2 at h; rwa [Bool.and_eq_true] at h
theorem okL3_at {a b c : Int} (h : okL3 a b c = true) : okL a = true ∧ okL b = true ∧ okL c = true := by
  unfold okL3 at h; rwa [Bool.and_eq_true, Bool.and_eq_true] at h
theorem okL_nat {a : Int} (h : okL a = true) : ∃ x : Nat, a = x ∧ 1 ≤ x ∧ x ≤ 500 := ⟨a.toNat, by have := okL_at h; omega⟩
theorem okL_one (a : Int) : okNums 1 500 [a] = okL a := by unfold okNums allIn okL; simp
theorem okL_two (a b : Int) : okNums 2 500 [a, b] = okL2 a b := by unfold okNums allIn okL2 okL; simp
theorem okL_three (a b c : Int) : okNums 3 500 [a, b, c] = okL3 a b c := by unfold okNums allIn okL3 okL; simp
theorem one_sl (w : World) (l : Int) (e : TypeId) : IntSl (w.alloc (.cells #[.int .i64 l] e)) (some ⟨w.heap.size, 0, none⟩) [l] := by
  refine .inr ⟨w.heap.size, 0, rfl, by simp, fun k hk => ?_⟩
  rw [cell_of_row _ w.heap.size (0 + k) _ e (0, 0) (heap_alloc_new w _)]
  match k, hk with
  | 0, _ => rfl
theorem twoL_sl (w : World) (l r : Int) (e : TypeId) : IntSl (w.alloc (.cells #[.int .i64 l, .int .i64 r] e)) (some ⟨w.heap.size, 0, none⟩) [l, r] := by
  refine .inr ⟨w.heap.size, 0, rfl, by simp, fun k hk => ?_⟩
  rw [cell_of_row _ w.heap.size (0 + k) _ e (0, 0) (heap_alloc_new w _)]
  match k, hk with
  | 0, _ => rfl
  | 1, _ => rfl
theorem threeL_sl (w : World) (l r s : Int) (e : TypeId) : IntSl (w.alloc (.cells #[.int .i64 l, .int .i64 r, .int .i64 s] e)) (some ⟨w.heap.size, 0, none⟩) [l, r, s] := by
  refine .inr ⟨w.heap.size, 0, rfl, by simp, fun k hk => ?_⟩
  rw [cell_of_row _ w.heap.size (0 + k) _ e (0, 0) (heap_alloc_new w _)]
  match k, hk with
  | 0, _ => rfl
  | 1, _ => rfl
  | 2, _ => rfl

/-- how many parts there are between posts -/
def partsN (a b : Nat) : Nat := (a + b - 1) / b
theorem partsN_bd {a b : Nat} (ha : 1 ≤ a) (ha2 : a ≤ 500) (hb : 1 ≤ b) : 1 ≤ partsN a b ∧ partsN a b ≤ a := by
  unfold partsN
  refine ⟨(Nat.le_div_iff_mul_le hb).2 (by omega), ?_⟩
  apply Nat.le_of_lt_succ
  rw [Nat.div_lt_iff_lt_mul hb, Nat.succ_mul]
  have := Nat.mul_le_mul ha hb
  have := Nat.le_mul_of_pos_right a hb
  omega
/-- the answer of a function of two lengths, and of three -/
def if2 (a b : Int) (f : Nat → Nat → Int) : Int := if okL2 a b = true then f a.toNat b.toNat else 0
def if3 (a b c : Int) (f : Nat → Nat → Nat → Int) : Int := if okL3 a b c = true then f a.toNat b.toNat c.toNat else 0
theorem if2_no {a b : Int} (h : okL2 a b = false) (f : Nat → Nat → Int) : if2 a b f = 0 := by unfold if2; rw [h]; rfl
theorem if3_no {a b c : Int} (h : okL3 a b c = false) (f : Nat → Nat → Nat → Int) : if3 a b c f = 0 := by unfold if3; rw [h]; rfl
theorem if2_yes {x y : Nat} (h : okL2 x y = true) (f : Nat → Nat → Int) : if2 x y f = f x y := by unfold if2; rw [if_pos h, Int.toNat_natCast, Int.toNat_natCast]
theorem if3_yes {x y z : Nat} (h : okL3 x y z = true) (f : Nat → Nat → Nat → Int) : if3 x y z f = f x y z := by unfold if3; rw [if_pos h, Int.toNat_natCast, Int.toNat_natCast, Int.toNat_natCast]
def postsI (a b : Int) : Int := if2 a b fun x y => ((partsN x y : Nat) : Int) + 1
def aroundI (a b c : Int) : Int := if3 a b c fun x y z => 2 * (((partsN x z : Nat) : Int) + ((partsN y z : Nat) : Int))

end Go.Proofs.Ytnijedmnjmeciaa
