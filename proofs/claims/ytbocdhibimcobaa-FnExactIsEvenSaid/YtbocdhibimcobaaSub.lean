/- Parts of lists of numbers: what a slice expression leads to. No condition but the bounds. -/
import Derived.Test.YtbocdhibimcobaaOpenI
namespace Go.Proofs.Ytbocdhibimcobaa
open Go.ChangeShapes Go.WideShapes Go.ChangeAt Go.RowKit Go.Deep Go.Joins

theorem elem_ints : Try.prog.underlying 22 = some (.slice (Try.prog.elem 22)) := by kernel_rfl
theorem size_ints (W : World) : (sizeOf (Try.prog.elem 22)).run Try.prog W = .ok 1 W := by kernel_rfl
/-- where a part from l on begins -/
def subA (a : Option Addr) (l cap : Nat) : Option Addr := if cap = l then a else a.map (·.add (l * 1))
theorem cut_lh (A : Option Addr) (n c l h : Nat) (h1 : l ≤ h) (h2 : h ≤ c) (W : World) :
    (Instr.slice 22 (.slice A n c) (some (.int .i64 (l : Int))) (some (.int .i64 (h : Int))) none).run Try.prog W = .ok (.slice (subA A l c) (h - l) (c - l)) W := by
  rw [run_slice_lh (P := Try.prog) (w := W) 22 A n c elem_ints .i64 .i64 (l : Int) (h : Int) (by omega) (by omega) (by omega), size_ints]
  rfl
theorem cut_ln (A : Option Addr) (n c p q : Nat) (h2 : p + q ≤ c) (W : World) :
    (Instr.slice 22 (.slice A n c) (some (.int .i64 (p : Int))) (some (.int .i64 ((p : Int) + (q : Int)))) none).run Try.prog W = .ok (.slice (subA A p c) q (c - p)) W := by
  have := cut_lh A n c p (p + q) (by omega) h2 W
  rw [Int.natCast_add, Nat.add_sub_cancel_left] at this
  exact this
theorem cut_h (A : Option Addr) (n c h : Nat) (h2 : h ≤ c) (W : World) :
    (Instr.slice 22 (.slice A n c) none (some (.int .i64 (h : Int))) none).run Try.prog W = .ok (.slice A h c) W := by
  rw [run_slice_h (P := Try.prog) (w := W) 22 A n c elem_ints .i64 (h : Int) (by omega) (by omega), size_ints]
  show Result.ok (sliced A 0 (Int.toNat h) c 1) W = _
  unfold sliced
  have : A.map (·.add (0 * 1)) = A := by
    cases A with
    | none => rfl
    | some a => rfl
  rw [this, Int.toNat_natCast]
  split <;> simp
theorem cut_l (A : Option Addr) (n c l : Nat) (h2 : l ≤ n) (W : World) :
    (Instr.slice 22 (.slice A n c) (some (.int .i64 (l : Int))) none none).run Try.prog W = .ok (.slice (subA A l c) (n - l) (c - l)) W := by
  rw [run_slice_l (P := Try.prog) (w := W) 22 A n c elem_ints .i64 (l : Int) (by omega) (by omega), size_ints]
  rfl

section
variable {w : World} {A : Option Addr} {L : List Int}
theorem IntSl.drop (h : IntSl w A L) (l c : Nat) (hc : L.length ≤ c) : IntSl w (subA A l c) (L.drop l) := by
  by_cases hl : l < L.length
  · obtain ⟨g, off, rfl, hg, hat⟩ := h.some (by omega)
    refine .inr ⟨g, off + l, ?_, hg, fun k hk => ?_⟩
    · unfold subA
      rw [if_neg (by omega), Nat.mul_one]
      show Option.some ((⟨g, off, none⟩ : Addr).add l) = _
      rw [add_plain]
    · rw [List.length_drop] at hk
      have := hat (l + k) (by omega)
      rw [List.getElem_drop, Nat.add_assoc]
      exact this
  · left
    exact List.drop_of_length_le (by omega)
theorem IntSl.take (h : IntSl w A L) (n : Nat) : IntSl w A (L.take n) := by
  by_cases hn : 0 < (L.take n).length
  · obtain ⟨g, off, rfl, hg, hat⟩ := h.some (by rw [List.length_take] at hn; omega)
    refine .inr ⟨g, off, rfl, hg, fun k hk => ?_⟩
    rw [List.getElem_take]
    exact hat k (by rw [List.length_take] at hk; omega)
  · left
    exact List.eq_nil_of_length_eq_zero (by omega)
theorem IntSl.cut (h : IntSl w A L) (l n c : Nat) (hc : L.length ≤ c) : IntSl w (subA A l c) ((L.drop l).take n) := (h.drop l c hc).take n
end
theorem cut_len {L : List Int} {l n : Nat} (h : l + n ≤ L.length) : ((L.drop l).take n).length = n := by rw [List.length_take, List.length_drop]; omega
theorem cut_mem {L : List Int} {l n : Nat} {x : Int} (h : x ∈ (L.drop l).take n) : x ∈ L := List.mem_of_mem_drop (List.mem_of_mem_take h)
end Go.Proofs.Ytbocdhibimcobaa
