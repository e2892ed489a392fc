/- One stroke: what 'spec.stIs', 'impl.isStrokeOf' and the two IsStroke return. No condition but the texts' lengths. -/
import Derived.Test.YtohmodjigneldaaFenceB
namespace Go.Proofs.Ytohmodjigneldaa
open Go.RowKit

/-- a stroke of so many boards -/
def okStroke (boards : Nat) (f t : Int) (c : ByteArray) : Bool := decide (0 ≤ f ∧ f ≤ t ∧ t < boards) && isCol c
theorem okStroke_col {boards : Nat} {f t : Int} {c : ByteArray} (h : isCol c = false) : okStroke boards f t c = false := by simp [okStroke, h]
theorem okStroke_num {boards : Nat} {f t : Int} {c : ByteArray} (h : ¬ (0 ≤ f ∧ f ≤ t ∧ t < boards)) : okStroke boards f t c = false := by
  simp only [okStroke, h, decide_false, Bool.false_and]
theorem okStroke_yes {boards : Nat} {f t : Int} {c : ByteArray} (h : 0 ≤ f ∧ f ≤ t ∧ t < boards) (hc : isCol c = true) : okStroke boards f t c = true := by
  simp only [okStroke, h, hc, and_self, decide_true, Bool.and_self]
theorem isCol_one (b : UInt8) : isCol ⟨#[b]⟩ = colB b := rfl
theorem isCol_size {c : ByteArray} (h : c.size ≠ 1) : isCol c = false := by
  unfold isCol
  split
  · rename_i x hx
    exfalso; apply h
    have := congrArg List.length hx
    simpa using this
  · rfl

theorem bcell {W w1 : World} {B : Nat} (hb : Below B W w1) : (∀ b o, b < B → w1.cell? ⟨b, o, none⟩ = W.cell? ⟨b, o, none⟩) ∧ (∀ b o, b < B → w1.frozen? ⟨b, o, none⟩ = W.frozen? ⟨b, o, none⟩) :=
  ⟨fun b o h => hb.cell (p := ⟨b, o, none⟩) h, fun b o h => hb.frozen (p := ⟨b, o, none⟩) h⟩

theorem less_a (b : UInt8) : Op.bytesLess [b] [97] = decide ((b.toNat : Int) < 97) := by
  have h : ∀ n : Fin 256, Op.bytesLess [UInt8.ofNat n.val] [97] = decide (((UInt8.ofNat n.val).toNat : Int) < 97) := by decide +kernel
  have := h ⟨b.toNat, b.toNat_lt⟩
  simpa using this
theorem less_e (b : UInt8) : (Op.bytesLess [b] [101] || b == 101) = decide ((b.toNat : Int) ≤ 101) := by
  have h : ∀ n : Fin 256, (Op.bytesLess [UInt8.ofNat n.val] [101] || UInt8.ofNat n.val == 101) = decide (((UInt8.ofNat n.val).toNat : Int) ≤ 101) := by decide +kernel
  have := h ⟨b.toNat, b.toNat_lt⟩
  simpa using this

end Go.Proofs.Ytohmodjigneldaa
