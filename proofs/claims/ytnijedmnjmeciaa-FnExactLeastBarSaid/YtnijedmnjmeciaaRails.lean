/- Rails and ground: who checks them; AreRails of both sides. No condition but the lists' lengths. -/
import Derived.Test.YtnijedmnjmeciaaPost
import Derived.Test.YtnijedmnjmeciaaRailsC
namespace Go.Proofs.Ytnijedmnjmeciaa
open Go.RowKit

/-- 2 to 12 heights from 0 to 50 -/
def okG (L : List Int) : Bool := decide (2 ≤ L.length ∧ L.length ≤ 12) && allIn 0 50 L
theorem okG_at {L : List Int} (h : okG L = true) : (2 ≤ L.length ∧ L.length ≤ 12) ∧ ∀ x ∈ L, 0 ≤ x ∧ x ≤ 50 := by
  unfold okG at h
  rw [Bool.and_eq_true, decide_eq_true_iff] at h
  exact ⟨h.1, fun _ hx => allIn_mem h.2 hx⟩
theorem okG_long {L : List Int} (h : ¬ (2 ≤ L.length ∧ L.length ≤ 12)) : okG L = false := by
  unfold okG; rw [decide_eq_false h]; rfl
theorem okG_of {L : List Int} (h : 2 ≤ L.length ∧ L.length ≤ 12) : okG L = allIn 0 50 L := by
  unfold okG; rw [decide_eq_true h]; rfl

theorem implAreRails_any (A0 : Option Addr) (c0 : Nat) (L0 : List Int) (w : World) (l0 : L0.length ≤ 1048576) (_ : WfL L0) (_ : L0.length ≤ c0) (h0 : IntSl w A0 L0) :
    Calls Try.prog 13 #[.slice A0 L0.length c0] w fun e w' => e = .returned (.bool (okRa L0)) ∧ Below w.heap.size w w' :=
  (implRails_any A0 c0 L0 w l0 h0).mono fun _ _ h => ⟨h.1, by rw [← h.2]; exact Below.refl _ _⟩

end Go.Proofs.Ytnijedmnjmeciaa
