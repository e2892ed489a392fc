/- Longer bars serve as well; one bar as long as all rails serves. Pure. -/
import Derived.Test.YtnijedmnjmeciaaCutRec
namespace Go.Proofs.Ytnijedmnjmeciaa

theorem canM_more {d : Int} (hd : 0 ≤ d) : ∀ {R L : List Int}, canM R L → canM R (L.map (· + d))
  | [], _, _ => trivial
  | x :: R, L, ⟨y, M, h1, h2, h3⟩ => by
    refine ⟨y + d, M.map (· + d), h1.map _, by omega, ?_⟩
    have h4 := canM_more hd h3
    rw [List.map_cons, show y - x + d = y + d - x by omega] at h4
    exact h4
theorem canM_longer {L : List Int} {b : Nat} {p q : Int} (h : p ≤ q) (hc : canM L (List.replicate b p)) : canM L (List.replicate b q) := by
  have := canM_more (d := q - p) (by omega) hc
  rw [List.map_replicate, show p + (q - p) = q by omega] at this
  exact this
theorem canM_one : ∀ {R : List Int} {y : Int} {M : List Int}, (∀ x ∈ R, 0 ≤ x) → R.sum ≤ y → canM R (y :: M)
  | [], _, _, _, _ => trivial
  | x :: R, y, M, hx, hs => by
    rw [List.sum_cons] at hs
    have h1 := sum_pos fun z hz => hx z (List.mem_cons_of_mem _ hz)
    exact ⟨y, M, List.Perm.refl _, by omega, canM_one (fun z hz => hx z (List.mem_cons_of_mem _ hz)) (by omega)⟩
/-- with a bar that is shorter than a rail there is no cut -/
theorem canM_short {bar : Int} : ∀ {R : List Int} {L : List Int}, (∀ x ∈ R, 0 ≤ x) → (∀ y ∈ L, y ≤ bar) → canM R L → ∀ x ∈ R, x ≤ bar
  | x :: R, L, hx, hy, ⟨y, M, h1, h2, h3⟩, z, hz => by
    have h4 := hy y (h1.mem_iff.2 (List.mem_cons_self ..))
    rcases List.mem_cons.1 hz with h5 | h5
    · omega
    · refine canM_short (fun t ht => hx t (List.mem_cons_of_mem _ ht)) (fun t ht => ?_) h3 z h5
      have h6 := hx x (List.mem_cons_self ..)
      rcases List.mem_cons.1 ht with h7 | h7
      · omega
      · exact hy t (h1.mem_iff.2 (List.mem_cons_of_mem _ h7))
end Go.Proofs.Ytnijedmnjmeciaa
