/- A row of maps of costs, filled board by board. No condition. -/
import Derived.Test.YteefkgnojdgehaaCheapest
namespace Go.Proofs.Yteefkgnojdgehaa
open Go.RowKit

structure CPlan (w : World) (base g n i : Nat) (B : Nat → Nat → Option Int) (m : Nat → Nat) : Prop where
  cell : ∀ j, j < i → w.cell? ⟨g, j, none⟩ = some (.map (some (m j)))
  any : ∀ j, j < n → ∃ v, w.cell? ⟨g, j, none⟩ = some (.map v)
  fz : ∀ j, w.frozen? ⟨g, j, none⟩ = false
  cst : ∀ j, j < i → ∃ q, Cst w (m j) q (B j)
  ne : ∀ j, j < i → base ≤ m j ∧ m j ≠ g
  lt : g < w.heap.size
theorem CPlan.kept {w w' : World} {base g n i : Nat} {B : Nat → Nat → Option Int} {m : Nat → Nat} (h : CPlan w base g n i B m) {row : Option Nat} (hg : w.grownBy w' row) (h1 : row ≠ some g) (h2 : ∀ j, j < i → row ≠ some (m j)) : CPlan w' base g n i B m := by
  have hb : w'.heap[g]? = w.heap[g]? := hg.block g h.lt (fun e => h1 e.symm)
  have hc : ∀ j, w'.cell? ⟨g, j, none⟩ = w.cell? ⟨g, j, none⟩ := fun j => World.cell?_of_block hb
  have hf : ∀ j, w'.frozen? ⟨g, j, none⟩ = w.frozen? ⟨g, j, none⟩ := fun j => World.frozen?_of_block hb
  refine ⟨fun j a => by rw [hc]; exact h.cell j a, fun j a => by rw [hc]; exact h.any j a, fun j => by rw [hf]; exact h.fz j, fun j a => ?_, h.ne, Nat.lt_of_lt_of_le h.lt hg.size⟩
  obtain ⟨q, hq⟩ := h.cst j a
  exact ⟨q, hq.kept hg fun e => h2 j a e.symm⟩
theorem CPlan.brds {w : World} {base g n : Nat} {B : Nat → Nat → Option Int} {m : Nat → Nat} (h : CPlan w base g n n B m) : Brds w (some ⟨g, 0, none⟩) n B m :=
  ⟨fun _ => ⟨g, 0, rfl, h.lt, fun j hj => by rw [Nat.zero_add]; exact h.cell j hj⟩, h.cst⟩
theorem cplan_start {w1 : World} {g n : Nat} {B : Nat → Nat → Option Int} (h : w1.ownsRow g 85 1 (.slice (some ⟨g, 0, none⟩) n n) n (madeCells (Value.map none).cells (n * 1)).toList) : CPlan w1 g g n 0 B (fun _ => 0) := by
  have hl : (madeCells (Value.map none).cells (n * 1)).toList = List.replicate n (Value.map none) := by
    rw [Nat.mul_one, show (Value.map none).cells = #[Value.map none] from rfl, toList_madeCells_one]
  rw [hl] at h
  refine ⟨fun j a => absurd a (Nat.not_lt_zero _), fun j hj => ⟨none, ?_⟩, fun j => World.ownsRow.frozenAt h j, fun j a => absurd a (Nat.not_lt_zero _), fun j a => absurd a (Nat.not_lt_zero _), (World.ownsRow.lt h g rfl).2⟩
  rw [World.ownsRow.cellAt h j (by omega), List.getElem?_replicate, if_pos hj]
/-- a board at a time -/
structure CIn (w wr : World) (g n p : Nat) (B : Nat → Nat → Option Int) (m : Nat → Nat) (mi : Nat) : Prop where
  pl : CPlan wr w.heap.size g n p B m
  ci : wr.cell? ⟨g, p, none⟩ = some (.map (some mi))
  bl : Below w.heap.size w wr
  hm : w.heap.size ≤ mi ∧ mi < wr.heap.size ∧ mi ≠ g
  hg : w.heap.size ≤ g
  ap : ∀ j, j < p → m j ≠ mi
theorem CIn.kept {w wr wr' : World} {g n p : Nat} {B : Nat → Nat → Option Int} {m : Nat → Nat} {mi : Nat} (h : CIn w wr g n p B m mi) {row : Option Nat} (hg : wr.grownBy wr' row) (h1 : row ≠ some g) (h2 : ∀ j, j < p → row ≠ some (m j)) (h3 : ∀ x, row = some x → w.heap.size ≤ x) : CIn w wr' g n p B m mi := by
  have hb : wr'.heap[g]? = wr.heap[g]? := hg.block g h.pl.lt (fun e => h1 e.symm)
  exact ⟨h.pl.kept hg h1 h2, by rw [World.cell?_of_block hb]; exact h.ci, h.bl.grown hg h.bl.size (fun k hk => h3 k hk), ⟨h.hm.1, Nat.lt_of_lt_of_le h.hm.2.1 hg.size, h.hm.2.2⟩, h.hg, h.ap⟩
theorem newMap_cst {wr : World} {g p : Nat} : Cst (newMap wr g p) wr.heap.size 0 (fun _ => none) := by
  have := Cst.made (wr.setCell ⟨g, p, none⟩ (.map (some wr.heap.size)))
  rw [set_size] at this
  exact this
theorem cplan_in {w wr : World} {g n p : Nat} {B : Nat → Nat → Option Int} {m : Nat → Nat} (h : CPlan wr w.heap.size g n p B m) (hb : Below w.heap.size w wr) (hg : w.heap.size ≤ g) (hp : p < n) : CIn w (newMap wr g p) g n p B m wr.heap.size := by
  have hgl := h.lt
  have hs1 := newMap_size wr g p
  have hbs := hb.size
  obtain ⟨v0, a1⟩ := h.any p hp
  have hml : ∀ j, j < p → m j < wr.heap.size := fun j a => by obtain ⟨q, hq⟩ := h.cst j a; exact hq.lt
  have P2 : CPlan (wr.setCell ⟨g, p, none⟩ (.map (some wr.heap.size))) w.heap.size g n p B m := by
    have far : ∀ j, p ≠ j → (wr.setCell ⟨g, p, none⟩ (.map (some wr.heap.size))).cell? ⟨g, j, none⟩ = wr.cell? ⟨g, j, none⟩ := fun j hj => World.cell?_setCell_other _ _ _ _ (by intro e; injection e with e1 e2; exact hj e2)
    refine ⟨fun j a => by rw [far j (by omega)]; exact h.cell j a, fun j a => ?_, fun j => by rw [World.frozen?_setCell]; exact h.fz j, fun j a => ?_, h.ne, by rw [set_size]; omega⟩
    · by_cases e : p = j
      · subst e; exact ⟨_, World.cell?_setCell_same _ _ _ a1⟩
      · rw [far j e]; exact h.any j a
    · obtain ⟨q, hq⟩ := h.cst j a
      exact ⟨q, hq.kept (grown_set _ g p _) (by intro e; injection e with e; exact (h.ne j a).2 e)⟩
  have BA := below_new (wr.setCell ⟨g, p, none⟩ (.map (some wr.heap.size))) (.map #[] 0)
  refine ⟨P2.kept (grown_of_below BA none) (by simp) (by simp), ?_, plan_below hb hg, ⟨by omega, by omega, by omega⟩, hg, fun j a => ?_⟩
  · rw [show newMap wr g p = (wr.setCell ⟨g, p, none⟩ (.map (some wr.heap.size))).alloc (.map #[] 0) from rfl, (bcell BA).1 g p (by rw [set_size]; exact hgl)]
    exact World.cell?_setCell_same _ _ _ a1
  · have := hml j a
    omega
theorem cplan_done {w wx : World} {g n p kk : Nat} {B : Nat → Nat → Option Int} {m : Nat → Nat} {mi : Nat} (h : CIn w wx g n p B m mi) (ht : Cst wx mi kk (B p)) : CPlan wx w.heap.size g n (p + 1) B (fun j => if j = p then mi else m j) := by
  refine ⟨fun j a => ?_, h.pl.any, h.pl.fz, fun j a => ?_, fun j a => ?_, h.pl.lt⟩
  · by_cases e : j = p
    · subst e; rw [if_pos rfl]; exact h.ci
    · rw [if_neg e]; exact h.pl.cell j (by omega)
  · by_cases e : j = p
    · subst e; rw [if_pos rfl]; exact ⟨kk, ht⟩
    · rw [if_neg e]; exact h.pl.cst j (by omega)
  · by_cases e : j = p
    · rw [if_pos e]; exact ⟨h.hm.1, h.hm.2.2⟩
    · rw [if_neg e]; exact h.pl.ne j (by omega)
end Go.Proofs.Yteefkgnojdgehaa
