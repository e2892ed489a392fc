/- Lists of strokes in memory: 'laws.szStrokeS', 'toStrokeS', 'eqStrokeS'. No condition but the lists' and the texts' lengths. -/
import Derived.Test.YtohmodjigneldaaInts
namespace Go.Proofs.Ytohmodjigneldaa
open Go.RowKit

theorem ret_int {k : IntKind} {a b : Int} (h : a = b) : Ending.returned (.int k a) = .returned (.int k b) := by rw [h]
theorem info_strk : (Try.prog.info? 45).map (fun i => (i.zero, i.size, i.bytes)) = some (some (.agg #[.int .i64 0, .int .i64 0, .string ⟨#[]⟩]), 3, 32) := by kernel_rfl
structure Strk where
  f : Int
  t : Int
  c : ByteArray
def Strk.vals (s : Strk) : List Value := [.int .i64 s.f, .int .i64 s.t, .string s.c]
def strkCells (L : List Strk) : List Value := L.flatMap Strk.vals
theorem strkCells_len (L : List Strk) : (strkCells L).length = L.length * 3 := by
  induction L with
  | nil => rfl
  | cons s L ih => unfold strkCells at *; rw [List.flatMap_cons, List.length_append, ih, List.length_cons]; simp [Strk.vals]; omega
theorem strkCells_at : ∀ (L : List Strk) (k : Nat) (h : k < L.length), (strkCells L)[k * 3]? = some (.int .i64 L[k].f) ∧ (strkCells L)[k * 3 + 1]? = some (.int .i64 L[k].t) ∧ (strkCells L)[k * 3 + 2]? = some (.string L[k].c)
  | s :: L, 0, _ => ⟨rfl, rfl, rfl⟩
  | s :: L, k + 1, h => by
    have ih := strkCells_at L k (by simpa using h)
    have e : ∀ j, (strkCells (s :: L))[(k + 1) * 3 + j]? = (strkCells L)[k * 3 + j]? := fun j => by
      unfold strkCells
      rw [List.flatMap_cons, List.getElem?_append_right (by simp [Strk.vals]; omega)]
      congr 1
      simp [Strk.vals]; omega
    exact ⟨(e 0).trans ih.1, (e 1).trans ih.2.1, (e 2).trans ih.2.2⟩
def StrkAt (w : World) (g off : Nat) (L : List Strk) : Prop :=
  ∀ k (h : k < L.length), w.cell? ⟨g, off + k * 3, none⟩ = some (.int .i64 L[k].f) ∧ w.cell? ⟨g, off + k * 3 + 1, none⟩ = some (.int .i64 L[k].t) ∧ w.cell? ⟨g, off + k * 3 + 2, none⟩ = some (.string L[k].c)
/-- a slice's address leads to these strokes -/
def StrkSl (w : World) (A : Option Addr) (L : List Strk) : Prop := L = [] ∨ ∃ g off, A = some ⟨g, off, none⟩ ∧ g < w.heap.size ∧ StrkAt w g off L
theorem StrkAt.below {w w' : World} {g off : Nat} {L : List Strk} (h : StrkAt w g off L) (hb : Below w.heap.size w w') (hg : g < w.heap.size) : StrkAt w' g off L := fun k hk => by
  obtain ⟨h1, h2, h3⟩ := h k hk
  exact ⟨(hb.cell (p := ⟨g, _, none⟩) hg).trans h1, (hb.cell (p := ⟨g, _, none⟩) hg).trans h2, (hb.cell (p := ⟨g, _, none⟩) hg).trans h3⟩
theorem StrkSl.below {w w' : World} {A : Option Addr} {L : List Strk} (h : StrkSl w A L) (hb : Below w.heap.size w w') : StrkSl w' A L := by
  rcases h with h | ⟨g, off, h1, h2, h3⟩
  · exact .inl h
  · exact .inr ⟨g, off, h1, Nat.lt_of_lt_of_le h2 hb.size, h3.below hb h2⟩
theorem StrkSl.of_own {w : World} {base : Nat} {e : TypeId} {A : Option Addr} {n c : Nat} {L : List Strk} (h : w.ownsRow base e 3 (.slice A n c) n (strkCells L)) : StrkSl w A L := by
  have hl := h.1
  rw [strkCells_len] at hl
  rcases h.2 with ⟨_, h0⟩ | ⟨g, cap, cur, hv, hb, hg, _⟩
  · left; exact List.eq_nil_of_length_eq_zero (by omega)
  · right
    injection hv with hA hn hc
    subst hA hc
    refine ⟨g, 0, rfl, (Array.getElem?_eq_some_iff.1 hg).1, fun k hk => ?_⟩
    obtain ⟨h1, h2, h3⟩ := strkCells_at L k hk
    rw [Nat.zero_add]
    exact ⟨by rw [h.cellAt _ (by omega), h1], by rw [h.cellAt _ (by omega), h2], by rw [h.cellAt _ (by omega), h3]⟩
/-- what the first j strokes of a list take -/
def preS (L : List Strk) (j : Nat) : Nat := L.length + ((L.take j).map fun s => s.c.size).sum
def totS (L : List Strk) : Nat := preS L L.length
/-- what is left of 1 << 20 behind a list, or -1 -/
def szRes (L : List Strk) : Int := if 1048576 < (totS L : Int) then -1 else 1048576 - (totS L : Int)
theorem szRes_no {L : List Strk} (h : 1048576 < totS L) : szRes L = -1 := by unfold szRes; rw [if_pos (by omega)]
theorem szRes_yes {L : List Strk} (h : totS L ≤ 1048576) : szRes L = 1048576 - (totS L : Int) := by unfold szRes; rw [if_neg (by omega)]
/-- all texts are short enough to be read -/
def Short (L : List Strk) : Prop := ∀ k (h : k < L.length), L[k].c.size ≤ maxLen
theorem preS_zero (L : List Strk) : preS L 0 = L.length := by simp [preS]
theorem preS_succ (L : List Strk) (k : Nat) (h : k < L.length) : preS L (k + 1) = preS L k + L[k].c.size := by
  unfold preS; rw [List.take_succ_eq_append_getElem h, List.map_append, List.sum_append]; simp; omega
theorem preS_le (L : List Strk) (k : Nat) : preS L k ≤ totS L := by
  unfold totS preS
  rw [List.take_length]
  have : (L.map fun s => s.c.size) = ((L.take k).map fun s => s.c.size) ++ ((L.drop k).map fun s => s.c.size) := by rw [← List.map_append, List.take_append_drop]
  rw [this, List.sum_append]; omega

/-- a row of the call's own whose first c cells are filled as they shall be -/
def Filled (w : World) (base : Nat) (e : TypeId) (size : Nat) (v : Value) (n : Nat) (xs : List Value) (c : Nat) (wr : World) : Prop :=
  ∃ ys : List Value, wr.ownsRow base e size v n ys ∧ (∀ i, i < c → ys[i]? = xs[i]?) ∧ Below base w wr
section
variable {w wr wr' : World} {base size g cap n c : Nat} {e : TypeId} {v : Value} {xs : List Value}
theorem Filled.step (h : Filled w base e size (.slice (some ⟨g, 0, none⟩) n cap) n xs c wr) (hc : c < n * size) (hb : base ≤ g) {u : Value} (hu : xs[c]? = some u) :
    Filled w base e size (.slice (some ⟨g, 0, none⟩) n cap) n xs (c + 1) (wr.setCell ⟨g, c, none⟩ u) := by
  obtain ⟨ys, ho, hm, hB⟩ := h
  have hl : ys.length = n * size := ho.1
  obtain ⟨ho', hg'⟩ := ho.stored c u
  refine ⟨_, ho', fun i hi => ?_, hB.setCell (by exact hb) _⟩
  rw [List.getElem?_set]
  by_cases e : c = i
  · subst e; rw [if_pos rfl, if_pos (by omega), hu]
  · rw [if_neg e]; exact hm i (by omega)
theorem Filled.cell (h : Filled w base e size (.slice (some ⟨g, 0, none⟩) n cap) n xs c wr) (j : Nat) (hj : j < n * size) :
    (∃ u, wr.cell? ⟨g, j, none⟩ = some u) ∧ wr.frozen? ⟨g, j, none⟩ = false := by
  obtain ⟨ys, ho, hm, hB⟩ := h
  have hl : ys.length = n * size := ho.1
  exact ⟨⟨_, by rw [ho.cellAt j hj]; exact List.getElem?_eq_getElem (by omega)⟩, ho.frozenAt j⟩
theorem Filled.below (h : Filled w base e size v n xs c wr) (hb : Below wr.heap.size wr wr') (hw : base ≤ w.heap.size) : Filled w base e size v n xs c wr' := by
  obtain ⟨ys, ho, hm, hB⟩ := h
  exact ⟨ys, own_below ho hb, hm, hB.trans (hb.mono (by have := hB.size; omega))⟩
theorem Filled.all (h : Filled w base e size v n xs (n * size) wr) (hx : xs.length = n * size) : wr.ownsRow base e size v n xs ∧ Below base w wr := by
  obtain ⟨ys, ho, hm, hB⟩ := h
  have hl : ys.length = n * size := ho.1
  have : ys = xs := List.ext_getElem? fun i => by
    by_cases hi : i < n * size
    · exact hm i hi
    · rw [List.getElem?_eq_none (by omega), List.getElem?_eq_none (by omega)]
  rw [this] at ho
  exact ⟨ho, hB⟩
theorem Filled.below0 (h : Filled w base e size v n xs c wr) : Below base w wr := by
  obtain ⟨ys, ho, hm, hB⟩ := h; exact hB
end

theorem eqStroke_same (f t : Int) (c : ByteArray) (w : World) :
    Calls Try.prog 33 #[.agg #[.int .i64 f, .int .i64 t, .string c], .agg #[.int .i64 f, .int .i64 t, .string c]] w fun e w' => e = .returned (.bool true) ∧ Below w.heap.size w w' := by
  go_enter Try.func33, Try.ntmps33
  go_wp2
  go_ret
  exact ⟨rfl, ((below_new w _).alloc (by simp) _)⟩

set_option maxHeartbeats 1000000 in
theorem eqStrokeS_same (A1 A2 : Option Addr) (c1 c2 : Nat) (L : List Strk) (w : World) (hn : L.length ≤ 1048576) (h1 : StrkSl w A1 L) (h2 : StrkSl w A2 L) :
    Calls Try.prog 13 #[.slice A1 L.length c1, .slice A2 L.length c2] w fun e w' => e = .returned (.bool true) ∧ Below w.heap.size w w' := by
  rcases Nat.eq_zero_or_pos L.length with h0 | h0
  · obtain rfl : L = [] := List.eq_nil_of_length_eq_zero h0
    clear h1 h2 hn h0
    go_enter Try.func13, Try.ntmps13
    go_wp2
    refine wp_loop_rounds 1 ?_
    rw [rounds_succ]
    go_wp2
    go_ret
    exact ⟨rfl, Below.refl _ _⟩
  · obtain ⟨g1, o1, rfl, hg1, hat1⟩ : ∃ g off, A1 = some ⟨g, off, none⟩ ∧ g < w.heap.size ∧ StrkAt w g off L := by
      rcases h1 with h | h
      · subst h; simp at h0
      · exact h
    obtain ⟨g2, o2, rfl, hg2, hat2⟩ : ∃ g off, A2 = some ⟨g, off, none⟩ ∧ g < w.heap.size ∧ StrkAt w g off L := by
      rcases h2 with h | h
      · subst h; simp at h0
      · exact h
    clear h1 h2
    have H1 := Lib.hid hat1
    have H2 := Lib.hid hat2
    clear hat1 hat2
    go_enter Try.func13, Try.ntmps13
    go_wp2
    go_loopw [5] (fun i wr => ∃ j : Nat, j ≤ L.length ∧ i = .int .i64 j ∧ Below w.heap.size w wr) (fun i _ => L.length - (intOf i).toNat)
    case atStart => exact ⟨0, Nat.zero_le _, rfl, Below.refl _ _⟩
    case round =>
      obtain ⟨j, hj, rfl, hb⟩ := hrel
      by_cases hlt : j < L.length
      · have hj0 : (0 : Int) ≤ (j : Int) := by omega
        have hj1 : (j : Int) < (L.length : Int) := by omega
        obtain ⟨d1, d2, d3⟩ := H1.out.below hb hg1 j hlt
        obtain ⟨e1, e2, e3⟩ := H2.out.below hb hg2 j hlt
        have l1 : g1 < wr.heap.size := Nat.lt_of_lt_of_le hg1 hb.size
        have l2 : g2 < wr.heap.size := Nat.lt_of_lt_of_le hg2 hb.size
        go_wp2
        go_region_held3 (fun x => x.cell? ⟨g1, o1 + j * 3, none⟩ = some (.int .i64 L[j].f) ∧ x.cell? ⟨g1, o1 + j * 3 + 1, none⟩ = some (.int .i64 L[j].t) ∧ x.cell? ⟨g1, o1 + j * 3 + 2, none⟩ = some (.string L[j].c) ∧
            x.cell? ⟨g2, o2 + j * 3, none⟩ = some (.int .i64 L[j].f) ∧ x.cell? ⟨g2, o2 + j * 3 + 1, none⟩ = some (.int .i64 L[j].t) ∧ x.cell? ⟨g2, o2 + j * 3 + 2, none⟩ = some (.string L[j].c))
          (first | go_keep | exact ⟨(hcc g1 _ l1).trans d1, (hcc g1 _ l1).trans d2, (hcc g1 _ l1).trans d3, (hcc g2 _ l2).trans e1, (hcc g2 _ l2).trans e2, (hcc g2 _ l2).trans e3⟩)
          (first | (go_at_call 33; refine (eqStroke_same _ _ _ _).mono ?_; rintro e w1 ⟨rfl, hb1⟩; obtain ⟨hcc, hff⟩ := bcell hb1))
        go_wp2
        go_roundw
        case rel => exact ⟨j + 1, by omega, by go_num, hb.trans (below_next (Below.refl _ _).drew hb1 |>.mono hb.size)⟩
        case measure => simp [intOf]; omega
      · obtain rfl : j = L.length := by omega
        go_wp2
        go_ret
        exact ⟨rfl, hb⟩
end Go.Proofs.Ytohmodjigneldaa
