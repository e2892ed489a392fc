/- A stroke and a list of strokes among the arguments, opened. No condition. -/
import Derived.Test.YtnijedmnjmeciaaDoorStrks
import Derived.Lib.SmallJoins
import Derived.Deep.Slices
import Derived.Deep.Fields
namespace Go.Proofs.YtnijedmnjmeciaaDoor
open Go.ChangeShapes Go.WideShapes Go.ChangeAt Go.RowKit Go.Deep Go.Joins

def fldF : Field := { name := "From", type := 3, offset := 0, embedded := false, tag := "", pkgPath := "", byteOffset := 0 }
def fldT : Field := { name := "To", type := 3, offset := 1, embedded := false, tag := "", pkgPath := "", byteOffset := 8 }
def fldC : Field := { name := "Colour", type := 9, offset := 2, embedded := false, tag := "", pkgPath := "", byteOffset := 16 }
theorem und_strk : Tryd.prog.underlying 39 = some (.struct #[fldF, fldT, fldC]) := Tryd.underlying39
theorem one_strk : oneCellFields Tryd.prog #[fldF, fldT, fldC] = true := by kernel_rfl
theorem cells_strk : Tryd.prog.cellsOf 39 = 3 := by kernel_rfl

section
variable {H : Type} {enc : TypeId × Value → H} {w : World} {base : Nat} {spare : Nat → Bool} {held : Bool}
set_option maxRecDepth 100000 in
theorem open_strk {r : Reach} {b0 : Nat} {v : Value} {d : DataW H} {p : List MemPlace} (hv : Value.okWide Tryd.prog w r b0 39 v) (h : DataW.Trod enc Tryd.prog w base spare held 39 v d p) :
    ∃ (f t : Int) (c : ByteArray), v = .agg #[.int .i64 f, .int .i64 t, .string c] ∧ c.size ≤ maxLen := by
  have := open_agg3 (P := Tryd.prog) (f0 := fldF) (f1 := fldT) (f2 := fldC) und_strk one_strk cells_strk hv h
  obtain ⟨v0, v1, v2, y0, y1, y2, n, hve, -, -, h0, h1, h2⟩ := this
  obtain ⟨f, e0, -, -⟩ := DataW.trod_int (k := .i64) Tryd.underlying3 h0
  obtain ⟨t, e1, -, -⟩ := DataW.trod_int (k := .i64) Tryd.underlying3 h1
  obtain ⟨c, e2, -, hc⟩ := DataW.trod_string Tryd.underlying9 h2
  injection e0 with e0
  injection e1 with e1
  injection e2 with e2
  subst e0 e1 e2
  exact ⟨f, t, c, hve, hc⟩

theorem take_one {cs : List Value} {i : Nat} {x : Value} (h : (cs.drop i).take 1 = [x]) : cs[i]? = some x := by
  have : ((cs.drop i).take 1)[0]? = some x := by rw [h]; rfl
  rw [List.getElem?_take_of_lt (by omega), List.getElem?_drop] at this
  simpa using this

theorem read_strk {n : Nat} {a : Addr} {y : DataW H × List MemPlace} {cs : List Value} (hc : w.cells? base a 3 = some cs) (h : DataW.trod enc Tryd.prog w base spare held n 39 cs = some y) :
    ∃ s : Strk, s.c.size ≤ maxLen ∧ w.cell? a = some (.int .i64 s.f) ∧ w.cell? (a.add 1) = some (.int .i64 s.t) ∧ w.cell? (a.add 2) = some (.string s.c) := by
  obtain ⟨ys, n', -, -, hlen, hyl, hfs⟩ := DataW.trod_struct und_strk h
  obtain ⟨-, hcl, hat⟩ := World.cells?_some hc
  have ys3 : ys.length = 3 := hyl
  have g0 := hfs 0 fldF rfl
  have g1 := hfs 1 fldT rfl
  have g2 := hfs 2 fldC rfl
  rw [show Tryd.prog.cellsOf fldF.type = 1 by kernel_rfl, List.getElem?_eq_getElem (by omega)] at g0
  rw [show Tryd.prog.cellsOf fldT.type = 1 by kernel_rfl, List.getElem?_eq_getElem (by omega)] at g1
  rw [show Tryd.prog.cellsOf fldC.type = 1 by kernel_rfl, List.getElem?_eq_getElem (by omega)] at g2
  obtain ⟨f, e0, -, -⟩ := DataW.trod_int (k := .i64) Tryd.underlying3 g0
  obtain ⟨t, e1, -, -⟩ := DataW.trod_int (k := .i64) Tryd.underlying3 g1
  obtain ⟨c, e2, -, hs⟩ := DataW.trod_string Tryd.underlying9 g2
  refine ⟨⟨f, t, c⟩, hs, ?_, ?_, ?_⟩
  · have := hat 0 (by omega); rw [take_one (i := 0) e0] at this; exact this
  · have := hat 1 (by omega); rw [take_one (i := 1) e1] at this; exact this
  · have := hat 2 (by omega); rw [take_one (i := 2) e2] at this; exact this

theorem add_add' (a : Addr) (i j : Nat) : (a.add i).add j = a.add (i + j) := by
  unfold Addr.add
  by_cases hi : i = 0
  · subst hi; simp
  · by_cases hj : j = 0
    · subst hj; simp
    · rw [if_neg hi, if_neg hj, if_neg (by omega)]; simp; omega

theorem list_of {α : Type} {n : Nat} {R : Nat → α → Prop} (h : ∀ i, i < n → ∃ x, R i x) : ∃ l : List α, l.length = n ∧ ∀ i (hi : i < l.length), R i l[i] := by
  induction n with
  | zero => exact ⟨[], rfl, fun i hi => absurd hi (Nat.not_lt_zero _)⟩
  | succ n ih =>
    obtain ⟨l, hl, hR⟩ := ih fun i hi => h i (by omega)
    obtain ⟨x, hx⟩ := h n (by omega)
    refine ⟨l ++ [x], by simp [hl], fun i hi => ?_⟩
    by_cases hn : i < l.length
    · rw [List.getElem_append_left hn]; exact hR i hn
    · have : i = n := by simp at hi; omega
      subst this
      rw [List.getElem_append_right (by omega)]
      simpa using hx

set_option maxRecDepth 100000 in
theorem open_strks {r : Reach} {b0 : Nat} {v : Value} {d : DataW H} {p : List MemPlace} (hv : Value.okWide Tryd.prog w r b0 22 v) (h : DataW.Trod enc Tryd.prog w base spare held 22 v d p) :
    ∃ (A : Option Addr) (cap : Nat) (L : List Strk), v = .slice A L.length cap ∧ StrkSl w A L ∧ Short L ∧ L.length ≤ maxLen := by
  obtain ⟨a0, len0, cap0, rfl⟩ := okWide_slice Tryd.underlying22 hv
  obtain ⟨fuel, hf⟩ := h
  rcases open_slice Tryd.underlying22 hf with ⟨hcs, -⟩ | ⟨a, len, cap, m, n, D, Pl, hcs, hb, hl, hm, hmm, -, hi⟩
  · simp [Value.cells] at hcs
    obtain ⟨rfl, rfl, rfl⟩ := hcs
    exact ⟨none, 0, [], rfl, .inl rfl, fun k hk => absurd hk (Nat.not_lt_zero _), Nat.zero_le _⟩
  · simp [Value.cells] at hcs
    obtain ⟨rfl, rfl, rfl⟩ := hcs
    have hml : len0 ≤ m := by rw [hmm]; split <;> omega
    obtain ⟨L, hL, hR⟩ := list_of (n := len0) (R := fun i (s : Strk) => s.c.size ≤ maxLen ∧ w.cell? (a.add (i * 3)) = some (.int .i64 s.f) ∧ w.cell? ((a.add (i * 3)).add 1) = some (.int .i64 s.t) ∧ w.cell? ((a.add (i * 3)).add 2) = some (.string s.c)) fun i hlt => by
      obtain ⟨cs', hc, ht'⟩ := hi i (by omega)
      rw [cells_strk] at hc
      exact read_strk hc ht'
    subst hL
    refine ⟨some a, cap0, L, rfl, ?_, fun k hk => (hR k hk).1, by omega⟩
    rcases Nat.eq_zero_or_pos L.length with h0 | h0
    · exact .inl (List.eq_nil_of_length_eq_zero h0)
    · obtain ⟨b, off, spot⟩ := a
      have hspot : spot = none := by
        have := (hR 0 h0).2.1
        simpa [Addr.add] using World.cell?_spot this
      subst hspot
      refine .inr ⟨b, off, rfl, World.block_lt_of_cell? w _ (hR 0 h0).2.1, fun k hk => ?_⟩
      obtain ⟨-, c1, c2, c3⟩ := hR k hk
      rw [add_add'] at c2 c3
      rw [add_plain] at c1 c2 c3
      exact ⟨c1, by rw [Nat.add_assoc]; exact c2, by rw [Nat.add_assoc]; exact c3⟩
end
end Go.Proofs.YtnijedmnjmeciaaDoor
