/- Lists of lists of numbers among the arguments: opened, counted ('laws.szIntSS'), copied ('laws.toIntSS'). No condition but the lists' lengths. -/
import Derived.Test.YtmdfcamieonabaaOpenI
import Derived.Test.YtmdfcamieonabaaSSput
import Derived.Deep.Matrix
namespace Go.Proofs.Ytmdfcamieonabaa
open Go.ChangeShapes Go.WideShapes Go.ChangeAt Go.RowKit Go.Deep Go.Joins

/-- a list of lists of numbers in memory -/
def IntSS (w : World) (A : Option Addr) (LL : List (List Int)) : Prop :=
  LL = [] ∨ ∃ g off, A = some ⟨g, off, none⟩ ∧ g < w.heap.size ∧ ∀ (k : Nat) (h : k < LL.length), ∃ B c, w.cell? ⟨g, off + k, none⟩ = some (.slice B LL[k].length c) ∧ IntSl w B LL[k]
theorem IntSS.below {w w' : World} {A : Option Addr} {LL : List (List Int)} (h : IntSS w A LL) (hb : Below w.heap.size w w') : IntSS w' A LL := by
  rcases h with h | ⟨g, off, hA, hg, h⟩
  · exact .inl h
  · refine .inr ⟨g, off, hA, Nat.lt_of_lt_of_le hg hb.size, fun k hk => ?_⟩
    obtain ⟨B, c, h1, h2⟩ := h k hk
    exact ⟨B, c, by rw [(bcell hb).1 g _ hg]; exact h1, h2.below hb⟩
theorem IntSS.some {w : World} {A : Option Addr} {LL : List (List Int)} (h : IntSS w A LL) (h0 : 0 < LL.length) : ∃ g off, A = some ⟨g, off, none⟩ ∧ g < w.heap.size ∧ ∀ (k : Nat) (h : k < LL.length), ∃ B c, w.cell? ⟨g, off + k, none⟩ = some (.slice B LL[k].length c) ∧ IntSl w B LL[k] := by
  rcases h with h | h
  · subst h; simp at h0
  · exact h
theorem IntSS.of_own {w : World} {base top n c : Nat} {A : Option Addr} {LL : List (List Int)} (h : OwnSS w base top (.slice A n c) LL) : IntSS w A LL := by
  obtain ⟨vs, h⟩ := h
  have hl : vs.length = LL.length := by rw [h.len, List.length_map]
  rcases Nat.eq_zero_or_pos LL.length with h0 | h0
  · exact .inl (List.eq_nil_of_length_eq_zero h0)
  · right
    obtain ⟨g, cap, hV, hgb, hgl⟩ := own_some h.out (by omega)
    injection hV with hA hn hc
    subst hA hn
    refine ⟨g, 0, rfl, hgl, fun k hk => ?_⟩
    obtain ⟨B, c2, hv, ho⟩ := OwnSS.at h (i := k) (z := intsV LL[k]) (by rw [List.getElem?_map, List.getElem?_eq_getElem hk]; rfl)
    rw [intsV_len] at hv ho
    refine ⟨B, c2, ?_, IntSl.of_own ho⟩
    rw [Nat.zero_add, h.out.cellAt k (by omega)]
    exact hv

section
variable {H : Type} {enc : TypeId × Value → H} {w : World} {base : Nat} {held : Bool}
theorem cells_ints : Try.prog.cellsOf 59 = 1 := by kernel_rfl
theorem add_zero (b off r : Nat) : (⟨b, off, none⟩ : Addr).add r = ⟨b, off + r, none⟩ := by
  unfold Addr.add
  split
  · next h => subst h; rfl
  · rfl
set_option maxRecDepth 20000 in
theorem open_intss {r : Reach} {b0 : Nat} {v : Value} {d : DataW H} {p : List MemPlace} (hv : Value.okWide Try.prog w r b0 35 v) (h : DataW.Trod enc Try.prog w base (fun _ => true) held 35 v d p) :
    ∃ (A : Option Addr) (cap : Nat) (LL : List (List Int)), v = .slice A LL.length cap ∧ IntSS w A LL ∧ (∀ L ∈ LL, WfL L) ∧ LL.length ≤ cap ∧ LL.length ≤ maxLen ∧ (∀ L ∈ LL, L.length ≤ maxLen) := by
  obtain ⟨a0, len0, cap0, rfl⟩ := okWide_slice Try.underlying35 hv
  obtain ⟨fuel, hf⟩ := h
  rcases open_int_rows (k := .i64) Try.underlying35 Try.underlying59 Try.underlying3 cells_ints cells_int hf with ⟨hcs, -⟩ | ⟨a, len, cap, A, L, C, Z, hcs, hb, hl, hm, -, hr⟩
  · simp [Value.cells] at hcs
    obtain ⟨rfl, rfl, rfl⟩ := hcs
    exact ⟨none, 0, [], rfl, .inl rfl, (fun k hk => nomatch hk), Nat.le_refl _, Nat.zero_le _, (fun k hk => nomatch hk)⟩
  · simp [Value.cells] at hcs
    obtain ⟨rfl, rfl, rfl⟩ := hcs
    have hzl : ∀ r, r < len0 → ((Z r).take (L r)).length = L r := fun r hr' => by
      obtain ⟨_, h1, _, h3, _⟩ := hr r (by omega)
      rw [List.length_take]; omega
    have hLL : ((List.range len0).map fun r => (Z r).take (L r)).length = len0 := by simp
    refine ⟨some a, cap0, (List.range len0).map fun r => (Z r).take (L r), by rw [hLL], ?_, fun M hM => ?_, by omega, by omega, fun M hM => ?_⟩
    · rcases Nat.eq_zero_or_pos len0 with h0 | h0
      · left; rw [h0]; rfl
      · obtain ⟨b, off, spot⟩ := a
        have h00 := (hr 0 (by omega)).1
        have hspot : spot = none := by simpa [Addr.add] using World.cell?_spot h00
        subst hspot
        refine .inr ⟨b, off, rfl, World.block_lt_of_cell? w _ h00, fun k hk => ?_⟩
        have hk' : k < len0 := by rw [hLL] at hk; exact hk
        obtain ⟨h1, h2, h3, h4, h5, h6, h7⟩ := hr k (by omega)
        have he : ((List.range len0).map fun r => (Z r).take (L r))[k] = (Z k).take (L k) := by simp
        rw [add_zero] at h1
        refine ⟨A k, C k, by rw [he, hzl k hk']; exact h1, ?_⟩
        rw [he]
        rcases Nat.eq_zero_or_pos (L k) with hz | hz
        · left; rw [hz]; rfl
        · cases hA : A k with
          | none => have := h6 hA; omega
          | some a' =>
            obtain ⟨hb', hc'⟩ := h7 a' hA
            obtain ⟨b2, off2, spot2⟩ := a'
            have h01 := hc' 0 (by omega)
            have hspot : spot2 = none := by simpa [Addr.add] using World.cell?_spot h01
            subst hspot
            refine .inr ⟨b2, off2, rfl, World.block_lt_of_cell? w _ h01, fun c hc => ?_⟩
            have hcl : c < L k := by rw [hzl k hk'] at hc; exact hc
            have h8 := hc' c (by omega)
            rw [add_zero] at h8
            rw [h8, List.getElem_take]
            congr 2
            rw [List.getD_eq_getElem?_getD, List.getElem?_eq_getElem (by omega)]; rfl
    · obtain ⟨r, hr1, rfl⟩ := List.mem_map.1 hM
      have hr2 := List.mem_range.1 hr1
      intro x hx
      exact (hr r (by omega)).2.2.2.2.1 x (List.mem_of_mem_take hx)
    · obtain ⟨r, hr1, rfl⟩ := List.mem_map.1 hM
      have hr2 := List.mem_range.1 hr1
      rw [hzl r hr2]
      have := hr r (by omega); omega
end
end Go.Proofs.Ytmdfcamieonabaa
