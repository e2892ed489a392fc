/- 'spec.stWhole': the model's table of the fewest strokes for each part. No condition but the text's length. -/
import Derived.Test.YtohmodjigneldaaTxFewTab
import Derived.Test.YtohmodjigneldaaTxSS
import Derived.Test.YtohmodjigneldaaTxIter
namespace Go.Proofs.Ytohmodjigneldaa.Tx
open Go.RowKit

/-- a table of n rows of n numbers -/
def tabL (n : Nat) (F : Nat → Nat → Int) : List (List Int) := (List.range n).map fun r => (List.range n).map (F r)
theorem tabL_at {n : Nat} {F : Nat → Nat → Int} {i : Nat} (h : i < n) : ((tabL n F).map intsV)[i]? = some (intsV ((List.range n).map (F i))) := by
  unfold tabL
  rw [List.getElem?_map, List.getElem?_map, List.getElem?_range h]; rfl
theorem rowL_len (n : Nat) (f : Nat → Int) : (intsV ((List.range n).map f)).length = n := by unfold intsV; simp
theorem rowL_at {n q : Nat} {f : Nat → Int} (h : q < n) : (intsV ((List.range n).map f))[q]? = some (.int .i64 (f q)) := by
  unfold intsV
  rw [List.getElem?_map, List.getElem?_map, List.getElem?_range h]; rfl
theorem tabL_congr {n : Nat} {F G : Nat → Nat → Int} (h : ∀ r q, r < n → q < n → F r q = G r q) : tabL n F = tabL n G := by
  unfold tabL
  refine List.map_congr_left fun r hr => List.map_congr_left fun q hq => h r q (List.mem_range.1 hr) (List.mem_range.1 hq)
theorem rowL_set (n i : Nat) (f : Nat → Int) (x : Int) : (intsV ((List.range n).map f)).set i (.int .i64 x) = intsV ((List.range n).map fun q => if q = i then x else f q) := by
  unfold intsV
  rw [← List.map_set]
  congr 1
  apply List.ext_getElem?
  intro j
  rw [List.getElem?_set, List.length_map, List.length_range, List.getElem?_map, List.getElem?_map]
  by_cases hj : j < n
  · rw [List.getElem?_range hj]
    by_cases e : i = j
    · subst e; rw [if_pos rfl, if_pos hj]; simp
    · rw [if_neg e]
      show some (f j) = some (if j = i then x else f j)
      rw [if_neg fun h => e h.symm]
  · rw [List.getElem?_eq_none (by rw [List.length_range]; omega)]
    by_cases e : i = j
    · subst e; rw [if_pos rfl, if_neg hj]; rfl
    · rw [if_neg e]; rfl

section
variable {w : World} {base top n : Nat} {V : Value} {vs : List Value} {F : Nat → Nat → Int}
/-- where a row lies -/
theorem RowsTo.rowAt (h : RowsTo w base top V vs ((tabL n F).map intsV)) {i : Nat} (hi : i < n) :
    ∃ g c, vs[i]? = some (.slice (some ⟨g, 0, none⟩) n c) ∧ w.ownsRow base 3 1 (.slice (some ⟨g, 0, none⟩) n c) n (intsV ((List.range n).map (F i))) := by
  obtain ⟨A, c, h1, h2⟩ := OwnSS.at h (tabL_at hi)
  rw [rowL_len] at h1 h2
  obtain ⟨g, cap, e, _, _⟩ := own_some h2 (by omega)
  injection e with e1 e2 e3
  subst e1
  exact ⟨g, c, h1, h2⟩
theorem RowsTo.outAt (h : RowsTo w base top V vs ((tabL n F).map intsV)) (h0 : 0 < n) : ∃ g c, V = .slice (some ⟨g, 0, none⟩) n c ∧ ∀ i v, vs[i]? = some v → w.cell? ⟨g, i, none⟩ = some v := by
  have hl : vs.length = n := by rw [h.len, List.length_map]; unfold tabL; simp
  have ho := h.out
  rw [hl] at ho
  obtain ⟨g, cap, rfl, _, _⟩ := own_some ho h0
  refine ⟨g, cap, rfl, fun i v hv => ?_⟩
  have hi : i < vs.length := (List.getElem?_eq_some_iff.1 hv).1
  rw [World.ownsRow.cellAt ho i (by omega), hv]
theorem RowsTo.cellAt (h : RowsTo w base top V vs ((tabL n F).map intsV)) {i q g c : Nat} (hi : i < n) (hq : q < n) (hg : vs[i]? = some (.slice (some ⟨g, 0, none⟩) n c)) : w.cell? ⟨g, q, none⟩ = some (.int .i64 (F i q)) := by
  have hr := h.row i _ _ hg (tabL_at hi)
  rw [rowL_len] at hr
  rw [World.ownsRow.cellAt hr q (by omega), rowL_at hq]
theorem RowsTo.frozenAt (h : RowsTo w base top V vs ((tabL n F).map intsV)) {i q g c : Nat} (hi : i < n) (hg : vs[i]? = some (.slice (some ⟨g, 0, none⟩) n c)) : w.frozen? ⟨g, q, none⟩ = false := by
  have hr := h.row i _ _ hg (tabL_at hi)
  rw [rowL_len] at hr
  exact World.ownsRow.frozenAt hr q
theorem RowsTo.lowAt (h : RowsTo w base top V vs ((tabL n F).map intsV)) {i g c : Nat} (hi : i < n) (hg : vs[i]? = some (.slice (some ⟨g, 0, none⟩) n c)) : base ≤ g := by
  have hr := h.row i _ _ hg (tabL_at hi)
  exact (World.ownsRow.lt hr g rfl).1
theorem RowsTo.write (h : RowsTo w base top V vs ((tabL n F).map intsV)) {i q g c : Nat} (hi : i < n) (hg : vs[i]? = some (.slice (some ⟨g, 0, none⟩) n c)) (x : Int) :
    RowsTo (w.setCell ⟨g, q, none⟩ (.int .i64 x)) base top V vs ((tabL n fun r p => if r = i ∧ p = q then x else F r p).map intsV) := by
  have hr := h.row i _ _ hg (tabL_at hi)
  rw [rowL_len] at hr
  obtain ⟨so, sg⟩ := World.ownsRow.stored hr q (.int .i64 x)
  refine ⟨own_apart h.out sg fun k hk e => h.far i _ hg g rfl (hk.trans e.symm), by rw [h.len, List.length_map, List.length_map]; unfold tabL; simp, fun j v z h1 h2 => ?_, h.far, h.apart, h.top1, h.top2⟩
  have hj : j < n := by
    have h3 := (List.getElem?_eq_some_iff.1 h2).1
    rw [List.length_map] at h3
    unfold tabL at h3
    simpa using h3
  rw [tabL_at hj] at h2
  obtain rfl := Option.some.inj h2
  rw [rowL_len]
  by_cases e : j = i
  · subst e
    rw [hg] at h1
    obtain rfl := Option.some.inj h1
    rw [rowL_set] at so
    have : (fun p => if j = j ∧ p = q then x else F j p) = fun p => if p = q then x else F j p := by funext p; simp
    rw [this]
    exact so
  · have h3 := h.row j v _ h1 (tabL_at hj)
    rw [rowL_len] at h3
    have : (fun p => if j = i ∧ p = q then x else F j p) = F j := by funext p; simp [e]
    rw [this]
    exact own_apart h3 sg fun k hk e2 => h.apart j i _ _ e h1 hg k hk e2
theorem RowsTo.same {G : Nat → Nat → Int} (h : RowsTo w base top V vs ((tabL n F).map intsV)) (hFG : ∀ r q, r < n → q < n → F r q = G r q) : RowsTo w base top V vs ((tabL n G).map intsV) := by
  rw [← tabL_congr hFG]; exact h
theorem RowsTo.drewN {Z : List (List Value)} (h : RowsTo w base top V vs Z) (d : Nat) : RowsTo (w.drewN d) base top V vs Z := h.below (below_drewN (Below.refl _ _) d)
theorem RowsTo.iterAt {Z : List (List Value)} {B : Nat} (h : RowsTo w (B + 1) top V vs Z) (s : ByteArray) (k : Nat) : RowsTo (w.iterAt B s k) (B + 1) top V vs Z :=
  ⟨own_apart h.out (grown_iterAt w B s k) fun i hi e => by have := World.ownsRow.lt h.out i hi; injection e with e; omega, h.len,
   fun i v z h1 h2 => own_apart (h.row i v z h1 h2) (grown_iterAt w B s k) fun j hj e => by have := World.ownsRow.lt (h.row i v z h1 h2) j hj; injection e with e; omega, h.far, h.apart, h.top1, h.top2⟩
end
/-- the model's table: rows from lo on -/
def wF (c : Nat → Nat) (lo r q : Nat) : Int := if lo ≤ r ∧ r ≤ q then (parF c r (q + 1) : Int) else 0
def wR (c : Nat → Nat) (st k r q : Nat) : Int := if (st < r ∨ (r = st ∧ q < k)) ∧ r ≤ q then (parF c r (q + 1) : Int) else 0
theorem wR_start (c : Nat → Nat) (st r q : Nat) : wF c (st + 1) r q = wR c st st r q := by
  unfold wF wR
  by_cases h : st + 1 ≤ r ∧ r ≤ q
  · rw [if_pos h, if_pos ⟨.inl (by omega), h.2⟩]
  · rw [if_neg h, if_neg (by omega)]
theorem wR_end {c : Nat → Nat} {n st r q : Nat} (hq : q < n) : wR c st n r q = wF c st r q := by
  unfold wF wR
  by_cases h : st ≤ r ∧ r ≤ q
  · rw [if_pos h, if_pos ⟨by omega, h.2⟩]
  · rw [if_neg h, if_neg (by omega)]
theorem wR_set {c : Nat → Nat} {st k : Nat} (hk : st ≤ k) (r q : Nat) : (if r = st ∧ q = k then (parF c st (k + 1) : Int) else wR c st k r q) = wR c st (k + 1) r q := by
  unfold wR
  by_cases h : r = st ∧ q = k
  · rw [if_pos h, h.1, h.2, if_pos ⟨.inr ⟨rfl, by omega⟩, hk⟩]
  · rw [if_neg h]
    by_cases h2 : (st < r ∨ (r = st ∧ q < k)) ∧ r ≤ q
    · rw [if_pos h2, if_pos ⟨by omega, h2.2⟩]
    · rw [if_neg h2, if_neg (by omega)]
theorem wR_at {c : Nat → Nat} {st k r q : Nat} (h : st < r) (hq : r ≤ q) : wR c st k r q = (parF c r (q + 1) : Int) := by
  unfold wR; rw [if_pos ⟨.inl h, hq⟩]
theorem wF_none {c : Nat → Nat} {n r q : Nat} (h : r < n) : wF c n r q = 0 := by unfold wF; rw [if_neg (by omega)]
theorem wF_at {c : Nat → Nat} {r q : Nat} (hq : r ≤ q) : wF c 0 r q = (parF c r (q + 1) : Int) := by unfold wF; rw [if_pos ⟨Nat.zero_le _, hq⟩]
end Go.Proofs.Ytohmodjigneldaa.Tx
