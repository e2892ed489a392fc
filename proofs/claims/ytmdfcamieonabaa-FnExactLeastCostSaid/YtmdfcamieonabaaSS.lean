/- Lists of lists of numbers that a call has made, and the law's own helpers on them: 'laws.eqIntSS', 'markIntSS', 'heldIntSS'. No condition but the lists' lengths. -/
import Derived.Test.YtmdfcamieonabaaMem
import Derived.BigQuiet
import Derived.Maps.AppendAt
namespace Go.Proofs.Ytmdfcamieonabaa
open Go.RowKit

theorem info_intsl : (Try.prog.info? 59).map (fun i => (i.zero, i.size, i.bytes)) = some (some (.slice none 0 0), 1, 24) := by kernel_rfl
def intsV (L : List Int) : List Value := L.map (Value.int .i64)

/-- a list V of lists vs, each of the call's own, apart from each other and from the list, in blocks of base .. top - 1 -/
structure RowsTo (w : World) (base top : Nat) (V : Value) (vs : List Value) (Z : List (List Value)) : Prop where
  out : w.ownsRow base 59 1 V vs.length vs
  len : vs.length = Z.length
  row : ∀ (i : Nat) (v : Value) (z : List Value), vs[i]? = some v → Z[i]? = some z → w.ownsRow base 3 1 v z.length z
  far : ∀ (i : Nat) (v : Value), vs[i]? = some v → ∀ k, v.ownBlock = some k → V.ownBlock ≠ some k
  apart : ∀ (i j : Nat) (v u : Value), i ≠ j → vs[i]? = some v → vs[j]? = some u → ∀ k, v.ownBlock = some k → u.ownBlock ≠ some k
  top1 : ∀ k, V.ownBlock = some k → k < top
  top2 : ∀ (i : Nat) (v : Value), vs[i]? = some v → ∀ k, v.ownBlock = some k → k < top
/-- a list of lists that the call itself has made -/
def OwnSS (w : World) (base top : Nat) (V : Value) (LL : List (List Int)) : Prop := ∃ vs, RowsTo w base top V vs (LL.map intsV)

theorem own_belowB {w w' : World} {base n size B : Nat} {e : TypeId} {v : Value} {xs : List Value} (h : w.ownsRow base e size v n xs) (hB : ∀ k, v.ownBlock = some k → k < B) (hb : Below B w w') : w'.ownsRow base e size v n xs := by
  refine ⟨h.1, ?_⟩
  rcases h.2 with hn | ⟨g, cap, cur, rfl, h1, hg, rest⟩
  · exact .inl hn
  · refine .inr ⟨g, cap, cur, rfl, h1, ?_, rest⟩
    rw [hb.block g (hB g rfl)]
    exact hg
section
variable {w w' : World} {base top : Nat} {V : Value} {vs : List Value} {Z : List (List Value)} {LL : List (List Int)}
theorem RowsTo.below (h : RowsTo w base top V vs Z) (hb : Below top w w') : RowsTo w' base top V vs Z :=
  ⟨own_belowB h.out h.top1 hb, h.len, fun i v z h1 h2 => own_belowB (h.row i v z h1 h2) (h.top2 i v h1) hb, h.far, h.apart, h.top1, h.top2⟩
theorem RowsTo.wide {t2 : Nat} (h : RowsTo w base top V vs Z) (ht : top ≤ t2) : RowsTo w base t2 V vs Z :=
  ⟨h.out, h.len, h.row, h.far, h.apart, fun k hk => Nat.lt_of_lt_of_le (h.top1 k hk) ht, fun i v hv k hk => Nat.lt_of_lt_of_le (h.top2 i v hv k hk) ht⟩
theorem RowsTo.lower {b2 : Nat} (h : RowsTo w base top V vs Z) (hb : b2 ≤ base) : RowsTo w b2 top V vs Z :=
  ⟨own_mono h.out hb, h.len, fun i v z h1 h2 => own_mono (h.row i v z h1 h2) hb, h.far, h.apart, h.top1, h.top2⟩
theorem OwnSS.below (h : OwnSS w base top V LL) (hb : Below top w w') : OwnSS w' base top V LL := by
  obtain ⟨vs, h⟩ := h; exact ⟨vs, h.below hb⟩
theorem OwnSS.wide {t2 : Nat} (h : OwnSS w base top V LL) (ht : top ≤ t2) : OwnSS w base t2 V LL := by
  obtain ⟨vs, h⟩ := h; exact ⟨vs, h.wide ht⟩
theorem OwnSS.lower {b2 : Nat} (h : OwnSS w base top V LL) (hb : b2 ≤ base) : OwnSS w b2 top V LL := by
  obtain ⟨vs, h⟩ := h; exact ⟨vs, h.lower hb⟩
theorem OwnSS.nil (w : World) (base top : Nat) : OwnSS w base top (.slice none 0 0) [] :=
  ⟨[], World.ownsRow_nil w base _ 1, rfl, fun i v z h => by simp at h, fun i v h => by simp at h, fun i j v u _ h => by simp at h, fun k h => by simp [Value.ownBlock] at h, fun i v h => by simp at h⟩
theorem RowsTo.mark {Z1 Z2 : List (List Value)} {z z' : List Value} {v : Value} (h : RowsTo w base top V vs (Z1 ++ z :: Z2)) (hv : vs[Z1.length]? = some v) (ho : w'.ownsRow base 3 1 v z'.length z') (hg : w.grownBy w' v.ownBlock) :
    RowsTo w' base top V vs (Z1 ++ z' :: Z2) := by
  refine ⟨own_apart h.out hg fun k hk e => h.far _ _ hv k e hk, by rw [h.len]; simp, fun i u y h1 h2 => ?_, h.far, h.apart, h.top1, h.top2⟩
  by_cases hi : i = Z1.length
  · subst hi
    rw [List.getElem?_append_right (Nat.le_refl _), Nat.sub_self, List.getElem?_cons_zero] at h2
    obtain rfl : z' = y := by injection h2
    obtain rfl : v = u := by rw [hv] at h1; injection h1
    exact ho
  · have h3 : (Z1 ++ z :: Z2)[i]? = some y := by
      rcases Nat.lt_or_ge i Z1.length with h4 | h4
      · rw [List.getElem?_append_left h4] at h2 ⊢; exact h2
      · rw [List.getElem?_append_right h4] at h2 ⊢
        obtain ⟨q, hq⟩ : ∃ q, i - Z1.length = q + 1 := ⟨i - Z1.length - 1, by omega⟩
        rw [hq, List.getElem?_cons_succ] at h2 ⊢; exact h2
    exact own_apart (h.row i u y h1 h3) hg fun k hk e => h.apart _ _ _ _ (Ne.symm hi) hv h1 k e hk
end
/-- what a list of lists holds at a place -/
theorem OwnSS.at {w : World} {base top : Nat} {V : Value} {vs : List Value} {Z : List (List Value)} (h : RowsTo w base top V vs Z) {i : Nat} {z : List Value} (hz : Z[i]? = some z) :
    ∃ A c, vs[i]? = some (.slice A z.length c) ∧ w.ownsRow base 3 1 (.slice A z.length c) z.length z := by
  have hi : i < vs.length := by rw [h.len]; exact (List.getElem?_eq_some_iff.1 hz).1
  obtain ⟨v, hv⟩ : ∃ v, vs[i]? = some v := ⟨_, List.getElem?_eq_getElem hi⟩
  have ho := h.row i v z hv hz
  obtain ⟨A, c, rfl⟩ := own_any ho
  exact ⟨A, c, hv, ho⟩

/-- the last list is appended -/
theorem OwnSS.push {wr w3 : World} {base : Nat} {V v' : Value} {vs : List Value} {LL : List (List Int)} {L : List Int} {cs : Array Value} {o : Obj} (h : RowsTo wr base wr.heap.size V vs (LL.map intsV)) (hbase : base ≤ wr.heap.size) (hL : cs.toList = intsV L)
    (hmax : L.length ≤ maxLen)
    (hown : w3.ownsRow base 59 1 v' (vs.length + 1) (vs ++ [.slice (some ⟨wr.heap.size, 0, none⟩) L.length L.length])) (hgrow : ((wr.alloc (.cells cs 3)).alloc o).grownBy w3 V.ownBlock)
    (hat : v'.ownBlock = V.ownBlock ∨ v'.ownBlock = some ((wr.alloc (.cells cs 3)).alloc o).heap.size) :
    OwnSS w3 base w3.heap.size v' (LL ++ [L]) := by
  have hs : ((wr.alloc (.cells cs 3)).alloc o).heap.size = wr.heap.size + 2 := by simp
  have hs3 : wr.heap.size + 2 ≤ w3.heap.size := by rw [← hs]; exact hgrow.size
  have hlen : cs.size = L.length := by rw [← Array.length_toList, hL]; unfold intsV; simp
  have hfar : ∀ (i : Nat) (u : Value), vs[i]? = some u → ∀ k, u.ownBlock = some k → v'.ownBlock ≠ some k := fun i u hu k hk e => by
    rcases hat with h1 | h1
    · exact h.far i u hu k hk (by rw [← h1]; exact e)
    · have := h.top2 i u hu k hk
      rw [h1, hs] at e
      injection e with e; omega
  have hold : ∀ (i : Nat) (u : Value) (z : List Value), vs[i]? = some u → (LL.map intsV)[i]? = some z → w3.ownsRow base 3 1 u z.length z := fun i u z h1 h2 => by
    have hr := h.row i u z h1 h2
    have hr2 : ((wr.alloc (.cells cs 3)).alloc o).ownsRow base 3 1 u z.length z := World.ownsRow.alloc (World.ownsRow.alloc hr _) _
    exact own_apart hr2 hgrow fun k hk e => h.far i u h1 k hk e
  have hnew : w3.ownsRow base 3 1 (.slice (some ⟨wr.heap.size, 0, none⟩) L.length L.length) (intsV L).length (intsV L) := by
    have hl2 : (intsV L).length = L.length := by unfold intsV; simp
    refine ⟨by rw [Nat.mul_one], .inr ⟨wr.heap.size, L.length, cs, by rw [hl2], hbase, ?_, by rw [hl2]; exact Nat.le_refl _, by exact hmax, by rw [Nat.mul_one]; exact hlen, ?_⟩⟩
    · rw [hgrow.block wr.heap.size (by rw [hs]; omega) (fun e => by have := h.top1 _ e.symm; omega)]
      rw [heap_alloc_old _ _ (by simp), heap_alloc_new]
    · rw [hL, Nat.mul_one, List.take_length]
  refine ⟨vs ++ [.slice (some ⟨wr.heap.size, 0, none⟩) L.length L.length], ?_, ?_, ?_, ?_, ?_, ?_, ?_⟩
  · rw [List.length_append, List.length_singleton]; exact hown
  · rw [List.length_append, List.length_singleton, List.length_map, List.length_append, List.length_singleton]; have := h.len; rw [List.length_map] at this; omega
  · intro i u z h1 h2
    rw [List.map_append, List.map_singleton] at h2
    have hle : vs.length = (LL.map intsV).length := h.len
    rcases Nat.lt_or_ge i vs.length with h3 | h3
    · rw [List.getElem?_append_left h3] at h1
      rw [List.getElem?_append_left (by omega)] at h2
      exact hold i u z h1 h2
    · rw [List.getElem?_append_right h3] at h1
      rw [List.getElem?_append_right (by omega)] at h2
      have hi : i - vs.length = 0 := by
        rcases Nat.eq_zero_or_pos (i - vs.length) with h | h
        · exact h
        · rw [List.getElem?_eq_none (by simp; omega)] at h1; cases h1
      rw [hi] at h1
      rw [← hle, hi] at h2
      obtain rfl := Option.some.inj h1
      obtain rfl := Option.some.inj h2
      exact hnew
  · intro i u h1 k hk e
    rcases Nat.lt_or_ge i vs.length with h3 | h3
    · rw [List.getElem?_append_left h3] at h1
      exact hfar i u h1 k hk e
    · rw [List.getElem?_append_right h3] at h1
      have hi : i - vs.length = 0 := by
        rcases Nat.eq_zero_or_pos (i - vs.length) with h | h
        · exact h
        · rw [List.getElem?_eq_none (by simp; omega)] at h1; cases h1
      rw [hi] at h1
      obtain rfl := Option.some.inj h1
      obtain rfl : wr.heap.size = k := Option.some.inj hk
      rcases hat with h1 | h1
      · have := h.top1 _ (h1 ▸ e); omega
      · rw [h1, hs] at e; injection e with e; omega
  · intro i j u x hij h1 h2 k hk e
    rcases Nat.lt_or_ge i vs.length with h3 | h3
    · rw [List.getElem?_append_left h3] at h1
      rcases Nat.lt_or_ge j vs.length with h4 | h4
      · rw [List.getElem?_append_left h4] at h2
        exact h.apart i j u x hij h1 h2 k hk e
      · rw [List.getElem?_append_right h4] at h2
        have hi : j - vs.length = 0 := by
          rcases Nat.eq_zero_or_pos (j - vs.length) with h | h
          · exact h
          · rw [List.getElem?_eq_none (by simp; omega)] at h2; cases h2
        rw [hi] at h2
        obtain rfl := Option.some.inj h2
        obtain rfl : wr.heap.size = k := Option.some.inj e
        have := h.top2 i u h1 _ hk; omega
    · rw [List.getElem?_append_right h3] at h1
      have hi : i - vs.length = 0 := by
        rcases Nat.eq_zero_or_pos (i - vs.length) with h | h
        · exact h
        · rw [List.getElem?_eq_none (by simp; omega)] at h1; cases h1
      rw [hi] at h1
      obtain rfl := Option.some.inj h1
      obtain rfl : wr.heap.size = k := Option.some.inj hk
      rcases Nat.lt_or_ge j vs.length with h4 | h4
      · rw [List.getElem?_append_left h4] at h2
        have := h.top2 j x h2 _ e; omega
      · rw [List.getElem?_append_right h4] at h2
        have hj : j - vs.length = 0 := by
          rcases Nat.eq_zero_or_pos (j - vs.length) with h | h
          · exact h
          · rw [List.getElem?_eq_none (by simp; omega)] at h2; cases h2
        omega
  · exact fun k hk => (World.ownsRow.lt hown k hk).2
  · intro i u h1 k hk
    rcases Nat.lt_or_ge i vs.length with h3 | h3
    · rw [List.getElem?_append_left h3] at h1
      have := h.top2 i u h1 k hk; omega
    · rw [List.getElem?_append_right h3] at h1
      have hi : i - vs.length = 0 := by
        rcases Nat.eq_zero_or_pos (i - vs.length) with h | h
        · exact h
        · rw [List.getElem?_eq_none (by simp; omega)] at h1; cases h1
      rw [hi] at h1
      obtain rfl := Option.some.inj h1
      obtain rfl : wr.heap.size = k := Option.some.inj hk
      omega
end Go.Proofs.Ytmdfcamieonabaa
