/- Lists of lists of the call's own: one of the lists is replaced by a new one; lists that are filled one after the other. No condition. -/
import Derived.Test.YtmdfcamieonabaaSS2
namespace Go.Proofs.Ytmdfcamieonabaa
open Go.RowKit

theorem RowsTo.put {wr : World} {base g n cap i : Nat} {vs : List Value} {LL : List (List Int)} {L : List Int} {cs : Array Value} (h : RowsTo wr base wr.heap.size (.slice (some ⟨g, 0, none⟩) n cap) vs (LL.map intsV)) (hbase : base ≤ wr.heap.size) (hL : cs.toList = intsV L)
    (hmax : L.length ≤ maxLen) (hi : i < vs.length) :
    RowsTo ((wr.alloc (.cells cs 3)).setCell ⟨g, i, none⟩ (.slice (some ⟨wr.heap.size, 0, none⟩) L.length L.length)) base ((wr.alloc (.cells cs 3)).setCell ⟨g, i, none⟩ (.slice (some ⟨wr.heap.size, 0, none⟩) L.length L.length)).heap.size (.slice (some ⟨g, 0, none⟩) n cap) (vs.set i (.slice (some ⟨wr.heap.size, 0, none⟩) L.length L.length)) ((LL.set i L).map intsV) := by
  have hg : g < wr.heap.size := h.top1 g rfl
  have hn : n = vs.length := by
    rcases h.out.2 with ⟨hv, _⟩ | ⟨g', cap', cur, hv, _⟩
    · cases hv
    · injection hv
  subst hn
  have hlen : cs.size = L.length := by rw [← Array.length_toList, hL]; unfold intsV; simp
  have hout := World.ownsRow.alloc h.out (.cells cs 3)
  obtain ⟨nv, hnv⟩ : ∃ nv, nv = Value.slice (some ⟨wr.heap.size, 0, none⟩) L.length L.length := ⟨_, rfl⟩
  rw [← hnv]
  obtain ⟨so, sg⟩ := hout.stored i nv
  have hs : ((wr.alloc (.cells cs 3)).setCell ⟨g, i, none⟩ nv).heap.size = wr.heap.size + 1 := by simp [World.setCell]
  have hown : ∀ k, nv.ownBlock = some k → k = wr.heap.size := fun k hk => by
    rw [hnv] at hk
    exact (Option.some.inj hk).symm
  have hat : ∀ (j : Nat) (u : Value), (vs.set i nv)[j]? = some u → (j = i ∧ u = nv) ∨ (j ≠ i ∧ vs[j]? = some u) := fun j u hu => by
    by_cases e : j = i
    · subst e
      rw [List.getElem?_set_self hi] at hu
      exact .inl ⟨rfl, (Option.some.inj hu).symm⟩
    · rw [List.getElem?_set_ne (fun x => e x.symm)] at hu
      exact .inr ⟨e, hu⟩
  have hl : LL.length = vs.length := by have := h.len; rw [List.length_map] at this; exact this.symm
  have hnew : ((wr.alloc (.cells cs 3)).setCell ⟨g, i, none⟩ nv).ownsRow base 3 1 nv (intsV L).length (intsV L) := by
    have hl2 : (intsV L).length = L.length := by unfold intsV; simp
    refine ⟨by rw [Nat.mul_one], .inr ⟨wr.heap.size, L.length, cs, by rw [hl2]; exact hnv, hbase, ?_, by rw [hl2]; exact Nat.le_refl _, by exact hmax, by rw [Nat.mul_one]; exact hlen, ?_⟩⟩
    · rw [sg.block wr.heap.size (by simp) (fun e => by injection e with e; omega), heap_alloc_new]
    · rw [hL, Nat.mul_one, List.take_length]
  refine ⟨by rw [List.length_set]; exact so, by rw [List.length_set, List.length_map, List.length_set, hl], fun j u z h1 h2 => ?_, fun j u h1 k hk e => ?_, fun j j2 u x hj h1 h2 k hk e => ?_, fun k hk => by rw [hs]; have := h.top1 k hk; omega, fun j u h1 k hk => ?_⟩
  · rw [List.map_set] at h2
    rcases hat j u h1 with ⟨rfl, rfl⟩ | ⟨hj, h3⟩
    · rw [List.getElem?_set_self (by rw [List.length_map, hl]; exact hi)] at h2
      obtain rfl := Option.some.inj h2
      exact hnew
    · rw [List.getElem?_set_ne (fun x => hj x.symm)] at h2
      exact own_apart (World.ownsRow.alloc (h.row j u z h3 h2) _) sg fun k hk e => h.far j u h3 k hk e
  · rcases hat j u h1 with ⟨rfl, rfl⟩ | ⟨hj, h3⟩
    · have := hown k hk
      have e' : g = k := Option.some.inj e
      omega
    · exact h.far j u h3 k hk e
  · rcases hat j u h1 with ⟨rfl, rfl⟩ | ⟨hj1, h3⟩
    · rcases hat j2 x h2 with ⟨rfl, rfl⟩ | ⟨hj2, h4⟩
      · exact hj rfl
      · have := hown k hk
        have := h.top2 j2 x h4 k e
        omega
    · rcases hat j2 x h2 with ⟨rfl, rfl⟩ | ⟨hj2, h4⟩
      · have := hown k e
        have := h.top2 j u h3 k hk
        omega
      · exact h.apart j j2 u x hj h3 h4 k hk e
  · rw [hs]
    rcases hat j u h1 with ⟨rfl, rfl⟩ | ⟨hj, h3⟩
    · have := hown k hk; omega
    · have := h.top2 j u h3 k hk; omega

/-- a list of lists whose first j are filled in -/
def fillL (X : List (List Int)) (j : Nat) : List (List Int) := X.take j ++ List.replicate (X.length - j) []
theorem fillL_zero (X : List (List Int)) : fillL X 0 = List.replicate X.length [] := by simp [fillL]
theorem fillL_end (X : List (List Int)) : fillL X X.length = X := by simp [fillL]
theorem fillL_len {X : List (List Int)} {j : Nat} (h : j ≤ X.length) : (fillL X j).length = X.length := by simp [fillL]; omega
theorem fillL_set {X : List (List Int)} {j : Nat} (h : j < X.length) : (fillL X j).set j X[j] = fillL X (j + 1) := by
  unfold fillL
  have hl : (X.take j).length = j := by rw [List.length_take]; omega
  rw [List.set_append_right _ _ (by omega), hl, Nat.sub_self, List.take_succ_eq_append_getElem h, List.append_assoc]
  congr 1
  obtain ⟨m, hm⟩ : ∃ m, X.length - j = m + 1 := ⟨X.length - j - 1, by omega⟩
  rw [hm, show X.length - (j + 1) = m by omega, List.replicate_succ]; rfl
/-- a list of so many empty lists, just made -/
theorem RowsTo.made {w : World} {base top n : Nat} {V : Value} (h : w.ownsRow base 59 1 V n (List.replicate n (.slice none 0 0))) (ht : w.heap.size ≤ top) (X : List (List Int)) (hX : X.length = n) :
    RowsTo w base top V (List.replicate n (.slice none 0 0)) ((fillL X 0).map intsV) := by
  have hat : ∀ (i : Nat) (v : Value), (List.replicate n (Value.slice none 0 0))[i]? = some v → v = .slice none 0 0 := fun i v hv => by
    rw [List.getElem?_replicate] at hv
    split at hv
    · exact (Option.some.inj hv).symm
    · cases hv
  have hno : ∀ (i : Nat) (v : Value), (List.replicate n (Value.slice none 0 0))[i]? = some v → ∀ k, v.ownBlock = some k → False := fun i v hv k hk => by
    rw [hat i v hv] at hk; cases hk
  refine ⟨by rw [List.length_replicate]; exact h, by rw [fillL_zero]; simp [hX], fun i v z h1 h2 => ?_, fun i v h1 k hk => (hno i v h1 k hk).elim, fun i j v u hij h1 h2 k hk => (hno i v h1 k hk).elim, fun k hk => by have := (World.ownsRow.lt h k hk).2; omega, fun i v h1 k hk => (hno i v h1 k hk).elim⟩
  rw [hat i v h1]
  rw [fillL_zero, List.map_replicate, List.getElem?_replicate] at h2
  split at h2
  · obtain rfl := Option.some.inj h2
    exact World.ownsRow_nil _ _ _ _
  · cases h2
end Go.Proofs.Ytmdfcamieonabaa
