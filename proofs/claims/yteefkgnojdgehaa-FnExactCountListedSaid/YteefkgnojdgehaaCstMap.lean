/- A map of costs: what a block says of each colour; the laws at the operations, for the walk. No condition. -/
import Derived.Test.YteefkgnojdgehaaTalMap
namespace Go.Proofs.Yteefkgnojdgehaa
open Go.RowKit Go.Maps

def cstD (v : Int) : DataW Unit := .lit (.int .i64 v)
def cstV (v : Int) : Value := .int .i64 v
def cstR : Value → Option (DataW Unit × List MemPlace)
  | .int .i64 a => some (cstD a, [])
  | _ => none
theorem cstR_v (v : Int) : cstR (cstV v) = some (cstD v, []) := rfl
theorem cstR_inv {x : Value} {y : DataW Unit × List MemPlace} (h : cstR x = some y) : ∃ v, x = cstV v ∧ y = (cstD v, []) := by
  unfold cstR at h
  split at h
  · injection h with h; exact ⟨_, rfl, h.symm⟩
  · cases h
theorem cstD_inj {u v : Int} (h : cstD u = cstD v) : u = v := by
  unfold cstD at h
  injection h with h
  injection h
def updC (f : Nat → Option Int) (x : Nat) (v : Int) (k : Nat) : Option Int := if k = x then some v else f k
/-- block b is a map of costs, f: what it says of each colour -/
def Cst (w : World) (b n : Nat) (f : Nat → Option (Int)) : Prop :=
  ∃ D : DataW Unit, w.ownsMap Try.prog 5 cstR b n D ∧ (∀ k, k < 256 → has D (kyL k) = (f k).isSome) ∧ ∀ k v, k < 256 → f k = some v → ∀ z, D.atKey (kyL k) z = cstD v
theorem zeroCst (w : World) : (zeroValue 3).run Try.prog w = .ok (cstV 0) w := by kernel_rfl
theorem isMap_ownC {w : World} {b n : Nat} {D : DataW Unit} (h : w.ownsMap Try.prog 5 cstR b n D) : IsMap D := by
  obtain ⟨es, e, -⟩ := h.entries keyed8
  exact ⟨es, e⟩
section
variable {w w' : World} {b n : Nat} {f : Nat → Option (Int)}
theorem Cst.kept (h : Cst w b n f) {row : Option Nat} (hg : w.grownBy w' row) (hne : some b ≠ row) : Cst w' b n f := by
  obtain ⟨D, ho, h1, h2⟩ := h
  exact ⟨D, ho.kept hg hne, h1, h2⟩
theorem Cst.lt (h : Cst w b n f) : b < w.heap.size := by obtain ⟨D, ho, -⟩ := h; exact ho.lt
theorem Cst.made (w : World) : Cst (w.alloc (.map #[] 0)) w.heap.size 0 (fun _ => none) :=
  ⟨_, World.ownsMap_made w _ _ _, fun _ _ => rfl, fun _ _ _ h => by cases h⟩
theorem Cst.congr (h : Cst w b n f) {g : Nat → Option (Int)} (e : ∀ k, k < 256 → f k = g k) : Cst w b n g := by
  obtain ⟨D, ho, h1, h2⟩ := h
  exact ⟨D, ho, fun k hk => by rw [h1 k hk, e k hk], fun k v hk hv => h2 k v hk (by rw [e k hk, hv])⟩
/-- a range over a map of costs; left: which colours are to come -/
def CstRg (w : World) (b r n : Nat) (f : Nat → Option (Int)) (left : Nat → Bool) (cnt : Nat) : Prop :=
  ∃ (D : DataW Unit) (lf : Lit → Bool), w.ranges Try.prog 5 cstR b r n D lf cnt ∧ (∀ k, k < 256 → has D (kyL k) = (f k).isSome) ∧ (∀ k v, k < 256 → f k = some v → ∀ z, D.atKey (kyL k) z = cstD v) ∧ ∀ k, k < 256 → lf (kyL k) = left k
theorem CstRg.owns {r cnt : Nat} {left : Nat → Bool} (h : CstRg w b r n f left cnt) : Cst w b n f := by
  obtain ⟨D, lf, ho, h1, h2, -⟩ := h
  exact ⟨D, ho.owns, h1, h2⟩
theorem CstRg.kept {r cnt : Nat} {left : Nat → Bool} (h : CstRg w b r n f left cnt) {row : Option Nat} (hg : w.grownBy w' row) (hb : some b ≠ row) (hr : some r ≠ row) : CstRg w' b r n f left cnt := by
  obtain ⟨D, lf, ho, h1, h2, h3⟩ := h
  exact ⟨D, lf, ho.kept hg hb hr, h1, h2, h3⟩
theorem CstRg.left_eq {r cnt : Nat} {left : Nat → Bool} (h : CstRg w b r n f left cnt) : w.rangeLeft b r = cnt := by
  obtain ⟨D, lf, ho, -⟩ := h
  exact ho.left_eq
theorem CstRg.lt {r cnt : Nat} {left : Nat → Bool} (h : CstRg w b r n f left cnt) : r < w.heap.size := by
  obtain ⟨D, lf, ho, -⟩ := h
  exact ho.lt
end
section
variable {w : World} {ops : Array Oper} {rest : List Oper} {o : Oper} {a : Act} {Q : Exit → Act → World → Prop} {b n : Nat} {f : Nat → Option (Int)}
theorem wpList_cst_put (hg : o.guard = none) (m x v : Operand) (hop : o.op = Op.mapUpdate 85 m x v) (hm : a.eval m = .map (some b)) (h : Cst w b n f) (hn : n < maxLen) (k : Nat) (hk : k < 256) (u : Int)
    (hx : a.eval x = .int .u8 (k : Int)) (hv : a.eval v = cstV u) (hK : ∀ w', Cst w' b (n + 1) (updC f k u) → w.grownBy w' (some b) → wpList Try.prog ops Q rest (a.put o.dst undef) w') : wpList Try.prog ops Q (o :: rest) a w := by
  obtain ⟨D, ho, h1, h2⟩ := h
  refine wpList_mapUpdate_own w hg m x v 85 hop 5 3 keyed8 Try.underlying85 cstR b n D hm ho hn _ _ (kyL k) hx hv (key8 hk) (cstD u) [] (cstR_v u) ?_
  intro w' ho' hg'
  refine hK w' ⟨_, ho', fun j hj => ?_, fun j v hj hv z => ?_⟩ hg'
  · unfold updC
    by_cases e : j = k
    · subst e; rw [has_put_same (isMap_ownC ho) (kyL_key _), if_pos rfl]; rfl
    · rw [has_put_other (kyL_ne e), if_neg e, h1 j hj]
  · unfold updC at hv
    by_cases e : j = k
    · subst e; rw [if_pos rfl] at hv; injection hv with hv; rw [atKey_put_same (isMap_ownC ho) (kyL_key _), hv]
    · rw [if_neg e] at hv; rw [atKey_put_other (kyL_ne e), h2 j v hj hv]
theorem wpList_cst_ok (hg : o.guard = none) (m x : Operand) (hop : o.op = Op.lookup 85 m x true) (hm : a.eval m = .map (some b)) (h : Cst w b n f) (k : Nat) (hk : k < 256) (hx : a.eval x = .int .u8 (k : Int))
    (hK : wpList Try.prog ops Q rest (a.put o.dst (.tuple #[cstV ((f k).getD 0), .bool (f k).isSome])) w) : wpList Try.prog ops Q (o :: rest) a w := by
  obtain ⟨D, ho, h1, h2⟩ := h
  refine wpList_lookup_own_ok w hg m x 85 hop 5 3 keyed8 Try.underlying85 cstR (zeroCst w) (cstD 0) [] (cstR_v _) b n D hm ho _ (kyL k) hx (key8 hk) fun v ps hv => ?_
  obtain ⟨u, rfl, e⟩ := cstR_inv hv
  injection e with e1 e2
  have hu : u = (f k).getD 0 := by
    cases hf : f k with
    | none =>
      have hh : has D (kyL k) = false := by rw [h1 k hk, hf]; rfl
      rw [atKey_of_not_has hh] at e1
      exact (cstD_inj e1).symm
    | some v =>
      rw [h2 k v hk hf] at e1
      exact (cstD_inj e1).symm
  rw [hu, h1 k hk]
  exact hK
theorem wpList_cst_range (hg : o.guard = none) (m : Operand) (hop : o.op = Op.range 85 m) (hm : a.eval m = .map (some b)) (h : Cst w b n f)
    (hK : ∀ w' cnt, CstRg w' b w.heap.size n f (fun k => (f k).isSome) cnt → w.grownBy w' none → w'.heap.size = w.heap.size + 1 → wpList Try.prog ops Q rest (a.put o.dst (.pointer (some ⟨w.heap.size, 0, none⟩))) w') : wpList Try.prog ops Q (o :: rest) a w := by
  obtain ⟨D, ho, h1, h2⟩ := h
  refine wpList_range_own w hg m 85 hop 5 3 keyed8 Try.underlying85 cstR b n D hm ho fun w' hr hg' hs => ?_
  exact hK w' _ ⟨D, _, hr, h1, h2, h1⟩ hg' hs
theorem wpList_cst_next (hg : o.guard = none) (it : Operand) (hop : o.op = Op.next it false) {r cnt : Nat} {left : Nat → Bool} (hit : a.eval it = .pointer (some ⟨r, 0, none⟩)) (h : CstRg w b r n f left cnt)
    (hDone : (∀ k, k < 256 → left k = false) → wpList Try.prog ops Q rest (a.put o.dst (.tuple #[.bool false])) w)
    (hMore : ∀ (k : Nat) (v : Int) (w' : World) (cnt' : Nat), k < 256 → left k = true → f k = some v → CstRg w' b r n f (fun z => left z && !decide (z = k)) cnt' → cnt' < cnt → w.grownBy w' (some r) → w'.heap.size = w.heap.size →
      (Instr.entry (.pointer (some ⟨r, 0, none⟩))).run Try.prog w' = .ok (.tuple #[.int .u8 (k : Int), cstV v]) w' → wpList Try.prog ops Q rest (a.put o.dst (.tuple #[.bool true, .int .u8 (k : Int), cstV v])) w') : wpList Try.prog ops Q (o :: rest) a w := by
  obtain ⟨D, lf, ho, h1, h2, h3⟩ := h
  refine wpList_next_ranges w hg it hop 5 keyed8 cstR (fun k : Nat => Value.int .u8 (k : Int)) cstV (fun key kl hkey => ?_) (fun v y hv => ?_) b r n D lf cnt hit ho (fun _ hl => hDone fun k hk => by rw [← h3 k hk, hl]) fun k v kl y w' cnt' hkey hlk hv hat hrg hlt hgr hsz hen => ?_
  · obtain ⟨x, rfl, -, hw⟩ := keyOf_int_inv Try.underlying5 hkey
    have h0 : 0 ≤ x := (of_wf8 hw).1
    exact ⟨x.toNat, by rw [Int.toNat_of_nonneg h0]⟩
  · obtain ⟨u, e, -⟩ := cstR_inv hv
    exact ⟨u, e⟩
  · obtain ⟨x, ex, rfl, hw⟩ := keyOf_int_inv Try.underlying5 hkey
    injection ex with _ ex
    subst ex
    have hk : k < 256 := by have := of_wf8 hw; omega
    have ey : y = (cstD v, []) := Option.some.inj (hv.symm.trans (cstR_v v))
    subst ey
    have hf : f k = some v := by
      have hh : has D (kyL k) = true := has_true_of_atKey hat
      rw [h1 k hk] at hh
      obtain ⟨v', hv'⟩ := Option.isSome_iff_exists.1 hh
      have e := h2 k v' hk hv' .nil
      rw [hat] at e
      rw [hv', cstD_inj e]
    refine hMore k v w' cnt' hk (by rw [← h3 k hk]; exact hlk) hf ⟨D, _, hrg, h1, h2, fun j hj => ?_⟩ hlt hgr hsz hen
    simp only
    rw [h3 j hj]
    by_cases e : j = k
    · subst e; simp [Lit.sameKey]
    · rw [sameKey_ne (kyL_ne e), decide_eq_false e]
end
end Go.Proofs.Yteefkgnojdgehaa
