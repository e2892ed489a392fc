/- A map of tallies, a map of costs: what a block says of each colour; the laws at the operations, for the walk. No condition. -/
import Derived.Test.YteefkgnojdgehaaMem
import Derived.Test.YteefkgnojdgehaaTalMath
import Derived.Maps.RangeWalk
import Derived.Maps.OwnOps
import Derived.Maps.OwnSet
namespace Go.Proofs.Yteefkgnojdgehaa
open Go.RowKit Go.Maps

def talD (v : Int × Int) : DataW Unit := .slice [.lit (.int .i64 v.1), .lit (.int .i64 v.2)] []
def talV (v : Int × Int) : Value := .agg #[.int .i64 v.1, .int .i64 v.2]
def talP : List Value → Option (DataW Unit × List MemPlace)
  | [.int .i64 a, .int .i64 b] => some (talD (a, b), [])
  | _ => none
def talR : Value → Option (DataW Unit × List MemPlace)
  | .agg c => talP c.toList
  | _ => none
theorem talR_v (v : Int × Int) : talR (talV v) = some (talD v, []) := rfl
theorem talP_inv {l : List Value} {y : DataW Unit × List MemPlace} (h : talP l = some y) : ∃ v : Int × Int, l = [.int .i64 v.1, .int .i64 v.2] ∧ y = (talD v, []) := by
  unfold talP at h
  split at h
  · injection h with h; exact ⟨(_, _), rfl, h.symm⟩
  · cases h
theorem talR_inv {x : Value} {y : DataW Unit × List MemPlace} (h : talR x = some y) : ∃ v, x = talV v ∧ y = (talD v, []) := by
  unfold talR at h
  split at h
  · next c =>
    obtain ⟨v, e, hy⟩ := talP_inv h
    refine ⟨v, ?_, hy⟩
    unfold talV
    congr 1
    exact Array.ext' e
  · cases h
theorem talD_inj {u v : Int × Int} (h : talD u = talD v) : u = v := by
  unfold talD at h
  injection h with h1 h2
  injection h1 with h3 h4
  injection h4 with h5 h6
  injection h3 with h3
  injection h5 with h5
  injection h3 with _ h3
  injection h5 with _ h5
  exact Prod.ext h3 h5
theorem wf8 {k : Nat} (h : k < 256) : (Lit.int .u8 (k : Int)).wf = true := by
  have e1 : IntKind.u8.min = 0 := rfl
  have e2 : IntKind.u8.max = 255 := rfl
  show (decide (IntKind.u8.min ≤ (k : Int)) && decide ((k : Int) ≤ IntKind.u8.max)) = true
  rw [e1, e2, Bool.and_eq_true, decide_eq_true_iff, decide_eq_true_iff]
  omega
theorem of_wf8 {x : Int} (h : (Lit.int .u8 x).wf = true) : 0 ≤ x ∧ x < 256 := by
  have e1 : IntKind.u8.min = 0 := rfl
  have e2 : IntKind.u8.max = 255 := rfl
  replace h : (decide (IntKind.u8.min ≤ x) && decide (x ≤ IntKind.u8.max)) = true := h
  rw [e1, e2, Bool.and_eq_true, decide_eq_true_iff, decide_eq_true_iff] at h
  omega
abbrev kyL (k : Nat) : Lit := .int .u8 (k : Int)
theorem keyed8 : Keyed Try.prog 5 := int_keyed Try.underlying5
theorem key8 {k : Nat} (h : k < 256) : keyOf Try.prog 5 (.int .u8 (k : Int)) = some (kyL k) := keyOf_int_mk Try.underlying5 (wf8 h)
/-- block b is a map of tallies, f: what it says of each colour -/
def Tal (w : World) (b n : Nat) (f : Nat → Option (Int × Int)) : Prop :=
  ∃ D : DataW Unit, w.ownsMap Try.prog 5 talR b n D ∧ (∀ k, k < 256 → has D (kyL k) = (f k).isSome) ∧ ∀ k v, k < 256 → f k = some v → ∀ z, D.atKey (kyL k) z = talD v
theorem zeroTal (w : World) : (zeroValue 54).run Try.prog w = .ok (talV (0, 0)) w := by kernel_rfl
theorem kyL_key (k : Nat) : WideAt.IsKeyLit (kyL k) := by trivial
theorem kyL_ne {j k : Nat} (h : j ≠ k) : kyL j ≠ kyL k := fun e => by injection e with _ e; omega
theorem isMap_own {w : World} {b n : Nat} {D : DataW Unit} (h : w.ownsMap Try.prog 5 talR b n D) : IsMap D := by
  obtain ⟨es, e, -⟩ := h.entries keyed8
  exact ⟨es, e⟩
section
variable {w w' : World} {b n : Nat} {f : Nat → Option (Int × Int)}
theorem Tal.kept (h : Tal w b n f) {row : Option Nat} (hg : w.grownBy w' row) (hne : some b ≠ row) : Tal w' b n f := by
  obtain ⟨D, ho, h1, h2⟩ := h
  exact ⟨D, ho.kept hg hne, h1, h2⟩
theorem Tal.lt (h : Tal w b n f) : b < w.heap.size := by obtain ⟨D, ho, -⟩ := h; exact ho.lt
theorem Tal.made (w : World) : Tal (w.alloc (.map #[] 0)) w.heap.size 0 (fun _ => none) :=
  ⟨_, World.ownsMap_made w _ _ _, fun _ _ => rfl, fun _ _ _ h => by cases h⟩
theorem Tal.congr (h : Tal w b n f) {g : Nat → Option (Int × Int)} (e : ∀ k, k < 256 → f k = g k) : Tal w b n g := by
  obtain ⟨D, ho, h1, h2⟩ := h
  exact ⟨D, ho, fun k hk => by rw [h1 k hk, e k hk], fun k v hk hv => h2 k v hk (by rw [e k hk, hv])⟩
/-- a range over a map of tallies; left: which colours are to come -/
def TalRg (w : World) (b r n : Nat) (f : Nat → Option (Int × Int)) (left : Nat → Bool) (cnt : Nat) : Prop :=
  ∃ (D : DataW Unit) (lf : Lit → Bool), w.ranges Try.prog 5 talR b r n D lf cnt ∧ (∀ k, k < 256 → has D (kyL k) = (f k).isSome) ∧ (∀ k v, k < 256 → f k = some v → ∀ z, D.atKey (kyL k) z = talD v) ∧ ∀ k, k < 256 → lf (kyL k) = left k
theorem TalRg.owns {r cnt : Nat} {left : Nat → Bool} (h : TalRg w b r n f left cnt) : Tal w b n f := by
  obtain ⟨D, lf, ho, h1, h2, -⟩ := h
  exact ⟨D, ho.owns, h1, h2⟩
theorem TalRg.kept {r cnt : Nat} {left : Nat → Bool} (h : TalRg w b r n f left cnt) {row : Option Nat} (hg : w.grownBy w' row) (hb : some b ≠ row) (hr : some r ≠ row) : TalRg w' b r n f left cnt := by
  obtain ⟨D, lf, ho, h1, h2, h3⟩ := h
  exact ⟨D, lf, ho.kept hg hb hr, h1, h2, h3⟩
theorem TalRg.left_eq {r cnt : Nat} {left : Nat → Bool} (h : TalRg w b r n f left cnt) : w.rangeLeft b r = cnt := by
  obtain ⟨D, lf, ho, -⟩ := h
  exact ho.left_eq
theorem TalRg.lt {r cnt : Nat} {left : Nat → Bool} (h : TalRg w b r n f left cnt) : r < w.heap.size := by
  obtain ⟨D, lf, ho, -⟩ := h
  exact ho.lt
end
section
variable {w : World} {ops : Array Oper} {rest : List Oper} {o : Oper} {a : Act} {Q : Exit → Act → World → Prop} {b n : Nat} {f : Nat → Option (Int × Int)}
theorem wpList_tal_put (hg : o.guard = none) (m x v : Operand) (hop : o.op = Op.mapUpdate 71 m x v) (hm : a.eval m = .map (some b)) (h : Tal w b n f) (hn : n < maxLen) (k : Nat) (hk : k < 256) (u : Int × Int)
    (hx : a.eval x = .int .u8 (k : Int)) (hv : a.eval v = talV u) (hK : ∀ w', Tal w' b (n + 1) (upd f k u) → w.grownBy w' (some b) → wpList Try.prog ops Q rest (a.put o.dst undef) w') : wpList Try.prog ops Q (o :: rest) a w := by
  obtain ⟨D, ho, h1, h2⟩ := h
  refine wpList_mapUpdate_own w hg m x v 71 hop 5 54 keyed8 Try.underlying71 talR b n D hm ho hn _ _ (kyL k) hx hv (key8 hk) (talD u) [] (talR_v u) ?_
  intro w' ho' hg'
  refine hK w' ⟨_, ho', fun j hj => ?_, fun j v hj hv z => ?_⟩ hg'
  · unfold upd
    by_cases e : j = k
    · subst e; rw [has_put_same (isMap_own ho) (kyL_key _), if_pos rfl]; rfl
    · rw [has_put_other (kyL_ne e), if_neg e, h1 j hj]
  · unfold upd at hv
    by_cases e : j = k
    · subst e; rw [if_pos rfl] at hv; injection hv with hv; rw [atKey_put_same (isMap_own ho) (kyL_key _), hv]
    · rw [if_neg e] at hv; rw [atKey_put_other (kyL_ne e), h2 j v hj hv]
theorem Tal.put_run (h : Tal w b n f) (hn : n < maxLen) (k : Nat) (hk : k < 256) (u : Int × Int) : ∃ w', (Instr.mapUpdate 71 (.map (some b)) (.int .u8 (k : Int)) (talV u)).run Try.prog w = .ok () w' ∧ Tal w' b (n + 1) (upd f k u) ∧ w.grownBy w' (some b) := by
  obtain ⟨D, ho, h1, h2⟩ := h
  obtain ⟨w', hrun, ho', hg'⟩ := ho.update keyed8 Try.underlying71 hn (key8 hk) (talR_v u)
  refine ⟨w', hrun, ⟨_, ho', fun j hj => ?_, fun j v hj hv z => ?_⟩, hg'⟩
  · unfold upd
    by_cases e : j = k
    · subst e; rw [has_put_same (isMap_own ho) (kyL_key _), if_pos rfl]; rfl
    · rw [has_put_other (kyL_ne e), if_neg e, h1 j hj]
  · unfold upd at hv
    by_cases e : j = k
    · subst e; rw [if_pos rfl] at hv; rw [atKey_put_same (isMap_own ho) (kyL_key _), Option.some.inj hv]
    · rw [if_neg e] at hv; rw [atKey_put_other (kyL_ne e), h2 j v hj hv]
theorem wpList_tal_ok (hg : o.guard = none) (m x : Operand) (hop : o.op = Op.lookup 71 m x true) (hm : a.eval m = .map (some b)) (h : Tal w b n f) (k : Nat) (hk : k < 256) (hx : a.eval x = .int .u8 (k : Int))
    (hK : wpList Try.prog ops Q rest (a.put o.dst (.tuple #[talV ((f k).getD (0, 0)), .bool (f k).isSome])) w) : wpList Try.prog ops Q (o :: rest) a w := by
  obtain ⟨D, ho, h1, h2⟩ := h
  refine wpList_lookup_own_ok w hg m x 71 hop 5 54 keyed8 Try.underlying71 talR (zeroTal w) (talD (0, 0)) [] (talR_v _) b n D hm ho _ (kyL k) hx (key8 hk) fun v ps hv => ?_
  obtain ⟨u, rfl, e⟩ := talR_inv hv
  injection e with e1 e2
  have hu : u = (f k).getD (0, 0) := by
    cases hf : f k with
    | none =>
      have hh : has D (kyL k) = false := by rw [h1 k hk, hf]; rfl
      rw [atKey_of_not_has hh] at e1
      exact (talD_inj e1).symm
    | some v =>
      rw [h2 k v hk hf] at e1
      exact (talD_inj e1).symm
  rw [hu, h1 k hk]
  exact hK
theorem wpList_tal_range (hg : o.guard = none) (m : Operand) (hop : o.op = Op.range 71 m) (hm : a.eval m = .map (some b)) (h : Tal w b n f)
    (hK : ∀ w' cnt, TalRg w' b w.heap.size n f (fun k => (f k).isSome) cnt → w.grownBy w' none → w'.heap.size = w.heap.size + 1 → wpList Try.prog ops Q rest (a.put o.dst (.pointer (some ⟨w.heap.size, 0, none⟩))) w') : wpList Try.prog ops Q (o :: rest) a w := by
  obtain ⟨D, ho, h1, h2⟩ := h
  refine wpList_range_own w hg m 71 hop 5 54 keyed8 Try.underlying71 talR b n D hm ho fun w' hr hg' hs => ?_
  exact hK w' _ ⟨D, _, hr, h1, h2, h1⟩ hg' hs
theorem wpList_tal_next (hg : o.guard = none) (it : Operand) (hop : o.op = Op.next it false) {r cnt : Nat} {left : Nat → Bool} (hit : a.eval it = .pointer (some ⟨r, 0, none⟩)) (h : TalRg w b r n f left cnt)
    (hDone : (∀ k, k < 256 → left k = false) → wpList Try.prog ops Q rest (a.put o.dst (.tuple #[.bool false])) w)
    (hMore : ∀ (k : Nat) (v : Int × Int) (w' : World) (cnt' : Nat), k < 256 → left k = true → f k = some v → TalRg w' b r n f (fun z => left z && !decide (z = k)) cnt' → cnt' < cnt → w.grownBy w' (some r) → w'.heap.size = w.heap.size →
      (Instr.entry (.pointer (some ⟨r, 0, none⟩))).run Try.prog w' = .ok (.tuple #[.int .u8 (k : Int), talV v]) w' → wpList Try.prog ops Q rest (a.put o.dst (.tuple #[.bool true, .int .u8 (k : Int), talV v])) w') : wpList Try.prog ops Q (o :: rest) a w := by
  obtain ⟨D, lf, ho, h1, h2, h3⟩ := h
  refine wpList_next_ranges w hg it hop 5 keyed8 talR (fun k : Nat => Value.int .u8 (k : Int)) talV (fun key kl hkey => ?_) (fun v y hv => ?_) b r n D lf cnt hit ho (fun _ hl => hDone fun k hk => by rw [← h3 k hk, hl]) fun k v kl y w' cnt' hkey hlk hv hat hrg hlt hgr hsz hen => ?_
  · obtain ⟨x, rfl, -, hw⟩ := keyOf_int_inv Try.underlying5 hkey
    have h0 : 0 ≤ x := (of_wf8 hw).1
    exact ⟨x.toNat, by rw [Int.toNat_of_nonneg h0]⟩
  · obtain ⟨u, e, -⟩ := talR_inv hv
    exact ⟨u, e⟩
  · obtain ⟨x, ex, rfl, hw⟩ := keyOf_int_inv Try.underlying5 hkey
    injection ex with _ ex
    subst ex
    have hk : k < 256 := by have := of_wf8 hw; omega
    have ey : y = (talD v, []) := Option.some.inj (hv.symm.trans (talR_v v))
    subst ey
    have hf : f k = some v := by
      have hh : has D (kyL k) = true := has_true_of_atKey hat
      rw [h1 k hk] at hh
      obtain ⟨v', hv'⟩ := Option.isSome_iff_exists.1 hh
      have e := h2 k v' hk hv' .nil
      rw [hat] at e
      rw [hv', talD_inj e]
    refine hMore k v w' cnt' hk (by rw [← h3 k hk]; exact hlk) hf ⟨D, _, hrg, h1, h2, fun j hj => ?_⟩ hlt hgr hsz hen
    simp only
    rw [h3 j hj]
    by_cases e : j = k
    · subst e; simp [Lit.sameKey]
    · rw [sameKey_ne (kyL_ne e), decide_eq_false e]
end
end Go.Proofs.Yteefkgnojdgehaa
