/- 'slices.Clone' of boards, 'impl.plansOf' in a line. No condition but the costs' bounds. -/
import Derived.Test.YteefkgnojdgehaaPlanOf
import Derived.Maps.AppendAt
import Derived.Lib.SliceRun
namespace Go.Proofs.Yteefkgnojdgehaa
open Go.RowKit

theorem info_cst : (Try.prog.info? 85).map (fun i => (i.zero, i.size, i.bytes)) = some (some (.map none), 1, 8) := by kernel_rfl
theorem own_none (w : World) {b : Nat} (hb : b ≤ w.heap.size) (t : TypeId) : (w.alloc (.cells #[] t)).ownsRow b t 1 (.slice (some ⟨w.heap.size, 0, none⟩) 0 0) 0 [] :=
  ⟨rfl, .inr ⟨w.heap.size, 0, #[], rfl, hb, heap_alloc_new w _, Nat.le_refl _, Nat.zero_le _, rfl, rfl⟩⟩
def mapsL (c : Nat → Nat) (n : Nat) : List Value := (List.range n).map fun j => .map (some (c j))
theorem mapsL_len (c : Nat → Nat) (n : Nat) : (mapsL c n).length = n := by simp [mapsL]
theorem mapsL_at (c : Nat → Nat) (n j : Nat) (h : j < n) : (mapsL c n)[j]? = some (.map (some (c j))) := by
  unfold mapsL; rw [List.getElem?_map, List.getElem?_range h]; rfl
/-- a row of maps of the call's own -/
structure OwnB (w : World) (base g n : Nat) (c : Nat → Nat) : Prop where
  cell : ∀ j, j < n → w.cell? ⟨g, j, none⟩ = some (.map (some (c j)))
  fz : ∀ j, w.frozen? ⟨g, j, none⟩ = false
  lt : base ≤ g ∧ g < w.heap.size
set_option maxRecDepth 20000 in
set_option maxHeartbeats 2000000 in
theorem cloneB_any (n : Nat) (A : Option Addr) (cap : Nat) (B : Nat → Nat → Option Int) (c : Nat → Nat) (w : World) (h1 : 1 ≤ n) (h20 : n ≤ 20) (h : Brds w A n B c) :
    Calls Try.prog 84 #[.slice A n cap] w fun e w' => ∃ g cap', e = .returned (.slice (some ⟨g, 0, none⟩) n cap') ∧ OwnB w' w.heap.size g n c ∧ Below w.heap.size w w' := by
  obtain ⟨i0, hi, hz0, hz1, hz2⟩ := info_parts info_cst
  have HO := Lib.hid (own_none w (Nat.le_refl _) 85)
  have HB := Lib.hid (below_new w (.cells #[] 85))
  obtain ⟨g, off, rfl, hg, hat⟩ := h.at_ (by omega)
  have HN : Hid (∀ (j : Nat) (u : Value), (mapsL c n)[j]? = some u → (w.alloc (.cells #[] 85)).cell? ((⟨g, off, none⟩ : Addr).add j) = some u) := Lib.hid fun j u hj => by
    have hjl : j < n := by have := (List.getElem?_eq_some_iff.1 hj).1; rwa [mapsL_len] at this
    rw [mapsL_at c n j hjl] at hj
    obtain rfl := Option.some.inj hj
    rw [show (⟨g, off, none⟩ : Addr).add j = ⟨g, off + j, none⟩ by simp [Addr.add]]
    exact (HB.out.cell (p := ⟨g, off + j, none⟩) hg).trans (hat j hjl)
  have HL := Lib.hid (mapsL_len c n)
  have HONE : Hid (∀ u ∈ mapsL c n, u.oneCell' = true) := Lib.hid fun u hu => by
    unfold mapsL at hu
    obtain ⟨j, _, rfl⟩ := List.mem_map.1 hu
    rfl
  have hnil : ∀ W, (binOp .eql 50 (.slice (some ⟨g, off, none⟩) n cap) (.slice none 0 0)).run Try.prog W = .ok (.bool false) W := fun W => Lib.run_eql_slice_nil W _ _ (some ⟨g, off, none⟩) n cap 0 0 Try.underlying50
  clear h hat
  go_enter Try.func84, Try.ntmps84
  go_wp2_with (at_builtin; refine wpList_append_own _ rfl (.tmp 5) (.tmp 6) _ rfl w.heap.size 85 i0 _ 1 8 Try.underlying50 hi hz0 hz1 hz2 rfl (by decide) _ 0 [] rfl HO.out ⟨g, off, none⟩ n cap (mapsL c n) rfl (by rw [HL.out, Nat.mul_one]) HN.out HONE.out (by unfold maxLen; omega) (by omega) (by simp) ?_; intro v' w3 hown' hgrow hnil)
  have HB3 : Hid (Below w.heap.size w w3) := Lib.hid (HB.out.grown hgrow (by simp) fun k hk => (World.ownsRow.lt HO.out k hk).1)
  rw [Nat.zero_add, List.nil_append] at hown'
  have HX : Hid (∃ g' cap', v' = .slice (some ⟨g', 0, none⟩) n cap' ∧ OwnB w3 w.heap.size g' n c) := Lib.hid (by
    obtain ⟨g', cap', rfl, q1, q2⟩ := own_some hown' (by omega)
    refine ⟨g', cap', rfl, fun j hj => ?_, fun j => World.ownsRow.frozenAt hown' j, q1, q2⟩
    rw [World.ownsRow.cellAt hown' j (by omega), mapsL_at c n j hj])
  obtain ⟨g', cap', rfl, ho⟩ := HX.out
  clear hown' hgrow hnil HX
  go_ret
  exact ⟨g', cap', rfl, ho, HB3.out⟩
open Go.Maps in
/-- a map of plans: what is in it is not asked -/
def Plm (w : World) (b n : Nat) : Prop := ∃ D : DataW Unit, w.ownsMap Try.prog 5 (fun _ => some (.nil, [])) b n D
theorem Plm.kept {w w' : World} {b n : Nat} (h : Plm w b n) {row : Option Nat} (hg : w.grownBy w' row) (hne : some b ≠ row) : Plm w' b n := by
  obtain ⟨D, ho⟩ := h
  exact ⟨D, ho.kept hg hne⟩
theorem Plm.lt {w : World} {b n : Nat} (h : Plm w b n) : b < w.heap.size := by obtain ⟨D, ho⟩ := h; exact ho.lt
theorem Plm.made (w : World) : Plm (w.alloc (.map #[] 0)) w.heap.size 0 := ⟨_, World.ownsMap_made w _ _ _⟩
theorem wpList_plm_put {w : World} {ops : Array Oper} {rest : List Oper} {o : Oper} {a : Act} {Q : Exit → Act → World → Prop} {b n : Nat} (hg : o.guard = none) (m x v : Operand) (hop : o.op = Op.mapUpdate 72 m x v) (hm : a.eval m = .map (some b)) (h : Plm w b n) (hn : n < maxLen) (k : Nat) (hk : k < 256) (u : Value)
    (hx : a.eval x = .int .u8 (k : Int)) (hv : a.eval v = u) (hK : ∀ w', Plm w' b (n + 1) → w.grownBy w' (some b) → wpList Try.prog ops Q rest (a.put o.dst undef) w') : wpList Try.prog ops Q (o :: rest) a w := by
  obtain ⟨D, ho⟩ := h
  refine wpList_mapUpdate_own w hg m x v 72 hop 5 77 keyed8 Try.underlying72 (fun _ => some (.nil, [])) b n D hm ho hn _ u (kyL k) hx hv (key8 hk) .nil [] rfl ?_
  exact fun w' ho' hg' => hK w' ⟨_, ho'⟩ hg'
/-- the boards with one cost on the first -/
def oneB (B : Nat → Nat → Option Int) (k : Nat) (v : Int) (j : Nat) : Nat → Option Int := if j = 0 then fun z => if z = k then some v else none else B j
theorem oneB_zero (B : Nat → Nat → Option Int) (k : Nat) (v : Int) : oneB B k v 0 = fun z => if z = k then some v else none := rfl
theorem oneB_more {B : Nat → Nat → Option Int} {k : Nat} {v : Int} {j : Nat} (h : j ≠ 0) : oneB B k v j = B j := by unfold oneB; rw [if_neg h]
theorem tT_one {B : Nat → Nat → Option Int} {k : Nat} {v : Int} {n : Nat} : ∀ d, d < n → tT (oneB B k v) n d = tT B n d
  | 0, _ => rfl
  | d + 1, h => by
    have ih := tT_one (B := B) (k := k) (v := v) (n := n) d (by omega)
    funext z
    cases hc : B (n - 1 - d) z with
    | none => rw [tT_none hc, tT_none (by rw [oneB_more (by omega)]; exact hc)]
    | some c => rw [tT_some hc, tT_some (c := c) (by rw [oneB_more (by omega)]; exact hc)]; unfold rst; rw [ih]
theorem tT_first {B : Nat → Nat → Option Int} {k : Nat} {v : Int} {d : Nat} (h : B 0 k = some v) : tT (oneB B k v) (d + 1) (d + 1) k = tT B (d + 1) (d + 1) k := by
  have e : d + 1 - 1 - d = 0 := by omega
  rw [tT_some (B := B) (c := v) (by rw [e]; exact h), tT_some (B := oneB B k v) (c := v) (by rw [e, oneB_zero]; exact if_pos rfl)]
  unfold rst
  rw [tT_one d (Nat.lt_succ_self d)]
theorem oneB_costly {B : Nat → Nat → Option Int} {k : Nat} {v : Int} (h : costly B) (hv : k ∈ keys5 ∧ 0 ≤ v ∧ v ≤ 100) : costly (oneB B k v) := fun j z u hu => by
  by_cases e : j = 0
  · subst e
    rw [oneB_zero] at hu
    by_cases e2 : z = k
    · simp only [e2, if_true] at hu
      rw [e2, ← Option.some.inj hu]; exact hv
    · simp only [if_neg e2] at hu
      cases hu
  · rw [oneB_more e] at hu; exact h j z u hu
theorem Cst.put_run {w : World} {b n : Nat} {f : Nat → Option Int} (h : Cst w b n f) (hn : n < maxLen) (k : Nat) (hk : k < 256) (u : Int) : ∃ w', (Instr.mapUpdate 85 (.map (some b)) (.int .u8 (k : Int)) (cstV u)).run Try.prog w = .ok () w' ∧ Cst w' b (n + 1) (updC f k u) ∧ w.grownBy w' (some b) := by
  obtain ⟨D, ho, h1, h2⟩ := h
  obtain ⟨w', hrun, ho', hg'⟩ := ho.update keyed8 Try.underlying85 hn (key8 hk) (cstR_v u)
  refine ⟨w', hrun, ⟨_, ho', fun j hj => ?_, fun j v hj hv z => ?_⟩, hg'⟩
  · unfold updC
    by_cases e : j = k
    · subst e; rw [Maps.has_put_same (isMap_ownC ho) (kyL_key _), if_pos rfl]; rfl
    · rw [Maps.has_put_other (kyL_ne e), if_neg e, h1 j hj]
  · unfold updC at hv
    by_cases e : j = k
    · subst e; rw [if_pos rfl] at hv; rw [Maps.atKey_put_same (isMap_ownC ho) (kyL_key _), Option.some.inj hv]
    · rw [if_neg e] at hv; rw [Maps.atKey_put_other (kyL_ne e), h2 j v hj hv]
end Go.Proofs.Yteefkgnojdgehaa
