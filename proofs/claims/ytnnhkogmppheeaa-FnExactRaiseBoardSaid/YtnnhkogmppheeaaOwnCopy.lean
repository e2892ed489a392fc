/- 'spec.l1Own': a list copied. No condition but the list's length. -/
import Derived.Test.YtnnhkogmppheeaaNums
import Derived.Maps.AppendAt
namespace Go.Proofs.Ytnnhkogmppheeaa
open Go.RowKit

theorem own_none (w : World) {b : Nat} (hb : b ≤ w.heap.size) (t : TypeId) : (w.alloc (.cells #[] t)).ownsRow b t 1 (.slice (some ⟨w.heap.size, 0, none⟩) 0 0) 0 [] :=
  ⟨rfl, .inr ⟨w.heap.size, 0, #[], rfl, hb, heap_alloc_new w _, Nat.le_refl _, Nat.zero_le _, rfl, rfl⟩⟩
theorem own_belowX {w w' : World} {base n size B : Nat} {e : TypeId} {v : Value} {xs : List Value} (h : w.ownsRow base e size v n xs) (hB : ∀ k, v.ownBlock = some k → k < B) (hb : Below B w w') : w'.ownsRow base e size v n xs := by
  refine ⟨h.1, ?_⟩
  rcases h.2 with hn | ⟨g, cap, cur, rfl, h1, hg, rest⟩
  · exact .inl hn
  · refine .inr ⟨g, cap, cur, rfl, h1, ?_, rest⟩
    rw [hb.block g (hB g rfl)]
    exact hg
theorem wpList_append_run {P : Program} {w : World} {ops : Array Oper} {rest : List Oper} {o : Oper} {a : Act} {Q : Exit → Act → World → Prop} (hgd : o.guard = none) (s x : Operand) (t : TypeId)
    (ho : o.op = .call { callee := .builtin .append, args := #[s, x], argTypes := #[t, t] }) (v u r : Value) (w' : World) (hs : a.eval s = v) (hx : a.eval x = u)
    (hr : (Builtin.append_ #[t, t] o.type #[v, u]).run P w = .ok r w') (h : wpList P ops Q rest (a.put o.dst r) w') : wpList P ops Q (o :: rest) a w :=
  wpList_plain hgd fun _ hK => by
    unfold Oper.wp execOp
    simp only [ho, resolve, invoke, builtin, Sem.run_bind, Sem.run_pure, Result.andThen_ok, List.map_toArray, List.map_cons, List.map_nil, hs, hx, hr]
    exact hK _ _ h
theorem run_append_zero (w : World) (A : Option Addr) (c g : Nat) : (Builtin.append_ #[22, 22] 22 #[.slice (some ⟨g, 0, none⟩) 0 0, .slice A 0 c]).run Try.prog w = .ok (.slice (some ⟨g, 0, none⟩) 0 0) w := by
  obtain ⟨i0, hi, hz0, hz1, hz2⟩ := info_parts info_int
  cases A <;> simp [Builtin.append_, run_underlying Try.underlying22, sizeOf, typeInfo, hi, Builtin.lenOf, Builtin.firstCells, loadCells, loadCellsFrom, storeCells]
set_option maxHeartbeats 1000000 in
theorem l1Own_any (A : Option Addr) (c : Nat) (L : List Int) (w : World) (hm : L.length ≤ 1048576) (h : IntSl w A L) :
    Calls Try.prog 104 #[.slice A L.length c] w fun e w' => ∃ v, e = .returned v ∧ OwnInts w' w.heap.size 3 v L ∧ Below w.heap.size w w' := by
  obtain ⟨i0, hi, hz0, hz1, hz2⟩ := info_parts info_int
  have HO := Lib.hid (own_none w (Nat.le_refl _) 3)
  have HB := Lib.hid (below_new w (.cells #[] 3))
  rcases Nat.eq_zero_or_pos L.length with h0 | h0
  · obtain rfl : L = [] := List.eq_nil_of_length_eq_zero h0
    clear h h0 hm
    go_enter Try.func104, Try.ntmps104
    go_wp2_with (at_builtin; refine wpList_append_run rfl (.tmp 3) (.tmp 4) _ rfl _ _ _ _ rfl rfl (run_append_zero _ A c w.heap.size) ?_)
    go_ret
    exact ⟨_, rfl, HO.out, HB.out⟩
  · obtain ⟨g, off, rfl, hg, hat⟩ := h.some h0
    have HN : Hid (∀ (j : Nat) (u : Value), (L.map (Value.int .i64))[j]? = some u → (w.alloc (.cells #[] 3)).cell? ((⟨g, off, none⟩ : Addr).add j) = some u) := Lib.hid fun j u hj => by
      have hjl : j < L.length := by have := (List.getElem?_eq_some_iff.1 hj).1; simpa using this
      rw [getElem?_ints L j hjl] at hj
      obtain rfl := Option.some.inj hj
      rw [show (⟨g, off, none⟩ : Addr).add j = ⟨g, off + j, none⟩ by simp [Addr.add]]
      exact (HB.out.cell (p := ⟨g, off + j, none⟩) hg).trans (hat j hjl)
    clear h hat
    go_enter Try.func104, Try.ntmps104
    go_wp2_with (at_builtin; refine wpList_append_own _ rfl (.tmp 3) (.tmp 4) _ rfl w.heap.size 3 i0 _ 1 8 Try.underlying22 hi hz0 hz1 hz2 rfl (by decide) _ 0 [] rfl HO.out ⟨g, off, none⟩ L.length c (L.map (Value.int .i64)) rfl (by simp) HN.out (by simp [Value.oneCell']) (by unfold maxLen; omega) (by omega) (by simp) ?_; intro v' w3 hown' hgrow _)
    have HR : Hid (OwnInts w3 w.heap.size 3 v' L) := Lib.hid (by rw [Nat.zero_add, List.nil_append] at hown'; exact hown')
    have HB3 : Hid (Below w.heap.size w w3) := Lib.hid (HB.out.grown hgrow (by simp) fun k hk => (World.ownsRow.lt HO.out k hk).1)
    clear hown' hgrow
    go_ret
    exact ⟨_, rfl, HR.out, HB3.out⟩
end Go.Proofs.Ytnnhkogmppheeaa
