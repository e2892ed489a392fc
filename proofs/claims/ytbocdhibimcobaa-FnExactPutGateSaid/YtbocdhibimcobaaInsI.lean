/- slices.Insert of one number into a list of the call's own. No condition but the list's length. -/
import Derived.Test.YtbocdhibimcobaaRevClone
import Derived.Test.YtbocdhibimcobaaPutMath
namespace Go.Proofs.Ytbocdhibimcobaa
open Go.RowKit

/-- the copy of any list is the call's own -/
theorem cloneAny_any (A : Option Addr) (c : Nat) (L : List Int) (w : World) (hl : L.length ≤ 1048576) (h : IntSl w A L) :
    Calls Try.prog 80 #[.slice A L.length c] w fun e w' => ∃ A' cap, e = .returned (.slice A' L.length cap) ∧ OwnInts w' w.heap.size 3 (.slice A' L.length cap) L ∧ Below w.heap.size w w' := by
  rcases Nat.eq_zero_or_pos L.length with h0 | h0
  · obtain rfl : L = [] := List.eq_nil_of_length_eq_zero h0
    cases A with
    | none =>
      refine (Try.slices_Clone_int_nil 0 c w).mono ?_
      rintro e w' ⟨rfl, rfl⟩
      exact ⟨_, _, rfl, OwnInts.nil _ _ _, Below.refl _ _⟩
    | some a =>
      refine (Try.slices_Clone_int_zero a c w).mono ?_
      rintro e w' ⟨v, rfl, hown, -, hb⟩
      obtain ⟨A', cap, rfl⟩ := own_any hown
      exact ⟨_, _, rfl, hown, hb⟩
  · refine (clone_any A c L w h0 hl h).mono ?_
    rintro e w' ⟨g, cap, rfl, ho, hb⟩
    exact ⟨_, _, rfl, ho, hb⟩
theorem own_more {w : World} {base g cap n : Nat} {e : TypeId} {xs : List Value} (h : w.ownsRow base e 1 (.slice (some ⟨g, 0, none⟩) n cap) n xs) (hr : n + 1 ≤ cap) : ∃ u, w.ownsRow base e 1 (.slice (some ⟨g, 0, none⟩) (n + 1) cap) (n + 1) (xs ++ [u]) := by
  have hx := h.1
  rcases h.2 with ⟨hv, _⟩ | ⟨g', cap', cur, hv, hb, hg, h1, h2, h3, h4⟩
  · cases hv
  · cases hv
    have hlt : n < cur.toList.length := by rw [Array.length_toList]; omega
    refine ⟨cur.toList[n], by rw [List.length_append, hx]; simp, .inr ⟨_, _, cur, rfl, hb, hg, hr, h2, h3, ?_⟩⟩
    rw [Nat.mul_one] at h4 ⊢
    rw [List.take_succ_eq_append_getElem hlt, h4]
theorem shape_of {w : World} {g : Nat} {cs : Array Value} {t : TypeId} {fr : Nat × Nat} (h : w.heap[g]? = some (.cells cs t fr)) : w.shape? g = some (t, cs.size) := by
  unfold World.shape?; rw [h]
theorem own_block {w : World} {base g cap n : Nat} {e : TypeId} {xs : List Value} (h : w.ownsRow base e 1 (.slice (some ⟨g, 0, none⟩) n cap) n xs) : ∃ cur : Array Value, w.heap[g]? = some (.cells cur e (0, 0)) ∧ cur.size = cap := by
  rcases h.2 with ⟨hv, _⟩ | ⟨g', cap', cur, hv, hb, hg, h1, h2, h3, h4⟩
  · cases hv
  · cases hv
    exact ⟨cur, hg, by omega⟩
theorem own_eq {w : World} {base n : Nat} {e : TypeId} {v : Value} {xs ys : List Value} (h : w.ownsRow base e 1 v n xs) (he : xs = ys) : w.ownsRow base e 1 v n ys := by rw [← he]; exact h
theorem own_setTail {w : World} {base g n cap o : Nat} {e : TypeId} {xs ys : List Value} (h : w.ownsRow base e 1 (.slice (some ⟨g, 0, none⟩) n cap) n xs) (hl : o + ys.length = n) : (w.setCells g o ys).ownsRow base e 1 (.slice (some ⟨g, 0, none⟩) n cap) n (xs.take o ++ ys) := by
  have h2 := own_setCells ys o h (by omega)
  have hx := h.1
  rw [List.drop_of_length_le (by omega), List.append_nil] at h2
  exact h2
theorem own_new {w : World} {base n G : Nat} {xs : List Value} {cs : Array Value} {e : TypeId} (hb : base ≤ w.heap.size) (hx : xs.length = n) (hn : n ≤ G) (hG : G ≤ maxLen) (hs : cs.size = G) (ht : cs.toList.take n = xs) :
    (w.alloc (.cells cs e)).ownsRow base e 1 (.slice (some ⟨w.heap.size, 0, none⟩) n G) n xs :=
  ⟨by omega, .inr ⟨w.heap.size, G, cs, rfl, hb, heap_alloc_new w _, hn, hG, by omega, by rw [Nat.mul_one]; exact ht⟩⟩

set_option maxHeartbeats 2000000 in
theorem insert_own {w1 : World} {base : Nat} {A : Option Addr} {cap p : Nat} {L : List Int} (x : Int) (h : OwnInts w1 base 3 (.slice A L.length cap) L) (hb : base ≤ w1.heap.size) (hp : p ≤ L.length) (hl : L.length ≤ 100) :
    Calls Try.prog 79 #[.slice A L.length cap, .int .i64 p, .slice (some ⟨w1.heap.size, 0, none⟩) 1 1] (w1.alloc (.cells #[.int .i64 x] 3)) fun e w' =>
      ∃ v, e = .returned v ∧ OwnInts w' base 3 v (L.take p ++ x :: L.drop p) ∧ Below base w1 w' := by
  obtain ⟨W, hW⟩ : ∃ W, W = w1.alloc (.cells #[.int .i64 x] 3) := ⟨_, rfl⟩
  rw [← hW]
  have hWs : W.heap.size = w1.heap.size + 1 := by rw [hW]; simp
  have hBW : Below base w1 W := by rw [hW]; exact (Below.refl base w1).alloc hb _
  have hOW : OwnInts W base 3 (.slice A L.length cap) L := by rw [hW]; exact h.below (below_new w1 _)
  have hvb : W.heap[w1.heap.size]? = some (.cells #[.int .i64 x] 3 (0, 0)) := by rw [hW]; exact heap_alloc_new w1 _
  have hvc : W.cell? ⟨w1.heap.size, 0, none⟩ = some (.int .i64 x) := by rw [cell_of_row _ w1.heap.size 0 _ 3 (0, 0) hvb]; rfl
  have hvs : ∀ j v, ([Value.int .i64 x] : List Value)[j]? = some v → W.cell? ⟨w1.heap.size, 0 + j, none⟩ = some v := by
    intro j v hj
    match j, hj with
    | 0, hj => rw [← Option.some.inj hj]; exact hvc
  have h1v : ∀ v ∈ ([Value.int .i64 x] : List Value), v.oneCell' = true := by
    intro v hv
    rw [List.mem_singleton.1 hv]; rfl
  have hfz0 : ∀ k, W.frozen? ⟨w1.heap.size, k, none⟩ = false := by intro k; unfold World.frozen?; rw [hvb]; simp
  have h1c : ∀ v ∈ L.map (Value.int .i64), v.oneCell' = true := by
    intro v hv
    obtain ⟨z, _, rfl⟩ := List.mem_map.1 hv
    rfl
  have hlist : (L.map (Value.int .i64)).take p ++ [Value.int .i64 x] ++ (L.map (Value.int .i64)).drop p = (L.take p ++ x :: L.drop p).map (Value.int .i64) := by
    rw [List.map_append, List.map_cons, List.map_take, List.map_drop]; simp
  have hlen : (L.take p ++ x :: L.drop p).length = L.length + 1 := by
    rw [List.length_append, List.length_cons, List.length_take, List.length_drop]; omega
  have hmx : (L.map (Value.int .i64)).length = L.length := List.length_map ..
  rcases Nat.lt_or_ge L.length cap with hroom | hroom
  · -- there is room
    have hA : ∃ g, A = some ⟨g, 0, none⟩ ∧ base ≤ g ∧ g < w1.heap.size ∧ cap ≤ maxLen := by
      rcases h.2 with ⟨hv, _⟩ | ⟨g', cap', cur, hv, hb', hg, h1, h2, _⟩
      · injection hv with _ _ h3; omega
      · injection hv with h3 h4 h5
        exact ⟨g', h3, hb', (Array.getElem?_eq_some_iff.1 hg).1, by omega⟩
    obtain ⟨g, rfl, hbg, hg1, hcm⟩ := hA
    obtain ⟨u, hu⟩ := own_more hOW hroom
    have hcap63 : cap ≤ 9223372036854775807 := by unfold maxLen at hcm; omega
    have hxs : (L.map (Value.int .i64) ++ [u]).length = L.length + 1 := by simp
    rcases Nat.lt_or_ge p L.length with hpl | hpl
    · obtain ⟨cur, hcur, hcs⟩ := own_block hOW
      refine (Any2.slices_Insert_int_shift Try.laysNm221 g 0 L.length cap p w1.heap.size 0 1 1 (L.map (Value.int .i64)) [.int .i64 x] W hpl (by decide) hroom hcap63 (by omega) hmx rfl
        (fun j v hj => by
          have hj' : j < L.length := by have := (List.getElem?_eq_some_iff.1 hj).1; omega
          rw [Nat.zero_add, World.ownsRow.cellAt hOW j (by omega), hj])
        (fun j hj => by rw [Nat.zero_add, World.ownsRow.cellAt hu j (by omega), List.getElem?_eq_getElem (by omega)]; rfl)
        (fun j hj => World.ownsRow.frozenAt hu (0 + j)) hvs h1c h1v 3 3 1 cap (shape_of hvb) (by rw [shape_of hcur, hcs]) (by omega) (hfz0 0) (hfz0 1)).mono ?_
      rintro e w' ⟨rfl, rfl⟩
      have hd := own_below hu (below_drewN (Below.refl W.heap.size W) 1)
      have s1 := own_setTail (o := p + 1) (ys := (L.map (Value.int .i64)).drop p) hd (by rw [List.length_drop, hmx]; omega)
      have s2 := own_setCells [.int .i64 x] p s1 (by simp; omega)
      refine ⟨_, rfl, ?_, ?_⟩
      · unfold OwnInts
        rw [hlen, ← hlist]
        rw [Nat.zero_add, Nat.zero_add]
        refine own_eq s2 ?_
        have ha : (L.map (Value.int .i64) ++ [u]).take (p + 1) = (L.map (Value.int .i64)).take (p + 1) := List.take_append_of_le_length (by omega)
        have hb2 : ((L.map (Value.int .i64)).take (p + 1)).length = p + 1 := by rw [List.length_take, hmx]; omega
        rw [ha, List.take_append_of_le_length (by omega), List.take_take, Nat.min_eq_left (by omega), List.length_singleton, List.drop_append, hb2, List.drop_of_length_le (l := (L.map (Value.int .i64)).take (p + 1)) (by omega), List.nil_append, Nat.sub_self, List.drop_zero]
      · rw [Nat.zero_add, Nat.zero_add]
        exact below_setCells hbg _ _ (below_setCells hbg _ _ (below_drewN hBW 1))
    · obtain rfl : p = L.length := by omega
      refine (Any2.slices_Insert_int_end_room Try.laysNm221 g 0 L.length cap w1.heap.size 0 1 1 [.int .i64 x] W (by decide) hroom hcap63 rfl
        (fun j hj => by
          obtain rfl : j = 0 := by omega
          rw [Nat.zero_add, Nat.add_zero, World.ownsRow.cellAt hu L.length (by omega), List.getElem?_eq_getElem (by omega)]; rfl)
        (fun j hj => World.ownsRow.frozenAt hu _) hvs h1v).mono ?_
      rintro e w' ⟨rfl, rfl⟩
      have s2 := own_setTail (o := L.length) (ys := [.int .i64 x]) hu (by simp)
      refine ⟨_, rfl, ?_, ?_⟩
      · unfold OwnInts
        rw [hlen, ← hlist, Nat.zero_add]
        refine own_eq s2 ?_
        have ha : (L.map (Value.int .i64) ++ [u]).take L.length = L.map (Value.int .i64) := by rw [List.take_append_of_le_length (by omega), List.take_of_length_le (by omega)]
        have hb2 : (L.map (Value.int .i64)).take L.length = L.map (Value.int .i64) := List.take_of_length_le (by omega)
        have hc2 : (L.map (Value.int .i64)).drop L.length = [] := List.drop_of_length_le (by omega)
        rw [ha, hb2, hc2, List.append_nil]
      · rw [Nat.zero_add]
        exact below_setCells hbg _ _ hBW
  · -- there is none: a new row
    have hcl : L.length = cap ∨ (A = none ∧ cap = 0 ∧ L.length = 0) := by
      rcases h.2 with ⟨hv, h0⟩ | ⟨g', cap', cur, hv, hb', hg, h1, h2, _⟩
      · injection hv with h3 h4 h5; exact .inr ⟨h3, h5, h0⟩
      · injection hv with h3 h4 h5; left; omega
    have hcl2 : L.length ≤ cap := by omega
    have hG1 := grownCap_ge W (L.length + 1) cap 3
    have hG2 := grownCap_le_maxLen W (L.length + 1) cap 3 (by unfold maxLen; omega)
    have hbW : base ≤ W.heap.size := by omega
    rcases Nat.lt_or_ge p L.length with hpl | hpl
    · have hA : ∃ g, A = some ⟨g, 0, none⟩ := by
        obtain ⟨g, c', hv, -⟩ := own_some h (by omega)
        injection hv with h3; exact ⟨g, h3⟩
      obtain ⟨g, rfl⟩ := hA
      refine (Any2.slices_Insert_int_grow Try.laysNm221 g 0 L.length cap p w1.heap.size 0 1 1 (L.map (Value.int .i64)) [.int .i64 x] W hpl (by decide) hcl2 (by omega) (by omega) hmx rfl
        (fun j v hj => by
          have hj' : j < L.length := by have := (List.getElem?_eq_some_iff.1 hj).1; omega
          rw [Nat.zero_add, World.ownsRow.cellAt hOW j (by omega), hj]) hvs h1c h1v).mono ?_
      rintro e w' ⟨rfl, rfl⟩
      obtain ⟨G, hG⟩ : ∃ G, G = grownCap W (L.length + 1) cap (Go.Shelf.Ren.t Try.laysNm221_ren 3) := ⟨_, rfl⟩
      have hGe : grownCap W (L.length + 1) cap 3 = G := hG.symm
      rw [hGe] at hG1 hG2
      rw [← hG]
      obtain ⟨cs, hcs⟩ : ∃ cs, cs = ((L.map (Value.int .i64)).take p).toArray ++ Builtin.zeroCells (Value.int .i64 0).cells (L.length + 1 - p) ++ Builtin.zeroCells (Value.int .i64 0).cells (G - (L.length + 1)) := ⟨_, rfl⟩
      have hsz : cs.size = G := by
        rw [hcs, Array.size_append, Array.size_append, size_zeroCells, size_zeroCells]
        show ((L.map (Value.int .i64)).take p).toArray.size + (L.length + 1 - p) * 1 + (G - (L.length + 1)) * 1 = G
        rw [List.size_toArray, List.length_take, hmx]; omega
      have hcl3 : cs.toList.length = G := by rw [← hsz]; exact Array.length_toList
      have htl : (cs.toList.take (L.length + 1)).length = L.length + 1 := by rw [List.length_take, hcl3]; omega
      have htk : (cs.toList.take (L.length + 1)).take p = (L.map (Value.int .i64)).take p := by
        rw [List.take_take, Nat.min_eq_left (by omega), hcs, Array.toList_append, Array.toList_append, List.append_assoc]
        have hlp : ((L.map (Value.int .i64)).take p).length = p := by rw [List.length_take, hmx]; omega
        show (((L.map (Value.int .i64)).take p) ++ _).take p = _
        rw [List.take_append_of_le_length (by omega), List.take_of_length_le (by omega)]
      have hn := own_new (w := W) (base := base) (e := 3) (n := L.length + 1) (G := G) (xs := cs.toList.take (L.length + 1)) (cs := cs) hbW htl hG1 hG2 hsz rfl
      rw [← hcs]
      have hd := own_below hn (below_drewN (Below.refl _ _) 1)
      have s1 := own_setCells [.int .i64 x] p hd (by simp; omega)
      have s1d := own_below s1 (below_drewN (Below.refl _ _) 1)
      have s2 := own_setTail (o := p + 1) (ys := (L.map (Value.int .i64)).drop p) s1d (by rw [List.length_drop, hmx]; omega)
      have hba : Below base w1 (W.alloc (.cells cs 3)) := hBW.alloc hbW _
      refine ⟨_, rfl, ?_, ?_⟩
      · unfold OwnInts
        rw [hlen, ← hlist]
        refine own_eq s2 ?_
        have ha : ((L.map (Value.int .i64)).take p ++ [Value.int .i64 x]).length = p + 1 := by rw [List.length_append, List.length_take, hmx, List.length_singleton]; omega
        rw [htk, List.take_append_of_le_length (by omega), List.take_of_length_le (l := (L.map (Value.int .i64)).take p ++ [Value.int .i64 x]) (by omega)]
      · exact below_setCells hbW _ _ (below_drewN (below_setCells hbW _ _ (below_drewN hba 1)) 1)
    · obtain rfl : p = L.length := by omega
      refine (Any2.slices_Insert_int_end_grow Try.laysNm221 A L.length cap w1.heap.size 0 1 1 (L.map (Value.int .i64)) [.int .i64 x] W (by decide) hcl2 (by omega) (by omega) hmx rfl
        (fun hA => by
          rcases h.2 with ⟨_, h0⟩ | ⟨g', cap', cur, hv, _⟩
          · exact h0
          · injection hv with h3; rw [hA] at h3; cases h3)
        (fun a ha j v hj => by
          have hj' : j < L.length := by have := (List.getElem?_eq_some_iff.1 hj).1; omega
          obtain ⟨g, c', hv, -⟩ := own_some hOW (by omega)
          injection hv with h3
          rw [ha] at h3
          obtain rfl := Option.some.inj h3
          subst ha
          rw [show (⟨g, 0, none⟩ : Addr).add j = ⟨g, 0 + j, none⟩ by (unfold Addr.add; split <;> simp_all), Nat.zero_add, World.ownsRow.cellAt hOW j (by omega), hj]) hvs h1v).mono ?_
      rintro e w' ⟨rfl, rfl⟩
      obtain ⟨G, hG⟩ : ∃ G, G = grownCap W (L.length + 1) cap (Go.Shelf.Ren.t Try.laysNm221_ren 3) := ⟨_, rfl⟩
      have hGe : grownCap W (L.length + 1) cap 3 = G := hG.symm
      rw [hGe] at hG1 hG2
      rw [← hG]
      obtain ⟨cs, hcs⟩ : ∃ cs, cs = (L.map (Value.int .i64) ++ [Value.int .i64 x]).toArray ++ Builtin.zeroCells (Value.int .i64 0).cells (G - (L.length + 1)) := ⟨_, rfl⟩
      have hsz : cs.size = G := by
        rw [hcs, Array.size_append, size_zeroCells]
        show (L.map (Value.int .i64) ++ [Value.int .i64 x]).toArray.size + (G - (L.length + 1)) * 1 = G
        rw [List.size_toArray, List.length_append, hmx, List.length_singleton]; omega
      have htk : cs.toList.take (L.length + 1) = L.map (Value.int .i64) ++ [Value.int .i64 x] := by
        rw [hcs, Array.toList_append]
        have hq : (L.map (Value.int .i64) ++ [Value.int .i64 x]).length = L.length + 1 := by simp
        show ((L.map (Value.int .i64) ++ [Value.int .i64 x]) ++ _).take (L.length + 1) = _
        rw [List.take_append_of_le_length (by omega), List.take_of_length_le (by omega)]
      rw [← hcs]
      have hn := own_new (w := W.drew) (base := base) (e := 3) (n := L.length + 1) (G := G) (xs := L.map (Value.int .i64) ++ [Value.int .i64 x]) (cs := cs) hbW (by simp) hG1 hG2 hsz htk
      refine ⟨_, rfl, ?_, ?_⟩
      · unfold OwnInts
        rw [hlen, ← hlist, List.take_of_length_le (by omega), List.drop_of_length_le (by omega), List.append_nil]
        exact hn
      · exact (below_drewN hBW 1).alloc hbW _
end Go.Proofs.Ytbocdhibimcobaa
