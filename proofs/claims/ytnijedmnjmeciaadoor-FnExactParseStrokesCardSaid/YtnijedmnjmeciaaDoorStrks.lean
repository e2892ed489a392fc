/- Lists of strokes in memory: 'laws.szStrokeS', 'toStrokeS', 'eqStrokeS'. No condition but the lists' and the texts' lengths. -/
import Derived.Test.YtnijedmnjmeciaaDoorInts
namespace Go.Proofs.YtnijedmnjmeciaaDoor
open Go.RowKit

theorem ret_int {k : IntKind} {a b : Int} (h : a = b) : Ending.returned (.int k a) = .returned (.int k b) := by rw [h]
theorem info_strk : (Tryd.prog.info? 43).map (fun i => (i.zero, i.size, i.bytes)) = some (some (.agg #[.int .i64 0, .int .i64 0, .string ⟨#[]⟩]), 3, 32) := by kernel_rfl
structure Strk where
  f : Int
  t : Int
  c : ByteArray
def Strk.vals (s : Strk) : List Value := [.int .i64 s.f, .int .i64 s.t, .string s.c]
def strkCells (L : List Strk) : List Value := L.flatMap Strk.vals
theorem strkCells_len (L : List Strk) : (strkCells L).length = L.length * 3 := by
  induction L with
  | nil => rfl
  | cons s L ih => unfold strkCells at *; rw [List.flatMap_cons, List.length_append, ih, List.length_cons]; simp [Strk.vals]; omega
theorem strkCells_at : ∀ (L : List Strk) (k : Nat) (h : k < L.length), (strkCells L)[k * 3]? = some (.int .i64 L[k].f) ∧ (strkCells L)[k * 3 + 1]? = some (.int .i64 L[k].t) ∧ (strkCells L)[k * 3 + 2]? = some (.string L[k].c)
  | s :: L, 0, _ => ⟨rfl, rfl, rfl⟩
  | s :: L, k + 1, h => by
    have ih := strkCells_at L k (by simpa using h)
    have e : ∀ j, (strkCells (s :: L))[(k + 1) * 3 + j]? = (strkCells L)[k * 3 + j]? := fun j => by
      unfold strkCells
      rw [List.flatMap_cons, List.getElem?_append_right (by simp [Strk.vals]; omega)]
      congr 1
      simp [Strk.vals]; omega
    exact ⟨(e 0).trans ih.1, (e 1).trans ih.2.1, (e 2).trans ih.2.2⟩
def StrkAt (w : World) (g off : Nat) (L : List Strk) : Prop :=
  ∀ k (h : k < L.length), w.cell? ⟨g, off + k * 3, none⟩ = some (.int .i64 L[k].f) ∧ w.cell? ⟨g, off + k * 3 + 1, none⟩ = some (.int .i64 L[k].t) ∧ w.cell? ⟨g, off + k * 3 + 2, none⟩ = some (.string L[k].c)
/-- a slice's address leads to these strokes -/
def StrkSl (w : World) (A : Option Addr) (L : List Strk) : Prop := L = [] ∨ ∃ g off, A = some ⟨g, off, none⟩ ∧ g < w.heap.size ∧ StrkAt w g off L
theorem StrkAt.below {w w' : World} {g off : Nat} {L : List Strk} (h : StrkAt w g off L) (hb : Below w.heap.size w w') (hg : g < w.heap.size) : StrkAt w' g off L := fun k hk => by
  obtain ⟨h1, h2, h3⟩ := h k hk
  exact ⟨(hb.cell (p := ⟨g, _, none⟩) hg).trans h1, (hb.cell (p := ⟨g, _, none⟩) hg).trans h2, (hb.cell (p := ⟨g, _, none⟩) hg).trans h3⟩
theorem StrkSl.below {w w' : World} {A : Option Addr} {L : List Strk} (h : StrkSl w A L) (hb : Below w.heap.size w w') : StrkSl w' A L := by
  rcases h with h | ⟨g, off, h1, h2, h3⟩
  · exact .inl h
  · exact .inr ⟨g, off, h1, Nat.lt_of_lt_of_le h2 hb.size, h3.below hb h2⟩
theorem StrkSl.of_own {w : World} {base : Nat} {e : TypeId} {A : Option Addr} {n c : Nat} {L : List Strk} (h : w.ownsRow base e 3 (.slice A n c) n (strkCells L)) : StrkSl w A L := by
  have hl := h.1
  rw [strkCells_len] at hl
  rcases h.2 with ⟨_, h0⟩ | ⟨g, cap, cur, hv, hb, hg, _⟩
  · left; exact List.eq_nil_of_length_eq_zero (by omega)
  · right
    injection hv with hA hn hc
    subst hA hc
    refine ⟨g, 0, rfl, (Array.getElem?_eq_some_iff.1 hg).1, fun k hk => ?_⟩
    obtain ⟨h1, h2, h3⟩ := strkCells_at L k hk
    rw [Nat.zero_add]
    exact ⟨by rw [h.cellAt _ (by omega), h1], by rw [h.cellAt _ (by omega), h2], by rw [h.cellAt _ (by omega), h3]⟩
/-- what the first j strokes of a list take -/
def preS (L : List Strk) (j : Nat) : Nat := L.length + ((L.take j).map fun s => s.c.size).sum
def totS (L : List Strk) : Nat := preS L L.length
/-- what is left of 1 << 20 behind a list, or -1 -/
def szRes (L : List Strk) : Int := if 1048576 < (totS L : Int) then -1 else 1048576 - (totS L : Int)
theorem szRes_no {L : List Strk} (h : 1048576 < totS L) : szRes L = -1 := by unfold szRes; rw [if_pos (by omega)]
theorem szRes_yes {L : List Strk} (h : totS L ≤ 1048576) : szRes L = 1048576 - (totS L : Int) := by unfold szRes; rw [if_neg (by omega)]
/-- all texts are short enough to be read -/
def Short (L : List Strk) : Prop := ∀ k (h : k < L.length), L[k].c.size ≤ maxLen
theorem preS_zero (L : List Strk) : preS L 0 = L.length := by simp [preS]
theorem preS_succ (L : List Strk) (k : Nat) (h : k < L.length) : preS L (k + 1) = preS L k + L[k].c.size := by
  unfold preS; rw [List.take_succ_eq_append_getElem h, List.map_append, List.sum_append]; simp; omega
theorem preS_le (L : List Strk) (k : Nat) : preS L k ≤ totS L := by
  unfold totS preS
  rw [List.take_length]
  have : (L.map fun s => s.c.size) = ((L.take k).map fun s => s.c.size) ++ ((L.drop k).map fun s => s.c.size) := by rw [← List.map_append, List.take_append_drop]
  rw [this, List.sum_append]; omega

set_option maxHeartbeats 1000000 in
theorem szStrokeS_any (A : Option Addr) (cap : Nat) (L : List Strk) (w : World) (hn : L.length ≤ maxLen) (hs : Short L) (h : StrkSl w A L) :
    Calls Tryd.prog 6 #[.slice A L.length cap, .int .i64 1048576] w fun e w' => e = .returned (.int .i64 (szRes L)) ∧ Below w.heap.size w w' := by
  unfold maxLen at hn
  by_cases hbig : 1048576 < L.length
  · have HP := Lib.hid (szRes_no (L := L) (by have := preS_le L 0; rw [preS_zero] at this; omega))
    go_enter Tryd.func6, Tryd.ntmps6
    go_wp2
    go_ret
    exact ⟨ret_int HP.out.symm, Below.refl _ _⟩
  · rcases Nat.eq_zero_or_pos L.length with h0 | h0
    · obtain rfl : L = [] := List.eq_nil_of_length_eq_zero h0
      clear h hs hn hbig h0
      have HP := Lib.hid (szRes_yes (L := []) (by decide))
      go_enter Tryd.func6, Tryd.ntmps6
      go_wp2
      refine wp_loop_rounds 1 ?_
      rw [rounds_succ]
      go_wp2
      go_ret
      exact ⟨ret_int HP.out.symm, Below.refl _ _⟩
    · obtain ⟨g, off, rfl, hg, hat⟩ : ∃ g off, A = some ⟨g, off, none⟩ ∧ g < w.heap.size ∧ StrkAt w g off L := by
        rcases h with h | h
        · subst h; simp at h0
        · exact h
      clear h
      have HAT := Lib.hid hat
      have HS := Lib.hid hs
      clear hat hs
      have hz := preS_zero L
      go_enter Tryd.func6, Tryd.ntmps6
      go_wp2
      go_loopw [1, 5] (fun m i wr => ∃ j : Nat, j ≤ L.length ∧ i = .int .i64 j ∧ preS L j ≤ 1048576 ∧ m = .int .i64 (1048576 - (preS L j : Int)) ∧ Below w.heap.size w wr) (fun _ i _ => L.length - (intOf i).toNat)
      case atStart => exact ⟨0, Nat.zero_le _, rfl, by omega, by rw [hz], Below.refl _ _⟩
      case round =>
        clear hz
        obtain ⟨j, hj, rfl, hle, rfl, hb⟩ := hrel
        by_cases hlt : j < L.length
        · obtain ⟨c1, c2, c3⟩ := HAT.out.below hb hg j hlt
          have hsz := HS.out j hlt
          have hsu := Lib.hid (preS_succ L j hlt)
          have hsl := preS_le L (j + 1)
          by_cases hle2 : preS L (j + 1) ≤ 1048576
          · have hcall := fun W : World => szStroke_any L[j].f L[j].t L[j].c (1048576 - (preS L j : Int)) W hsz (by omega) (by omega)
            rw [if_neg (by have := hsu.out; omega)] at hcall
            have hge : (0 : Int) ≤ 1048576 - (preS L j : Int) - (L[j].c.size : Int) := by have := hsu.out; omega
            have HE : Hid ((1048576 : Int) - (preS L j : Int) - (L[j].c.size : Int) = 1048576 - (preS L (j + 1) : Int)) := Lib.hid (by have := hsu.out; omega)
            go_wp2_with (go_at_call 17; refine (hcall _).mono ?_; rintro e w1 ⟨rfl, hb1⟩)
            go_roundw
            case rel => exact ⟨j + 1, by omega, by go_num, hle2, by rw [HE.out], hb.trans (hb1.mono hb.size)⟩
            case measure => simp [intOf]; omega
          · have hcall := fun W : World => szStroke_any L[j].f L[j].t L[j].c (1048576 - (preS L j : Int)) W hsz (by omega) (by omega)
            rw [if_pos (by have := hsu.out; omega)] at hcall
            have HP := Lib.hid (szRes_no (L := L) (by omega))
            go_wp2_with (go_at_call 17; refine (hcall _).mono ?_; rintro e w1 ⟨rfl, hb1⟩)
            go_ret
            exact ⟨ret_int HP.out.symm, hb.trans (hb1.mono hb.size)⟩
        · obtain rfl : j = L.length := by omega
          have HP : Hid (szRes L = 1048576 - (preS L L.length : Int)) := Lib.hid (szRes_yes (L := L) hle)
          go_wp2
          go_ret
          exact ⟨ret_int HP.out.symm, hb⟩

/-- a row of the call's own whose first c cells are filled as they shall be -/
def Filled (w : World) (base : Nat) (e : TypeId) (size : Nat) (v : Value) (n : Nat) (xs : List Value) (c : Nat) (wr : World) : Prop :=
  ∃ ys : List Value, wr.ownsRow base e size v n ys ∧ (∀ i, i < c → ys[i]? = xs[i]?) ∧ Below base w wr
section
variable {w wr wr' : World} {base size g cap n c : Nat} {e : TypeId} {v : Value} {xs : List Value}
theorem Filled.step (h : Filled w base e size (.slice (some ⟨g, 0, none⟩) n cap) n xs c wr) (hc : c < n * size) (hb : base ≤ g) {u : Value} (hu : xs[c]? = some u) :
    Filled w base e size (.slice (some ⟨g, 0, none⟩) n cap) n xs (c + 1) (wr.setCell ⟨g, c, none⟩ u) := by
  obtain ⟨ys, ho, hm, hB⟩ := h
  have hl : ys.length = n * size := ho.1
  obtain ⟨ho', hg'⟩ := ho.stored c u
  refine ⟨_, ho', fun i hi => ?_, hB.setCell (by exact hb) _⟩
  rw [List.getElem?_set]
  by_cases e : c = i
  · subst e; rw [if_pos rfl, if_pos (by omega), hu]
  · rw [if_neg e]; exact hm i (by omega)
theorem Filled.cell (h : Filled w base e size (.slice (some ⟨g, 0, none⟩) n cap) n xs c wr) (j : Nat) (hj : j < n * size) :
    (∃ u, wr.cell? ⟨g, j, none⟩ = some u) ∧ wr.frozen? ⟨g, j, none⟩ = false := by
  obtain ⟨ys, ho, hm, hB⟩ := h
  have hl : ys.length = n * size := ho.1
  exact ⟨⟨_, by rw [ho.cellAt j hj]; exact List.getElem?_eq_getElem (by omega)⟩, ho.frozenAt j⟩
theorem Filled.below (h : Filled w base e size v n xs c wr) (hb : Below wr.heap.size wr wr') (hw : base ≤ w.heap.size) : Filled w base e size v n xs c wr' := by
  obtain ⟨ys, ho, hm, hB⟩ := h
  exact ⟨ys, own_below ho hb, hm, hB.trans (hb.mono (by have := hB.size; omega))⟩
theorem Filled.all (h : Filled w base e size v n xs (n * size) wr) (hx : xs.length = n * size) : wr.ownsRow base e size v n xs ∧ Below base w wr := by
  obtain ⟨ys, ho, hm, hB⟩ := h
  have hl : ys.length = n * size := ho.1
  have : ys = xs := List.ext_getElem? fun i => by
    by_cases hi : i < n * size
    · exact hm i hi
    · rw [List.getElem?_eq_none (by omega), List.getElem?_eq_none (by omega)]
  rw [this] at ho
  exact ⟨ho, hB⟩
theorem Filled.below0 (h : Filled w base e size v n xs c wr) : Below base w wr := by
  obtain ⟨ys, ho, hm, hB⟩ := h; exact hB
end

set_option maxHeartbeats 1000000 in
theorem toStrokeS_any (A : Option Addr) (cap : Nat) (L : List Strk) (w : World) (hn : L.length ≤ 1048576) (h : StrkSl w A L) :
    Calls Tryd.prog 8 #[.slice A L.length cap] w fun e w' => e = .returned (.slice (some ⟨w.heap.size, 0, none⟩) L.length L.length) ∧ w'.ownsRow w.heap.size 43 3 (.slice (some ⟨w.heap.size, 0, none⟩) L.length L.length) L.length (strkCells L) ∧ Below w.heap.size w w' := by
  obtain ⟨i0, hi, hz0, hz1, hz2⟩ := info_parts info_strk
  rcases Nat.eq_zero_or_pos L.length with h0 | h0
  · obtain rfl : L = [] := List.eq_nil_of_length_eq_zero h0
    clear h hn h0
    go_enter Tryd.func8, Tryd.ntmps8
    go_wp2_with (at_make; refine wpList_make_full _ rfl (.tmp 6) (.tmp 6) _ rfl w.heap.size 43 i0 _ 3 Tryd.underlying26 hi hz0 hz1 .i64 .i64 _ _ 0 rfl rfl rfl rfl (by rw [hz2]; omega) (Nat.zero_le _) (Nat.le_refl _) ?_; intro w1 hown hgrow)
    have he := List.eq_nil_of_length_eq_zero (hown.1.trans (Nat.zero_mul 3))
    rw [he] at hown
    clear he
    have HF : Hid (w1.ownsRow w.heap.size 43 3 (.slice (some ⟨w.heap.size, 0, none⟩) 0 0) 0 (strkCells [])) := Lib.hid hown
    have HG := Lib.hid ((Below.refl _ _).grown hgrow (Nat.le_refl _) (fun k hk => by cases hk))
    clear hown hgrow
    refine wp_loop_rounds 1 ?_
    rw [rounds_succ]
    go_wp2
    go_ret
    exact ⟨rfl, HF.out, HG.out⟩
  · obtain ⟨g, off, rfl, hg, hat⟩ : ∃ g off, A = some ⟨g, off, none⟩ ∧ g < w.heap.size ∧ StrkAt w g off L := by
      rcases h with h | h
      · subst h; simp at h0
      · exact h
    clear h
    have HAT := Lib.hid hat
    clear hat
    go_enter Tryd.func8, Tryd.ntmps8
    go_wp2_with (at_make; refine wpList_make_full _ rfl (.tmp 6) (.tmp 6) _ rfl w.heap.size 43 i0 _ 3 Tryd.underlying26 hi hz0 hz1 .i64 .i64 _ _ L.length rfl rfl rfl rfl (by rw [hz2]; omega) (by unfold maxLen; omega) (Nat.le_refl _) ?_; intro w1 hown hgrow)
    have HF : Hid (Filled w w.heap.size 43 3 (.slice (some ⟨w.heap.size, 0, none⟩) L.length L.length) L.length (strkCells L) 0 w1) := Lib.hid ⟨_, hown, fun i hi => absurd hi (Nat.not_lt_zero _), (Below.refl _ _).grown hgrow (Nat.le_refl _) (fun k hk => by cases hk)⟩
    clear hown hgrow
    go_loopw [4] (fun i wr => ∃ j : Nat, j ≤ L.length ∧ i = .int .i64 j ∧ Filled w w.heap.size 43 3 (.slice (some ⟨w.heap.size, 0, none⟩) L.length L.length) L.length (strkCells L) (j * 3) wr) (fun i _ => L.length - (intOf i).toNat)
    case atStart => exact ⟨0, Nat.zero_le _, rfl, HF.out⟩
    case round =>
      obtain ⟨j, hj, rfl, hf⟩ := hrel
      have HF1 := Lib.hid hf
      clear hf
      by_cases hlt : j < L.length
      · have hb := HF1.out.below0
        obtain ⟨c1, c2, c3⟩ := HAT.out.below hb hg j hlt
        obtain ⟨k1, k2, k3⟩ := strkCells_at L j hlt
        have HK1 := Lib.hid k1
        have HK2 := Lib.hid k2
        have HK3 := Lib.hid k3
        clear k1 k2 k3
        go_wp2_with (go_at_call 21; refine (toStroke_any _ _ _ _).mono ?_; rintro e w2 ⟨rfl, hb2⟩; have HF2 := Lib.hid (HF1.out.below hb2 (Nat.le_refl _)); obtain ⟨⟨u1, d1⟩, f1⟩ := HF2.out.cell (j * 3) (by omega); obtain ⟨⟨u2, d2⟩, f2⟩ := HF2.out.cell (j * 3 + 1) (by omega); obtain ⟨⟨u3, d3⟩, f3⟩ := HF2.out.cell (j * 3 + 2) (by omega))
        go_roundw
        case rel => exact ⟨j + 1, by omega, by go_num, by rw [show (j + 1) * 3 = j * 3 + 1 + 1 + 1 by omega]; exact (((HF2.out.step (by omega) (Nat.le_refl _) HK1.out).step (by omega) (Nat.le_refl _) HK2.out).step (by omega) (Nat.le_refl _) HK3.out)⟩
        case measure => simp [intOf]; omega
      · obtain rfl : j = L.length := by omega
        have HA := Lib.hid (HF1.out.all (strkCells_len L))
        go_wp2
        go_ret
        exact ⟨rfl, HA.out⟩

theorem eqStroke_same (f t : Int) (c : ByteArray) (w : World) :
    Calls Tryd.prog 25 #[.agg #[.int .i64 f, .int .i64 t, .string c], .agg #[.int .i64 f, .int .i64 t, .string c]] w fun e w' => e = .returned (.bool true) ∧ Below w.heap.size w w' := by
  go_enter Tryd.func25, Tryd.ntmps25
  go_wp2
  go_ret
  exact ⟨rfl, ((below_new w _).alloc (by simp) _)⟩

set_option maxHeartbeats 1000000 in
theorem eqStrokeS_same (A1 A2 : Option Addr) (c1 c2 : Nat) (L : List Strk) (w : World) (hn : L.length ≤ 1048576) (h1 : StrkSl w A1 L) (h2 : StrkSl w A2 L) :
    Calls Tryd.prog 10 #[.slice A1 L.length c1, .slice A2 L.length c2] w fun e w' => e = .returned (.bool true) ∧ Below w.heap.size w w' := by
  rcases Nat.eq_zero_or_pos L.length with h0 | h0
  · obtain rfl : L = [] := List.eq_nil_of_length_eq_zero h0
    clear h1 h2 hn h0
    go_enter Tryd.func10, Tryd.ntmps10
    go_wp2
    refine wp_loop_rounds 1 ?_
    rw [rounds_succ]
    go_wp2
    go_ret
    exact ⟨rfl, Below.refl _ _⟩
  · obtain ⟨g1, o1, rfl, hg1, hat1⟩ : ∃ g off, A1 = some ⟨g, off, none⟩ ∧ g < w.heap.size ∧ StrkAt w g off L := by
      rcases h1 with h | h
      · subst h; simp at h0
      · exact h
    obtain ⟨g2, o2, rfl, hg2, hat2⟩ : ∃ g off, A2 = some ⟨g, off, none⟩ ∧ g < w.heap.size ∧ StrkAt w g off L := by
      rcases h2 with h | h
      · subst h; simp at h0
      · exact h
    clear h1 h2
    have H1 := Lib.hid hat1
    have H2 := Lib.hid hat2
    clear hat1 hat2
    go_enter Tryd.func10, Tryd.ntmps10
    go_wp2
    go_loopw [5] (fun i wr => ∃ j : Nat, j ≤ L.length ∧ i = .int .i64 j ∧ Below w.heap.size w wr) (fun i _ => L.length - (intOf i).toNat)
    case atStart => exact ⟨0, Nat.zero_le _, rfl, Below.refl _ _⟩
    case round =>
      obtain ⟨j, hj, rfl, hb⟩ := hrel
      by_cases hlt : j < L.length
      · have hj0 : (0 : Int) ≤ (j : Int) := by omega
        have hj1 : (j : Int) < (L.length : Int) := by omega
        obtain ⟨d1, d2, d3⟩ := H1.out.below hb hg1 j hlt
        obtain ⟨e1, e2, e3⟩ := H2.out.below hb hg2 j hlt
        have l1 : g1 < wr.heap.size := Nat.lt_of_lt_of_le hg1 hb.size
        have l2 : g2 < wr.heap.size := Nat.lt_of_lt_of_le hg2 hb.size
        go_wp2
        go_region_held3 (fun x => x.cell? ⟨g1, o1 + j * 3, none⟩ = some (.int .i64 L[j].f) ∧ x.cell? ⟨g1, o1 + j * 3 + 1, none⟩ = some (.int .i64 L[j].t) ∧ x.cell? ⟨g1, o1 + j * 3 + 2, none⟩ = some (.string L[j].c) ∧
            x.cell? ⟨g2, o2 + j * 3, none⟩ = some (.int .i64 L[j].f) ∧ x.cell? ⟨g2, o2 + j * 3 + 1, none⟩ = some (.int .i64 L[j].t) ∧ x.cell? ⟨g2, o2 + j * 3 + 2, none⟩ = some (.string L[j].c))
          (first | go_keep | exact ⟨(hcc g1 _ l1).trans d1, (hcc g1 _ l1).trans d2, (hcc g1 _ l1).trans d3, (hcc g2 _ l2).trans e1, (hcc g2 _ l2).trans e2, (hcc g2 _ l2).trans e3⟩)
          (first | (go_at_call 25; refine (eqStroke_same _ _ _ _).mono ?_; rintro e w1 ⟨rfl, hb1⟩; obtain ⟨hcc, hff⟩ := bcell hb1))
        go_wp2
        go_roundw
        case rel => exact ⟨j + 1, by omega, by go_num, hb.trans (below_next (Below.refl _ _).drew hb1 |>.mono hb.size)⟩
        case measure => simp [intOf]; omega
      · obtain rfl : j = L.length := by omega
        go_wp2
        go_ret
        exact ⟨rfl, hb⟩
end Go.Proofs.YtnijedmnjmeciaaDoor
