/- Lists of numbers in memory, and the law's own helpers on them: 'laws.toIntS', 'eqIntS', 'markIntS', 'heldIntS'. No condition but the lists' lengths. -/
import Derived.Test.YteefkgnojdgehaaBase
import Derived.Deep.AppendLies
import Derived.Deep.DeepFit
import Derived.RegionTactic
import Derived.Deep.RegionHeld3
import Derived.Lib.SmallJoins
import Derived.Deep.Slices
import Derived.Deep.Fields
namespace Go.Proofs.Yteefkgnojdgehaa
open Go.RowKit

theorem ret_bool {a b : Bool} (h : a = b) : Ending.returned (.bool a) = .returned (.bool b) := by rw [h]
theorem ret_str {a b : ByteArray} (h : a = b) : Ending.returned (.string a) = .returned (.string b) := by rw [h]
theorem ret_int {k : IntKind} {a b : Int} (h : a = b) : Ending.returned (.int k a) = .returned (.int k b) := by rw [h]
theorem ret_ib {a b : Int} {x y : Bool} (h : a = b) (h2 : x = y) : Ending.returned (.tuple #[.int .i64 a, .bool x]) = .returned (.tuple #[.int .i64 b, .bool y]) := by rw [h, h2]
theorem ret_iib {a b c d : Int} {x y : Bool} (h : a = b) (h1 : c = d) (h2 : x = y) : Ending.returned (.tuple #[.int .i64 a, .int .i64 c, .bool x]) = .returned (.tuple #[.int .i64 b, .int .i64 d, .bool y]) := by rw [h, h1, h2]
theorem ret_bb {a b x y : Bool} (h : a = b) (h2 : x = y) : Ending.returned (.tuple #[.bool a, .bool x]) = .returned (.tuple #[.bool b, .bool y]) := by rw [h, h2]
theorem bytes_ext {a b : ByteArray} (h : a.data.toList = b.data.toList) : a = b := by
  obtain ⟨⟨a⟩⟩ := a; obtain ⟨⟨b⟩⟩ := b; simp at h; rw [h]
theorem append_list (a b : ByteArray) : (a ++ b).data.toList = a.data.toList ++ b.data.toList := by simp
theorem bcell {W w1 : World} {B : Nat} (hb : Below B W w1) : (∀ b o, b < B → w1.cell? ⟨b, o, none⟩ = W.cell? ⟨b, o, none⟩) ∧ (∀ b o, b < B → w1.frozen? ⟨b, o, none⟩ = W.frozen? ⟨b, o, none⟩) :=
  ⟨fun b o h => hb.cell (p := ⟨b, o, none⟩) h, fun b o h => hb.frozen (p := ⟨b, o, none⟩) h⟩
theorem below_next {w w1 w2 : World} (h1 : Below w.heap.size w w1) (h2 : Below w1.heap.size w1 w2) : Below w.heap.size w w2 := h1.trans (h2.mono h1.size)
theorem below_nextN {B : Nat} {w w1 w2 : World} (h1 : Below B w w1) (hB : B ≤ w1.heap.size) (h2 : Below w1.heap.size w1 w2) : Below B w w2 := h1.trans (h2.mono hB)
theorem below_new (w : World) (o : Obj) : Below w.heap.size w (w.alloc o) := (Below.refl _ _).alloc (Nat.le_refl _) _
theorem below_box {w w1 : World} {o : Obj} (h : Below (w.alloc o).heap.size (w.alloc o) w1) : Below w.heap.size w w1 := below_next (below_new w o) h
theorem below_drewN {B : Nat} {a w : World} (h : Below B a w) (n : Nat) : Below B a (w.drewN n) := ⟨h.os, h.tape, h.output, h.size, h.block⟩
theorem below_store {B : Nat} {a w : World} {g : Nat} (h : Below B a w) (hg : B ≤ g) (i : Nat) (u : Value) : Below B a (w.setCell ⟨g, i, none⟩ u) := h.setCell (p := ⟨g, i, none⟩) hg u
theorem grown_trans' {a b c : World} {r : Option Nat} (h : a.grownBy b r) (k : b.grownBy c r) : a.grownBy c r :=
  ⟨k.os.trans h.os, k.tape.trans h.tape, k.output.trans h.output, Nat.le_trans h.size k.size, fun i hi hn => (k.block i (Nat.lt_of_lt_of_le hi h.size) hn).trans (h.block i hi hn)⟩
theorem grown_of_below {a w : World} (h : Below a.heap.size a w) (row : Option Nat) : a.grownBy w row := ⟨h.os, h.tape, h.output, h.size, fun i hi _ => h.block i hi⟩

theorem info_int : (Try.prog.info? 3).map (fun i => (i.zero, i.size, i.bytes)) = some (some (.int .i64 0), 1, 8) := by kernel_rfl

section
variable {w w' : World} {base n size : Nat} {e : TypeId} {v : Value} {xs : List Value}
theorem own_any (h : w.ownsRow base e size v n xs) : ∃ A c, v = .slice A n c := by
  rcases h.2 with ⟨rfl, rfl⟩ | ⟨g, cap, _, rfl, _⟩
  · exact ⟨_, _, rfl⟩
  · exact ⟨_, _, rfl⟩
theorem own_some (h : w.ownsRow base e size v n xs) (hn : 0 < n) : ∃ g cap, v = .slice (some ⟨g, 0, none⟩) n cap ∧ base ≤ g ∧ g < w.heap.size := by
  rcases h.2 with ⟨rfl, h0⟩ | ⟨g, cap, cur, rfl, hb, hg, _⟩
  · omega
  · exact ⟨g, cap, rfl, hb, (Array.getElem?_eq_some_iff.1 hg).1⟩
theorem own_below (h : w.ownsRow base e size v n xs) (hb : Below w.heap.size w w') : w'.ownsRow base e size v n xs := by
  refine ⟨h.1, ?_⟩
  rcases h.2 with hn | ⟨g, cap, cur, rfl, h1, hg, rest⟩
  · exact .inl hn
  · refine .inr ⟨g, cap, cur, rfl, h1, ?_, rest⟩
    rw [hb.block g (Array.getElem?_eq_some_iff.1 hg).1]
    exact hg
theorem own_le (h : w.ownsRow base e size v n xs) : n ≤ maxLen := by
  rcases h.2 with ⟨_, rfl⟩ | ⟨g, cap, cur, rfl, h1, hg, h2, h3, _⟩
  · exact Nat.zero_le _
  · omega
theorem own_mono {b' : Nat} (h : w.ownsRow base e size v n xs) (hb : b' ≤ base) : w.ownsRow b' e size v n xs := by
  refine ⟨h.1, ?_⟩
  rcases h.2 with hn | ⟨g, cap, cur, rfl, h1, rest⟩
  · exact .inl hn
  · exact .inr ⟨g, cap, cur, rfl, Nat.le_trans hb h1, rest⟩
/-- a row stays what it is while another one is written -/
theorem own_apart {row : Option Nat} (h : w.ownsRow base e size v n xs) (hg : w.grownBy w' row) (hv : ∀ k, v.ownBlock = some k → row ≠ some k) : w'.ownsRow base e size v n xs := by
  refine h.kept hg ?_
  rcases hk : v.ownBlock with _ | k
  · exact .inl rfl
  · exact .inr (Ne.symm (hv k hk))
end

theorem getElem?_ints (zs : List Int) (k : Nat) (h : k < zs.length) : (zs.map (Value.int .i64))[k]? = some (.int .i64 zs[k]) := by
  rw [List.getElem?_map, List.getElem?_eq_getElem h]; rfl
/-- a list of numbers that the call itself has made -/
def OwnInts (w : World) (base : Nat) (e : TypeId) (v : Value) (zs : List Int) : Prop := w.ownsRow base e 1 v zs.length (zs.map (Value.int .i64))
section
variable {w w' : World} {base : Nat} {e : TypeId} {v : Value} {zs : List Int}
theorem OwnInts.nil (w : World) (base : Nat) (e : TypeId) : OwnInts w base e (.slice none 0 0) [] := World.ownsRow_nil w base e 1
theorem OwnInts.below (h : OwnInts w base e v zs) (hb : Below w.heap.size w w') : OwnInts w' base e v zs := own_below h hb
theorem OwnInts.mono {b' : Nat} (h : OwnInts w base e v zs) (hb : b' ≤ base) : OwnInts w b' e v zs := own_mono h hb
theorem OwnInts.snoc {x : Int} (h : w.ownsRow base e 1 v (zs.length + 1) (zs.map (Value.int .i64) ++ [.int .i64 x])) : OwnInts w base e v (zs ++ [x]) := by
  unfold OwnInts
  rw [List.length_append, List.map_append]
  exact h
theorem OwnInts.lt (h : OwnInts w base e v zs) : ∀ k, v.ownBlock = some k → base ≤ k ∧ k < w.heap.size := fun k hk => ⟨(World.ownsRow.lt h k hk).1, (World.ownsRow.lt h k hk).2⟩
theorem OwnInts.len (h : OwnInts w base e v zs) : ∃ A c, v = .slice A zs.length c := own_any h
end

/-- numbers from a place of a block on -/
def IntAt (w : World) (g off : Nat) (zs : List Int) : Prop := ∀ k (h : k < zs.length), w.cell? ⟨g, off + k, none⟩ = some (.int .i64 zs[k])
/-- a slice's address leads to these numbers -/
def IntSl (w : World) (A : Option Addr) (zs : List Int) : Prop := zs = [] ∨ ∃ g off, A = some ⟨g, off, none⟩ ∧ g < w.heap.size ∧ IntAt w g off zs
section
variable {w w' : World} {g off : Nat} {A : Option Addr} {zs : List Int}
theorem IntAt.below (h : IntAt w g off zs) (hb : Below w.heap.size w w') (hg : g < w.heap.size) : IntAt w' g off zs := fun k hk => (hb.cell (p := ⟨g, _, none⟩) hg).trans (h k hk)
theorem IntSl.below (h : IntSl w A zs) (hb : Below w.heap.size w w') : IntSl w' A zs := by
  rcases h with h | ⟨g, off, h1, h2, h3⟩
  · exact .inl h
  · exact .inr ⟨g, off, h1, Nat.lt_of_lt_of_le h2 hb.size, h3.below hb h2⟩
theorem IntSl.some (h : IntSl w A zs) (h0 : 0 < zs.length) : ∃ g off, A = some ⟨g, off, none⟩ ∧ g < w.heap.size ∧ IntAt w g off zs := by
  rcases h with h | h
  · subst h; simp at h0
  · exact h
theorem IntSl.nil (w : World) (A : Option Addr) : IntSl w A [] := .inl rfl
theorem IntSl.of_own {base : Nat} {e : TypeId} {n c : Nat} (h : OwnInts w base e (.slice A n c) zs) : IntSl w A zs := by
  rcases h.2 with ⟨_, h0⟩ | ⟨g, cap, cur, hv, hb, hg, _⟩
  · left; exact List.eq_nil_of_length_eq_zero h0
  · right
    injection hv with hA hn hc
    subst hA hn hc
    have h' : w.ownsRow base e 1 (.slice (Option.some ⟨g, 0, none⟩) zs.length c) zs.length (zs.map (Value.int .i64)) := h
    refine ⟨g, 0, rfl, (Array.getElem?_eq_some_iff.1 hg).1, fun k hk => ?_⟩
    rw [Nat.zero_add, World.ownsRow.cellAt h' k (by omega), getElem?_ints zs k hk]
end

/-- a row of the call's own whose first c cells are filled as they shall be -/
def Filled (w : World) (base : Nat) (e : TypeId) (size : Nat) (v : Value) (n : Nat) (xs : List Value) (c : Nat) (wr : World) : Prop :=
  ∃ ys : List Value, wr.ownsRow base e size v n ys ∧ (∀ i, i < c → ys[i]? = xs[i]?) ∧ Below base w wr
section
variable {w wr wr' : World} {base size g cap n c : Nat} {e : TypeId} {v : Value} {xs : List Value}
theorem Filled.step (h : Filled w base e size (.slice (some ⟨g, 0, none⟩) n cap) n xs c wr) (hc : c < n * size) (hb : base ≤ g) {u : Value} (hu : xs[c]? = some u) :
    Filled w base e size (.slice (some ⟨g, 0, none⟩) n cap) n xs (c + 1) (wr.setCell ⟨g, c, none⟩ u) := by
  obtain ⟨ys, ho, hm, hB⟩ := h
  have hl : ys.length = n * size := ho.1
  obtain ⟨ho', hg'⟩ := ho.stored c u
  refine ⟨_, ho', fun i hi => ?_, hB.setCell (by exact hb) _⟩
  rw [List.getElem?_set]
  by_cases e : c = i
  · subst e; rw [if_pos rfl, if_pos (by omega), hu]
  · rw [if_neg e]; exact hm i (by omega)
theorem Filled.cell (h : Filled w base e size (.slice (some ⟨g, 0, none⟩) n cap) n xs c wr) (j : Nat) (hj : j < n * size) :
    (∃ u, wr.cell? ⟨g, j, none⟩ = some u) ∧ wr.frozen? ⟨g, j, none⟩ = false := by
  obtain ⟨ys, ho, hm, hB⟩ := h
  have hl : ys.length = n * size := ho.1
  exact ⟨⟨_, by rw [ho.cellAt j hj]; exact List.getElem?_eq_getElem (by omega)⟩, ho.frozenAt j⟩
theorem Filled.below (h : Filled w base e size v n xs c wr) (hb : Below wr.heap.size wr wr') (hw : base ≤ w.heap.size) : Filled w base e size v n xs c wr' := by
  obtain ⟨ys, ho, hm, hB⟩ := h
  exact ⟨ys, own_below ho hb, hm, hB.trans (hb.mono (by have := hB.size; omega))⟩
theorem Filled.all (h : Filled w base e size v n xs (n * size) wr) (hx : xs.length = n * size) : wr.ownsRow base e size v n xs ∧ Below base w wr := by
  obtain ⟨ys, ho, hm, hB⟩ := h
  have hl : ys.length = n * size := ho.1
  have : ys = xs := List.ext_getElem? fun i => by
    by_cases hi : i < n * size
    · exact hm i hi
    · rw [List.getElem?_eq_none (by omega), List.getElem?_eq_none (by omega)]
  rw [this] at ho
  exact ⟨ho, hB⟩
theorem Filled.below0 (h : Filled w base e size v n xs c wr) : Below base w wr := by
  obtain ⟨ys, ho, hm, hB⟩ := h; exact hB
theorem Filled.made {ys : List Value} (h : wr.ownsRow base e size v n ys) (hb : Below base w wr) : Filled w base e size v n xs 0 wr := ⟨_, h, fun _ hi => absurd hi (Nat.not_lt_zero _), hb⟩
end

/-- the marks k, k + 1, .. -/
def marksI (k n : Nat) : List Value := (List.range n).map fun i => Value.int .i64 ((k + i : Nat) : Int)
theorem marksI_at (k n j : Nat) (h : j < n) : (marksI k n)[j]? = some (.int .i64 ((k + j : Nat) : Int)) := by
  unfold marksI; rw [List.getElem?_map, List.getElem?_range h]; rfl
theorem marksI_of {k n : Nat} {ys : List Value} (hl : ys.length = n) (h : ∀ j, j < n → ys[j]? = some (.int .i64 ((k + j : Nat) : Int))) : ys = marksI k n := by
  apply List.ext_getElem?
  intro j
  by_cases hj : j < n
  · rw [h j hj, marksI_at k n j hj]
  · rw [List.getElem?_eq_none (by omega), List.getElem?_eq_none (by unfold marksI; simp; omega)]
/-- so far marked -/
def Marked (w : World) (base : Nat) (e : TypeId) (v : Value) (n k j : Nat) (wr : World) : Prop :=
  ∃ ys : List Value, wr.ownsRow base e 1 v n ys ∧ (∀ i, i < j → ys[i]? = some (.int .i64 ((k + i : Nat) : Int))) ∧ (∀ i, i < n → ∃ u, ys[i]? = some u) ∧ w.grownBy wr v.ownBlock
theorem Marked.step {w wr : World} {base g cap n k j : Nat} {e : TypeId} (h : Marked w base e (.slice (some ⟨g, 0, none⟩) n cap) n k j wr) (hj : j < n) :
    Marked w base e (.slice (some ⟨g, 0, none⟩) n cap) n k (j + 1) (wr.setCell ⟨g, j, none⟩ (.int .i64 ((k + j : Nat) : Int))) := by
  obtain ⟨ys, ho, hm, hs, hg⟩ := h
  have hl : ys.length = n := by have := ho.1; omega
  obtain ⟨ho', hg'⟩ := ho.stored j (.int .i64 ((k + j : Nat) : Int))
  refine ⟨_, ho', fun i hi => ?_, fun i hi => ?_, grown_trans' hg hg'⟩
  · rw [List.getElem?_set]
    by_cases e : j = i
    · subst e; rw [if_pos rfl, if_pos (by omega)]
    · rw [if_neg e]; exact hm i (by omega)
  · rw [List.getElem?_set]
    by_cases e : j = i
    · subst e; rw [if_pos rfl, if_pos (by omega)]; exact ⟨_, rfl⟩
    · rw [if_neg e]; exact hs i hi
theorem Marked.cell {w wr : World} {base g cap n k j : Nat} {e : TypeId} (h : Marked w base e (.slice (some ⟨g, 0, none⟩) n cap) n k j wr) (hj : j < n) :
    (∃ u, wr.cell? ⟨g, j, none⟩ = some u) ∧ wr.frozen? ⟨g, j, none⟩ = false := by
  obtain ⟨ys, ho, hm, hs, hg⟩ := h
  obtain ⟨u, hu⟩ := hs j hj
  exact ⟨⟨u, by rw [ho.cellAt j (by omega), hu]⟩, ho.frozenAt j⟩
theorem Marked.all {w wr : World} {base n k : Nat} {v : Value} {e : TypeId} (h : Marked w base e v n k n wr) : wr.ownsRow base e 1 v n (marksI k n) ∧ w.grownBy wr v.ownBlock := by
  obtain ⟨ys, ho, hm, hs, hg⟩ := h
  have hl : ys.length = n := by have := ho.1; omega
  rw [marksI_of hl hm] at ho
  exact ⟨ho, hg⟩

set_option maxHeartbeats 1000000 in
theorem toIntS_any (A : Option Addr) (cap : Nat) (L : List Int) (w : World) (hn : L.length ≤ 1048576) (h : IntSl w A L) :
    Calls Try.prog 52 #[.slice A L.length cap] w fun e w' => e = .returned (.slice (some ⟨w.heap.size, 0, none⟩) L.length L.length) ∧ OwnInts w' w.heap.size 3 (.slice (some ⟨w.heap.size, 0, none⟩) L.length L.length) L ∧ Below w.heap.size w w' := by
  obtain ⟨i0, hi, hz0, hz1, hz2⟩ := info_parts info_int
  rcases Nat.eq_zero_or_pos L.length with h0 | h0
  · obtain rfl : L = [] := List.eq_nil_of_length_eq_zero h0
    clear h hn h0
    go_enter Try.func52, Try.ntmps52
    go_wp2_with (at_make; refine wpList_make_full _ rfl (.tmp 6) (.tmp 6) _ rfl w.heap.size 3 i0 _ 1 Try.underlying58 hi hz0 hz1 .i64 .i64 _ _ 0 rfl rfl rfl rfl (by rw [hz2]; omega) (Nat.zero_le _) (Nat.le_refl _) ?_; intro w1 hown hgrow)
    have he := List.eq_nil_of_length_eq_zero (hown.1.trans (Nat.zero_mul 1))
    rw [he] at hown
    clear he
    have HF : Hid (OwnInts w1 w.heap.size 3 (.slice (some ⟨w.heap.size, 0, none⟩) 0 0) []) := Lib.hid hown
    have HG := Lib.hid ((Below.refl _ _).grown hgrow (Nat.le_refl _) (fun k hk => by cases hk))
    clear hown hgrow
    refine wp_loop_rounds 1 ?_
    rw [rounds_succ]
    go_wp2
    go_ret
    exact ⟨rfl, HF.out, HG.out⟩
  · obtain ⟨g, off, rfl, hg, hat⟩ := h.some h0
    clear h
    have HAT := Lib.hid hat
    clear hat
    go_enter Try.func52, Try.ntmps52
    go_wp2_with (at_make; refine wpList_make_full _ rfl (.tmp 6) (.tmp 6) _ rfl w.heap.size 3 i0 _ 1 Try.underlying58 hi hz0 hz1 .i64 .i64 _ _ L.length rfl rfl rfl rfl (by rw [hz2]; omega) (by unfold maxLen; omega) (Nat.le_refl _) ?_; intro w1 hown hgrow)
    have HF : Hid (Filled w w.heap.size 3 1 (.slice (some ⟨w.heap.size, 0, none⟩) L.length L.length) L.length (L.map (Value.int .i64)) 0 w1) := Lib.hid (Filled.made hown ((Below.refl _ _).grown hgrow (Nat.le_refl _) (fun k hk => by cases hk)))
    clear hown hgrow
    go_loopw [4] (fun i wr => ∃ j : Nat, j ≤ L.length ∧ i = .int .i64 j ∧ Filled w w.heap.size 3 1 (.slice (some ⟨w.heap.size, 0, none⟩) L.length L.length) L.length (L.map (Value.int .i64)) j wr) (fun i _ => L.length - (intOf i).toNat)
    case atStart => exact ⟨0, Nat.zero_le _, rfl, HF.out⟩
    case round =>
      obtain ⟨j, hj, rfl, hf⟩ := hrel
      have HF1 := Lib.hid hf
      clear hf
      by_cases hlt : j < L.length
      · have c1 := HAT.out.below HF1.out.below0 hg j hlt
        have K1 := Lib.hid (getElem?_ints L j hlt)
        obtain ⟨⟨u1, d1⟩, f1⟩ := HF1.out.cell j (by omega)
        go_wp2
        go_roundw
        case rel => exact ⟨j + 1, by omega, by go_num, HF1.out.step (by omega) (Nat.le_refl _) K1.out⟩
        case measure => simp [intOf]; omega
      · obtain rfl : j = L.length := by omega
        have HA := Lib.hid (Filled.all (by rw [Nat.mul_one]; exact HF1.out) (by rw [List.length_map, Nat.mul_one]))
        go_wp2
        go_ret
        exact ⟨rfl, HA.out⟩

set_option maxHeartbeats 400000 in
theorem eqInts_sl (A1 A2 : Option Addr) (c1 c2 : Nat) (zs : List Int) (w : World) (hm : zs.length ≤ 1048576) (h1 : IntSl w A1 zs) (h2 : IntSl w A2 zs) :
    Calls Try.prog 55 #[.slice A1 zs.length c1, .slice A2 zs.length c2] w fun e w' => e = .returned (.bool true) ∧ Below w.heap.size w w' := by
  rcases Nat.eq_zero_or_pos zs.length with h0 | h0
  · rw [h0]
    clear h1 h2 h0 hm
    go_enter Try.func55, Try.ntmps55
    go_wp2
    refine wp_loop_rounds 1 ?_
    rw [rounds_succ]
    go_wp2
    go_ret
    exact ⟨rfl, Below.refl _ _⟩
  · obtain ⟨g1, o1, rfl, hg1, at1⟩ := h1.some h0
    obtain ⟨g2, o2, rfl, hg2, at2⟩ := h2.some h0
    have H1 : Hid (∀ k (hk : k < zs.length), w.cell? ⟨g1, o1 + k, none⟩ = some (.int .i64 zs[k])) := Lib.hid at1
    have H2 : Hid (∀ k (hk : k < zs.length), w.cell? ⟨g2, o2 + k, none⟩ = some (.int .i64 zs[k])) := Lib.hid at2
    clear h1 h2 at1 at2
    go_enter Try.func55, Try.ntmps55
    go_wp2
    go_loopw [5] (fun i wr => ∃ k d : Nat, k ≤ zs.length ∧ i = .int .i64 k ∧ wr = w.drewN d) (fun i _ => zs.length - (intOf i).toNat)
    case atStart => exact ⟨0, 0, Nat.zero_le _, rfl, rfl⟩
    case round =>
      obtain ⟨k, d, hk, rfl, rfl⟩ := hrel
      by_cases hlt : k < zs.length
      · have e1 := H1.out k hlt
        have e2 := H2.out k hlt
        have hk0 : (0 : Int) ≤ (k : Int) := by omega
        have hk1 : (k : Int) < (zs.length : Int) := by omega
        go_wp2
        go_quiet (fail)
        go_wp2
        go_roundw
        case rel => exact ⟨k + 1, _, by omega, by go_num, rfl⟩
        case measure => simp [intOf]; omega
      · go_wp2
        go_ret
        exact ⟨rfl, below_drewN (Below.refl _ _) _⟩
theorem eqInts_own {e1 e2 : TypeId} {b1 b2 : Nat} {v1 v2 : Value} {zs : List Int} {w : World} (hm : zs.length ≤ 1048576) (h1 : OwnInts w b1 e1 v1 zs) (h2 : OwnInts w b2 e2 v2 zs) :
    Calls Try.prog 55 #[v1, v2] w fun e w' => e = .returned (.bool true) ∧ Below w.heap.size w w' := by
  obtain ⟨A1, c1, rfl⟩ := h1.len
  obtain ⟨A2, c2, rfl⟩ := h2.len
  exact eqInts_sl A1 A2 c1 c2 zs w hm (IntSl.of_own h1) (IntSl.of_own h2)

end Go.Proofs.Yteefkgnojdgehaa
