/- Lists of texts among the arguments: opened, counted ('laws.szStringS'), copied ('laws.toStringS'), compared ('laws.eqStringS'). No condition but the lists' lengths. -/
import Derived.Test.YteefkgnojdgehaaOpenI
import Derived.SliceStrings
namespace Go.Proofs.Yteefkgnojdgehaa
open Go.ChangeShapes Go.WideShapes Go.ChangeAt Go.RowKit Go.Deep Go.Joins

/-- a list of texts in memory -/
def StrSl (w : World) (A : Option Addr) (L : List ByteArray) : Prop :=
  L = [] ∨ ∃ g off, A = some ⟨g, off, none⟩ ∧ g < w.heap.size ∧ ∀ (k : Nat) (h : k < L.length), w.cell? ⟨g, off + k, none⟩ = some (.string L[k])
theorem StrSl.below {w w' : World} {A : Option Addr} {L : List ByteArray} (h : StrSl w A L) (hb : Below w.heap.size w w') : StrSl w' A L := by
  rcases h with h | ⟨g, off, hA, hg, h⟩
  · exact .inl h
  · exact .inr ⟨g, off, hA, Nat.lt_of_lt_of_le hg hb.size, fun k hk => by rw [(bcell hb).1 g _ hg]; exact h k hk⟩
theorem StrSl.some {w : World} {A : Option Addr} {L : List ByteArray} (h : StrSl w A L) (h0 : 0 < L.length) : ∃ g off, A = some ⟨g, off, none⟩ ∧ g < w.heap.size ∧ ∀ (k : Nat) (h : k < L.length), w.cell? ⟨g, off + k, none⟩ = some (.string L[k]) := by
  rcases h with h | h
  · subst h; simp at h0
  · exact h
/-- a list of texts of the call's own -/
def OwnT (w : World) (base : Nat) (v : Value) (L : List ByteArray) : Prop := w.ownsRow base 9 1 v L.length (L.map Value.string)
theorem OwnT.lt {w : World} {base : Nat} {v : Value} {L : List ByteArray} (h : OwnT w base v L) : ∀ k, v.ownBlock = Option.some k → base ≤ k ∧ k < w.heap.size := fun k hk => ⟨(World.ownsRow.lt h k hk).1, (World.ownsRow.lt h k hk).2⟩
theorem OwnT.len {w : World} {base : Nat} {v : Value} {L : List ByteArray} (h : OwnT w base v L) : ∃ A c, v = .slice A L.length c := own_any h
theorem OwnT.below {w w' : World} {base : Nat} {v : Value} {L : List ByteArray} (h : OwnT w base v L) (hb : Below w.heap.size w w') : OwnT w' base v L := own_below h hb
theorem getElem?_strs (L : List ByteArray) (k : Nat) (h : k < L.length) : (L.map Value.string)[k]? = some (.string L[k]) := by
  rw [List.getElem?_map, List.getElem?_eq_getElem h]; rfl
theorem StrSl.of_own {w : World} {base : Nat} {n c : Nat} {A : Option Addr} {L : List ByteArray} (h : OwnT w base (.slice A n c) L) : StrSl w A L := by
  rcases Nat.eq_zero_or_pos L.length with h0 | h0
  · exact .inl (List.eq_nil_of_length_eq_zero h0)
  · obtain ⟨g, cap, hV, hgb, hgl⟩ := own_some h h0
    injection hV with hA hn hc
    subst hA hn
    exact .inr ⟨g, 0, rfl, hgl, fun k hk => by rw [Nat.zero_add, World.ownsRow.cellAt h k (by omega), getElem?_strs L k hk]⟩

section
variable {H : Type} {enc : TypeId × Value → H} {w : World} {base : Nat} {spare : Nat → Bool} {held : Bool}
theorem cells_str : Try.prog.cellsOf 9 = 1 := by kernel_rfl
set_option maxRecDepth 20000 in
theorem open_strsl {r : Reach} {b0 : Nat} {v : Value} {d : DataW H} {p : List MemPlace} (hv : Value.okWide Try.prog w r b0 27 v) (h : DataW.Trod enc Try.prog w base spare held 27 v d p) :
    ∃ (A : Option Addr) (cap : Nat) (L : List ByteArray), v = .slice A L.length cap ∧ StrSl w A L ∧ (∀ s ∈ L, s.size ≤ maxLen) ∧ L.length ≤ cap ∧ L.length ≤ maxLen := by
  obtain ⟨a0, len0, cap0, rfl⟩ := okWide_slice Try.underlying27 hv
  obtain ⟨fuel, hf⟩ := h
  rcases Go.ChangeShapes.open_strings Try.underlying27 Try.underlying9 cells_str hf with ⟨hcs, -⟩ | ⟨a, len, cap, zs, hcs, hb, hl, hm, hz, -, hi, hw⟩
  · simp [Value.cells] at hcs
    obtain ⟨rfl, rfl, rfl⟩ := hcs
    exact ⟨none, 0, [], rfl, .inl rfl, (fun k hk => nomatch hk), Nat.le_refl _, Nat.zero_le _⟩
  · simp [Value.cells] at hcs
    obtain ⟨rfl, rfl, rfl⟩ := hcs
    have hzl : len0 ≤ zs.length := by rw [hz]; split <;> omega
    have htl : (zs.take len0).length = len0 := by rw [List.length_take]; omega
    refine ⟨some a, cap0, zs.take len0, by rw [htl], ?_, fun x hx => hw x (List.mem_of_mem_take hx), by omega, by omega⟩
    rcases Nat.eq_zero_or_pos len0 with h0 | h0
    · left; rw [h0]; rfl
    · obtain ⟨b, off, spot⟩ := a
      have h00 := hi 0 (by omega)
      have hspot : spot = none := by simpa [Addr.add] using World.cell?_spot h00
      subst hspot
      refine .inr ⟨b, off, rfl, World.block_lt_of_cell? w _ h00, fun k hk => ?_⟩
      have hkl : k < zs.length := by omega
      have := hi k hkl
      rw [add_plain] at this
      rw [this]
      congr 2
      rw [List.getElem_take, List.getD_eq_getElem?_getD, List.getElem?_eq_getElem hkl]
      rfl
end

/-- how many bytes the texts have -/
def szB : List ByteArray → Nat
  | [] => 0
  | s :: l => s.size + szB l
theorem szB_append (a b : List ByteArray) : szB (a ++ b) = szB a + szB b := by
  induction a with
  | nil => simp [szB]
  | cons x l ih => simp only [List.cons_append, szB, ih]; omega
theorem szB_take {L : List ByteArray} {j : Nat} (h : j < L.length) : szB (L.take (j + 1)) = szB (L.take j) + L[j].size := by
  rw [List.take_succ_eq_append_getElem h, szB_append]; rfl
theorem szB_mem : ∀ {L : List ByteArray} {s : ByteArray}, s ∈ L → s.size ≤ szB L
  | M :: R, s, h => by
    show s.size ≤ M.size + szB R
    rcases List.mem_cons.1 h with rfl | h
    · omega
    · have := szB_mem h; omega
set_option maxHeartbeats 1000000 in
theorem szStringS_any (A : Option Addr) (c : Nat) (L : List ByteArray) (w : World) (hn : L.length ≤ maxLen) (hl : ∀ s ∈ L, s.size ≤ maxLen) (h : StrSl w A L) :
    Calls Try.prog 16 #[.slice A L.length c, .int .i64 1048576] w fun e w' => ∃ r : Int, e = .returned (.int .i64 r) ∧ (r < 0 ∨ 0 ≤ r ∧ L.length + szB L ≤ 1048576) ∧ w = w' := by
  have hn2 := hn
  unfold maxLen at hn2
  have HL := Lib.hid hl
  clear hl
  by_cases hb : L.length ≤ 1048576
  · rcases Nat.eq_zero_or_pos L.length with h0 | h0
    · obtain rfl : L = [] := List.eq_nil_of_length_eq_zero h0
      clear h h0 hn hb hn2
      go_enter Try.func16, Try.ntmps16
      go_wp2
      refine wp_loop_rounds 1 ?_
      rw [rounds_succ]
      go_wp2
      go_ret
      exact ⟨_, rfl, .inr ⟨by decide, Nat.zero_le _⟩, rfl⟩
    · obtain ⟨g, off, rfl, hg, hat⟩ := h.some h0
      have HAT := Lib.hid hat
      clear hat h
      have hd0 : decide ((1048576 : Int) - (L.length : Int) < 0) = false := decide_eq_false (by omega)
      have hwr0 : IntKind.i64.wrap ((1048576 : Int) - (L.length : Int)) = (1048576 : Int) - (L.length : Int) := IntWalk.i64_in _ (by omega)
      go_enter Try.func16, Try.ntmps16
      go_wp2
      go_loop [1, 5] (fun l i => ∃ (j : Nat) (r : Int), j ≤ L.length ∧ i = .int .i64 j ∧ l = .int .i64 r ∧ 0 ≤ r ∧ r = 1048576 - (L.length : Int) - (szB (L.take j) : Nat)) (fun _ i => L.length - (intOf i).toNat)
      case atStart => exact ⟨0, 1048576 - (L.length : Int), Nat.zero_le _, rfl, rfl, by omega, by rw [List.take_zero]; show _ = _ - ((0 : Nat) : Int); omega⟩
      case round =>
        clear hd0 hwr0
        obtain ⟨j, r, hj, rfl, rfl, hr0, hr⟩ := hrel
        by_cases hlt : j < L.length
        · have k1 := HAT.out j hlt
          have hm := HL.out L[j] (List.getElem_mem _)
          unfold maxLen at hm
          have hs := szB_take hlt
          obtain ⟨s, hnn⟩ : ∃ s, s = L[j] := ⟨_, rfl⟩
          rw [← hnn] at k1 hm hs
          by_cases hx : r < (s.size : Int)
          · have hd : decide (r - (s.size : Int) < 0) = true := decide_eq_true (by omega)
            have hwr : IntKind.i64.wrap (r - (s.size : Int)) = r - (s.size : Int) := IntWalk.i64_in _ (by omega)
            clear hr hs hnn
            go_wp2
            go_ret
            exact ⟨_, rfl, .inl (by decide), rfl⟩
          · have hd : decide (r - (s.size : Int) < 0) = false := decide_eq_false (by omega)
            have hwr : IntKind.i64.wrap (r - (s.size : Int)) = r - (s.size : Int) := IntWalk.i64_in _ (by omega)
            have HQ : Hid (r - (s.size : Int) = 1048576 - (L.length : Int) - (szB (L.take (j + 1)) : Nat)) := Lib.hid (by rw [hs]; omega)
            clear hr hs hnn
            go_wp2
            go_round
            case rel => exact ⟨j + 1, r - (s.size : Int), by omega, by go_num, rfl, by omega, HQ.out⟩
            case measure => simp [intOf]; omega
        · obtain rfl : j = L.length := by omega
          have HR : Hid (0 ≤ r ∧ L.length + szB L ≤ 1048576) := Lib.hid ⟨hr0, by rw [List.take_length] at hr; omega⟩
          clear hr
          go_wp2
          go_ret
          exact ⟨_, rfl, .inr HR.out, rfl⟩
  · have hd0 : decide ((1048576 : Int) - (L.length : Int) < 0) = true := decide_eq_true (by omega)
    have hwr0 : IntKind.i64.wrap ((1048576 : Int) - (L.length : Int)) = (1048576 : Int) - (L.length : Int) := IntWalk.i64_in _ (by omega)
    clear h
    go_enter Try.func16, Try.ntmps16
    go_wp2
    go_ret
    exact ⟨_, rfl, .inl (by decide), rfl⟩
theorem info_text : (Try.prog.info? 9).map (fun i => (i.zero, i.size, i.bytes)) = some (some (.string ⟨#[]⟩), 1, 16) := by kernel_rfl
set_option maxHeartbeats 1000000 in
theorem toStringS_any (A : Option Addr) (cap : Nat) (L : List ByteArray) (w : World) (hn : L.length ≤ 1048576) (h : StrSl w A L) :
    Calls Try.prog 18 #[.slice A L.length cap] w fun e w' => e = .returned (.slice (some ⟨w.heap.size, 0, none⟩) L.length L.length) ∧ OwnT w' w.heap.size (.slice (some ⟨w.heap.size, 0, none⟩) L.length L.length) L ∧ Below w.heap.size w w' := by
  obtain ⟨i0, hi, hz0, hz1, hz2⟩ := info_parts info_text
  rcases Nat.eq_zero_or_pos L.length with h0 | h0
  · obtain rfl : L = [] := List.eq_nil_of_length_eq_zero h0
    clear h hn h0
    go_enter Try.func18, Try.ntmps18
    go_wp2_with (at_make; refine wpList_make_full _ rfl (.tmp 6) (.tmp 6) _ rfl w.heap.size 9 i0 _ 1 Try.underlying27 hi hz0 hz1 .i64 .i64 _ _ 0 rfl rfl rfl rfl (by rw [hz2]; omega) (Nat.zero_le _) (Nat.le_refl _) ?_; intro w1 hown hgrow)
    have he := List.eq_nil_of_length_eq_zero (hown.1.trans (Nat.zero_mul 1))
    rw [he] at hown
    clear he
    have HF : Hid (OwnT w1 w.heap.size (.slice (some ⟨w.heap.size, 0, none⟩) 0 0) []) := Lib.hid hown
    have HG := Lib.hid ((Below.refl _ _).grown hgrow (Nat.le_refl _) (fun k hk => by cases hk))
    clear hown hgrow
    refine wp_loop_rounds 1 ?_
    rw [rounds_succ]
    go_wp2
    go_ret
    exact ⟨rfl, HF.out, HG.out⟩
  · obtain ⟨g, off, rfl, hg, hat⟩ := h.some h0
    clear h
    have HAT := Lib.hid hat
    clear hat
    go_enter Try.func18, Try.ntmps18
    go_wp2_with (at_make; refine wpList_make_full _ rfl (.tmp 6) (.tmp 6) _ rfl w.heap.size 9 i0 _ 1 Try.underlying27 hi hz0 hz1 .i64 .i64 _ _ L.length rfl rfl rfl rfl (by rw [hz2]; omega) (by unfold maxLen; omega) (Nat.le_refl _) ?_; intro w1 hown hgrow)
    have HF : Hid (Filled w w.heap.size 9 1 (.slice (some ⟨w.heap.size, 0, none⟩) L.length L.length) L.length (L.map Value.string) 0 w1) := Lib.hid (Filled.made hown ((Below.refl _ _).grown hgrow (Nat.le_refl _) (fun k hk => by cases hk)))
    clear hown hgrow
    go_loopw [4] (fun i wr => ∃ j : Nat, j ≤ L.length ∧ i = .int .i64 j ∧ Filled w w.heap.size 9 1 (.slice (some ⟨w.heap.size, 0, none⟩) L.length L.length) L.length (L.map Value.string) j wr) (fun i _ => L.length - (intOf i).toNat)
    case atStart => exact ⟨0, Nat.zero_le _, rfl, HF.out⟩
    case round =>
      obtain ⟨j, hj, rfl, hf⟩ := hrel
      have HF1 := Lib.hid hf
      clear hf
      by_cases hlt : j < L.length
      · have c1 := ((bcell HF1.out.below0).1 g (off + j) hg).trans (HAT.out j hlt)
        have K1 := Lib.hid (getElem?_strs L j hlt)
        obtain ⟨⟨u1, d1⟩, f1⟩ := HF1.out.cell j (by omega)
        go_wp2
        go_roundw
        case rel => exact ⟨j + 1, by omega, by go_num, HF1.out.step (by omega) (Nat.le_refl _) K1.out⟩
        case measure => simp [intOf]; omega
      · obtain rfl : j = L.length := by omega
        have HA := Lib.hid (Filled.all (by rw [Nat.mul_one]; exact HF1.out) (by rw [List.length_map, Nat.mul_one]))
        go_wp2
        go_ret
        exact ⟨rfl, HA.out⟩
set_option maxHeartbeats 400000 in
theorem eqStrs_sl (A1 A2 : Option Addr) (c1 c2 : Nat) (zs : List ByteArray) (w : World) (hm : zs.length ≤ 1048576) (h1 : StrSl w A1 zs) (h2 : StrSl w A2 zs) :
    Calls Try.prog 20 #[.slice A1 zs.length c1, .slice A2 zs.length c2] w fun e w' => e = .returned (.bool true) ∧ Below w.heap.size w w' := by
  rcases Nat.eq_zero_or_pos zs.length with h0 | h0
  · rw [h0]
    clear h1 h2 h0 hm
    go_enter Try.func20, Try.ntmps20
    go_wp2
    refine wp_loop_rounds 1 ?_
    rw [rounds_succ]
    go_wp2
    go_ret
    exact ⟨rfl, Below.refl _ _⟩
  · obtain ⟨g1, o1, rfl, hg1, at1⟩ := h1.some h0
    obtain ⟨g2, o2, rfl, hg2, at2⟩ := h2.some h0
    have H1 := Lib.hid at1
    have H2 := Lib.hid at2
    clear h1 h2 at1 at2
    go_enter Try.func20, Try.ntmps20
    go_wp2
    go_loopw [5] (fun i wr => ∃ k d : Nat, k ≤ zs.length ∧ i = .int .i64 k ∧ wr = w.drewN d) (fun i _ => zs.length - (intOf i).toNat)
    case atStart => exact ⟨0, 0, Nat.zero_le _, rfl, rfl⟩
    case round =>
      obtain ⟨k, d, hk, rfl, rfl⟩ := hrel
      by_cases hlt : k < zs.length
      · have e1 := H1.out k hlt
        have e2 := H2.out k hlt
        have hk0 : (0 : Int) ≤ (k : Int) := by omega
        have hk1 : (k : Int) < (zs.length : Int) := by omega
        go_wp2
        go_quiet (fail)
        go_wp2
        go_roundw
        case rel => exact ⟨k + 1, _, by omega, by go_num, rfl⟩
        case measure => simp [intOf]; omega
      · go_wp2
        go_ret
        exact ⟨rfl, below_drewN (Below.refl _ _) _⟩
theorem eqStrs_own {b1 b2 : Nat} {v1 v2 : Value} {zs : List ByteArray} {w : World} (hm : zs.length ≤ 1048576) (h1 : OwnT w b1 v1 zs) (h2 : OwnT w b2 v2 zs) :
    Calls Try.prog 20 #[v1, v2] w fun e w' => e = .returned (.bool true) ∧ Below w.heap.size w w' := by
  obtain ⟨A1, c1, rfl⟩ := h1.len
  obtain ⟨A2, c2, rfl⟩ := h2.len
  exact eqStrs_sl A1 A2 c1 c2 zs w hm (StrSl.of_own h1) (StrSl.of_own h2)
end Go.Proofs.Yteefkgnojdgehaa
