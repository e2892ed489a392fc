/- IdlePatches: the model. No condition but the lengths. -/
import Derived.Test.YtfickmbfbmbjcaaIdle
import Derived.Test.YtfickmbfbmbjcaaStepApp
namespace Go.Proofs.Ytfickmbfbmbjcaa
open Go.RowKit

/-- cells of a list of lists -/
def RowV (W : World) (us : List Value) (LL : List (List Int)) : Prop := us.length = LL.length ∧ ∀ (k : Nat) (L : List Int), LL[k]? = some L → ∃ B c, us[k]? = some (.slice B L.length c) ∧ IntSl W B L
theorem RowV.below {W W' : World} {us : List Value} {LL : List (List Int)} (h : RowV W us LL) (hb : Below W.heap.size W W') : RowV W' us LL :=
  ⟨h.1, fun k L hL => by obtain ⟨B, c, h1, h2⟩ := h.2 k L hL; exact ⟨B, c, h1, h2.below hb⟩⟩
theorem RowV.drop {W : World} {us : List Value} {LL : List (List Int)} (h : RowV W us LL) (j : Nat) : RowV W (us.take j ++ us.drop (j + 1)) (dropS LL j) := by
  have hl := h.1
  refine ⟨by unfold dropS; simp only [List.length_append, List.length_take, List.length_drop]; omega, fun k L hL => ?_⟩
  unfold dropS at hL
  rcases Nat.lt_or_ge k (LL.take j).length with hk | hk
  · rw [List.getElem?_append_left hk] at hL
    have hk2 := hk
    rw [List.length_take] at hk2
    rw [List.getElem?_take, if_pos (by omega)] at hL
    obtain ⟨B, c, h1, h2⟩ := h.2 k L hL
    refine ⟨B, c, ?_, h2⟩
    rw [List.getElem?_append_left (by rw [List.length_take]; omega), List.getElem?_take, if_pos (by omega)]
    exact h1
  · rw [List.getElem?_append_right hk, List.getElem?_drop] at hL
    obtain ⟨B, c, h1, h2⟩ := h.2 _ L hL
    refine ⟨B, c, ?_, h2⟩
    rw [List.length_take] at hk h1
    rw [List.getElem?_append_right (by rw [List.length_take]; omega), List.getElem?_drop, List.length_take, hl]
    exact h1
theorem intss_vals {w : World} {g off : Nat} {LL : List (List Int)} (h : ∀ (k : Nat) (h : k < LL.length), ∃ B c, w.cell? ⟨g, off + k, none⟩ = some (.slice B LL[k].length c) ∧ IntSl w B LL[k]) :
    ∃ us : List Value, RowV w us LL ∧ ∀ k u, us[k]? = some u → w.cell? ⟨g, off + k, none⟩ = some u := by
  have h' : ∀ k, ∃ u : Value, ∀ (hk : k < LL.length), ∃ B c, u = .slice B LL[k].length c ∧ w.cell? ⟨g, off + k, none⟩ = some u ∧ IntSl w B LL[k] := fun k => by
    by_cases hk : k < LL.length
    · obtain ⟨B, c, h1, h2⟩ := h k hk
      exact ⟨_, fun _ => ⟨B, c, rfl, h1, h2⟩⟩
    · exact ⟨.bool true, fun h => absurd h hk⟩
  obtain ⟨f, hf⟩ : ∃ f : Nat → Value, ∀ k (hk : k < LL.length), ∃ B c, f k = .slice B LL[k].length c ∧ w.cell? ⟨g, off + k, none⟩ = some (f k) ∧ IntSl w B LL[k] := ⟨fun k => Classical.choose (h' k), fun k => Classical.choose_spec (h' k)⟩
  refine ⟨(List.range LL.length).map f, ⟨by simp, fun k L hL => ?_⟩, fun k u hu => ?_⟩
  · obtain ⟨hk, rfl⟩ := List.getElem?_eq_some_iff.1 hL
    obtain ⟨B, c, h1, h2, h3⟩ := hf k hk
    exact ⟨B, c, by rw [List.getElem?_map, List.getElem?_range hk, ← h1]; rfl, h3⟩
  · have hk : k < LL.length := by have := (List.getElem?_eq_some_iff.1 hu).1; simpa using this
    rw [List.getElem?_map, List.getElem?_range hk] at hu
    obtain rfl : f k = u := Option.some.inj hu
    obtain ⟨B, c, h1, h2, h3⟩ := hf k hk
    exact h2
theorem intss_of_row {W : World} {base M c : Nat} {A : Option Addr} {us : List Value} {LL : List (List Int)} (ho : W.ownsRow base 23 1 (.slice A M c) M us) (hv : RowV W us LL) : IntSS W A LL := by
  rcases Nat.eq_zero_or_pos LL.length with h0 | h0
  · exact .inl (List.eq_nil_of_length_eq_zero h0)
  · right
    have hM : us.length = M * 1 := ho.1
    have hl := hv.1
    obtain ⟨g, cap, hV, hgb, hgl⟩ := own_some ho (by omega)
    injection hV with hA hn hc
    subst hA
    refine ⟨g, 0, rfl, hgl, fun k hk => ?_⟩
    obtain ⟨B, c2, h1, h2⟩ := hv.2 k LL[k] (List.getElem?_eq_getElem hk)
    exact ⟨B, c2, by rw [Nat.zero_add, ho.cellAt k (by omega)]; exact h1, h2⟩
theorem RowV.one {W : World} {us : List Value} {LL : List (List Int)} (h : RowV W us LL) : ∀ u ∈ us, u.oneCell' = true := fun u hu => by
  obtain ⟨k, hk, rfl⟩ := List.mem_iff_getElem.1 hu
  obtain ⟨B, c, h1, -⟩ := h.2 k (LL[k]'(by rw [← h.1]; exact hk)) (List.getElem?_eq_getElem _)
  rw [List.getElem?_eq_getElem hk] at h1
  rw [Option.some.inj h1]; rfl

theorem elem_ss : Try.prog.underlying 32 = some (.slice (Try.prog.elem 32)) := by kernel_rfl
theorem size_ss (W : World) : (sizeOf (Try.prog.elem 32)).run Try.prog W = .ok 1 W := by kernel_rfl
/-- 'list[l:]' -/
theorem slice_fromS (g off n cap l : Nat) (hl : l ≤ n) (hn : n ≤ cap) : ∃ ad : Addr, (∀ W, (Instr.slice 32 (.slice (some ⟨g, off, none⟩) n cap) (some (.int .i64 (l : Int))) none none).run Try.prog W = .ok (.slice (some ad) (n - l) (cap - l)) W) ∧ (l < n → ad = (⟨g, off, none⟩ : Addr).add (l * 1)) := by
  have key : ∀ W, (Instr.slice 32 (.slice (some ⟨g, off, none⟩) n cap) (some (.int .i64 (l : Int))) none none).run Try.prog W = .ok (sliced (some ⟨g, off, none⟩) l n cap 1) W := fun W => by
    have e := run_slice_l (P := Try.prog) (w := W) 32 (some ⟨g, off, none⟩) n cap elem_ss .i64 (l : Int) (by omega) (by omega)
    rw [e, size_ss]
    rfl
  unfold sliced at key
  by_cases h : cap = l
  · rw [if_pos h] at key
    exact ⟨_, key, fun h2 => by omega⟩
  · rw [if_neg h] at key
    exact ⟨_, key, fun _ => rfl⟩
/-- 'list[:h]' -/
theorem slice_toS (g off n cap h : Nat) (hl : h ≤ n) (hn : n ≤ cap) : ∃ ad : Addr, (∀ W, (Instr.slice 32 (.slice (some ⟨g, off, none⟩) n cap) none (some (.int .i64 (h : Int))) none).run Try.prog W = .ok (.slice (some ad) h cap) W) ∧ ad = ⟨g, off, none⟩ := by
  have key : ∀ W, (Instr.slice 32 (.slice (some ⟨g, off, none⟩) n cap) none (some (.int .i64 (h : Int))) none).run Try.prog W = .ok (sliced (some ⟨g, off, none⟩) 0 h cap 1) W := fun W => by
    have e := run_slice_h (P := Try.prog) (w := W) 32 (some ⟨g, off, none⟩) n cap elem_ss .i64 (h : Int) (by omega) (by omega)
    rw [e, size_ss]
    rfl
  unfold sliced at key
  refine ⟨_, fun W => ?_, rfl⟩
  rw [key W]
  split
  · rfl
  · rfl

set_option maxRecDepth 20000 in
set_option maxHeartbeats 8000000 in
theorem specIdlePatches_any (s0 : ByteArray) (A1 : Option Addr) (c1 : Nat) (L1 : List (List Int)) (w : World) (hs : s0.size ≤ maxLen) (l1 : SSok L1) (_ : ∀ L ∈ L1, WfL L) (hc : L1.length ≤ c1) (h1 : IntSS w A1 L1) :
    Calls Try.prog 60 #[.string s0, .slice A1 L1.length c1] w fun e w' => ∃ v, e = .returned (.tuple #[v, .bool (acB s0 L1)]) ∧ OwnInts w' w.heap.size 3 v (idR s0 L1) ∧ Below w.heap.size w w' := by
  unfold idR
  obtain ⟨i0, hi, hz0, hz1, hz2⟩ := info_parts info_int
  obtain ⟨i1, hi1, hy0, hy1, hy2⟩ := info_parts info_intsl
  have hl1 := l1.1
  have HY := Lib.hid fun W => reGood_any s0 W hs
  cases h : acB s0 L1
  · rw [if_neg (by decide)]
    cases hy : okYard s0
    · rw [hy] at HY
      clear h hy h1
      go_enter Try.func60, Try.ntmps60
      go_wp2_with (go_at_call 72; refine (HY.out _).mono ?_; rintro e w' ⟨rfl, rfl⟩)
      go_ret2
      exact ⟨_, rfl, OwnInts.nil _ _ _, Below.refl _ _⟩
    · have hz := okYard_size hy
      rw [hy] at HY
      by_cases hk : L1.length ≤ 10
      · have HA := Lib.hid (reAre_any s0 A1 c1 L1 w hz.2 (by omega) l1.2.1 h1)
        have har : areP s0 L1 = false := by unfold acB okAC at h; rw [hy, decide_eq_true hk] at h; exact h
        rw [har] at HA
        clear h hy h1 har
        go_enter Try.func60, Try.ntmps60
        go_wp2_with (first
          | (go_at_call 72; refine (HY.out _).mono ?_; rintro e w' ⟨rfl, rfl⟩)
          | (go_at_call 95; refine HA.out.mono ?_; rintro e w1 ⟨rfl, hb1⟩))
        go_ret2
        exact ⟨_, rfl, OwnInts.nil _ _ _, hb1⟩
      · clear h hy h1
        go_enter Try.func60, Try.ntmps60
        go_wp2_with (go_at_call 72; refine (HY.out _).mono ?_; rintro e w' ⟨rfl, rfl⟩)
        go_ret2
        exact ⟨_, rfl, OwnInts.nil _ _ _, Below.refl _ _⟩
  · rw [if_pos rfl]
    obtain ⟨hy, hl, hare, hall⟩ := acB_at h
    have hz := okYard_size hy
    rw [hy] at HY
    have HA := Lib.hid (reAre_any s0 A1 c1 L1 w hz.2 (by omega) l1.2.1 h1)
    rw [hare] at HA
    have HSS := Lib.hid h1
    have H2 : ∀ j, ∀ L ∈ dropS L1 j, L.length = 2 := fun j L hL => by
      obtain ⟨a, b, rfl, _⟩ := okPt_two (all_mem hall L (dropS_mem L hL)); rfl
    have HRC := Lib.hid fun (j M : Nat) (W : World) (B : Nat) (A : Option Addr) (c : Nat) (us : List Value) (hj : j < L1.length) (hM : (dropS L1 j).length = M) (ho : W.ownsRow B 23 1 (.slice A M c) M us) (hv : RowV W us (dropS L1 j)) =>
      (by rw [← hM] at ho ⊢; exact reCover_any s0 A c (dropS L1 j) W hz.2 (by rw [dropS_len hj]; omega) (H2 j) (intss_of_row ho hv) : Calls Try.prog 102 #[.string s0, .slice A M c] W fun e w' => e = .returned (.bool (idB s0 L1 j)) ∧ Below W.heap.size W w')
    clear h hy hare hall h1 H2
    go_enter Try.func60, Try.ntmps60
    go_wp2_with (first
      | (go_at_call 72; refine (HY.out _).mono ?_; rintro e w' ⟨rfl, rfl⟩)
      | (go_at_call 95; refine HA.out.mono ?_; rintro e w1 ⟨rfl, hb1⟩))
    have HB1 := Lib.hid hb1
    have HS1 := Lib.hid (HSS.out.below hb1)
    clear hb1 HSS
    go_loopw [6, 24] (fun v i wr => ∃ j : Nat, j ≤ L1.length ∧ i = .int .i64 j ∧ OwnInts wr w1.heap.size 3 v (idJ s0 L1 j) ∧ Below w1.heap.size w1 wr) (fun _ i _ => L1.length - (intOf i).toNat)
    case atStart => exact ⟨0, Nat.zero_le _, rfl, OwnInts.nil _ _ _, Below.refl _ _⟩
    case round =>
      obtain ⟨j, hj, rfl, hown, hb⟩ := hrel
      have HI := Lib.hid hown
      have HBR := Lib.hid hb
      have hbs := hb.size
      clear hown
      by_cases hlt : j < L1.length
      · obtain ⟨g, off, rfl, hg, hat⟩ := (HS1.out.below hb).some (by omega)
        obtain ⟨us, hrow, hcell⟩ := intss_vals hat
        have hul : us.length = L1.length := hrow.1
        have HROW := Lib.hid (hrow.drop j)
        have HONE := Lib.hid hrow.one
        obtain ⟨ad3, h3, hd3⟩ := slice_toS g off L1.length c1 j hj hc
        obtain ⟨ad8, h8, hd8⟩ := slice_fromS g off L1.length c1 (j + 1) hlt hc
        rw [show ((j + 1 : Nat) : Int) = (j : Int) + 1 by omega] at h8
        have HC3 : Hid (∀ W, Below wr.heap.size wr W → ∀ i u, (us.take j)[i]? = some u → W.cell? (ad3.add i) = some u) := Lib.hid fun W hW i u hu => by
          rw [List.getElem?_take] at hu
          split at hu
          · rw [hd3, add_zero, (bcell hW).1 g _ hg]; exact hcell i u hu
          · cases hu
        have HC8 : Hid (∀ W, Below wr.heap.size wr W → ∀ i u, (us.drop (j + 1))[i]? = some u → W.cell? (ad8.add i) = some u) := Lib.hid fun W hW i u hu => by
          have hlen := (List.getElem?_eq_some_iff.1 hu).1
          rw [List.length_drop] at hlen
          rw [List.getElem?_drop] at hu
          rw [hd8 (by omega), add_zero, add_zero, (bcell hW).1 g _ hg, Nat.mul_one, Nat.add_assoc]; exact hcell _ u hu
        have HL3 : Hid ((us.take j).length = j * 1) := Lib.hid (by rw [List.length_take]; omega)
        have HL8 : Hid ((us.drop (j + 1)).length = (L1.length - (j + 1)) * 1) := Lib.hid (by rw [List.length_drop, hul, Nat.mul_one])
        obtain ⟨M, hM⟩ : ∃ M, M = (dropS L1 j).length := ⟨_, rfl⟩
        have hM2 : j + (L1.length - (j + 1)) = M := by rw [hM, dropS_len hlt]
        have HRJ := Lib.hid fun W B A c us => HRC.out j M W B A c us hlt hM.symm
        obtain ⟨us3, hus3⟩ : ∃ x, x = us.take j := ⟨_, rfl⟩
        obtain ⟨us8, hus8⟩ : ∃ x, x = us.drop (j + 1) := ⟨_, rfl⟩
        have HO3 : Hid (∀ u ∈ us3, u.oneCell' = true) := Lib.hid fun u hu => HONE.out u (by rw [hus3] at hu; exact List.mem_of_mem_take hu)
        have HO8 : Hid (∀ u ∈ us8, u.oneCell' = true) := Lib.hid fun u hu => HONE.out u (by rw [hus8] at hu; exact List.mem_of_mem_drop hu)
        rw [← hus3] at HROW HC3 HL3
        rw [← hus8] at HROW HC8 HL8
        have HE0 : Hid ((wr.alloc (.cells #[] 23)).ownsRow wr.heap.size 23 1 (.slice (some ⟨wr.heap.size, 0, none⟩) 0 0) 0 []) := Lib.hid ⟨rfl, .inr ⟨wr.heap.size, 0, #[], rfl, Nat.le_refl _, heap_alloc_new _ _, Nat.le_refl _, Nat.zero_le _, rfl, rfl⟩⟩
        have HB0 : Hid (Below wr.heap.size wr (wr.alloc (.cells #[] 23))) := Lib.hid (below_new wr _)
        have hwr : IntKind.i64.wrap ((j : Int) + 1) = (j : Int) + 1 := IntWalk.i64_in _ (by omega)
        clear hd3 hd8 hM hus3 hus8 hrow hcell hat hul HONE
        cases hn : idB s0 L1 j
        · rw [hn] at HRJ
          have HN := Lib.hid (idJ_no hn)
          clear hn
          go_wp2
          go_region_held3 (fun _ => True) (trivial) (first
            | (go_at_call 102; refine (HRJ.out _ _ _ _ _ HO6.out (HROW.out.below HB6.out)).mono ?_; rintro e w7 ⟨rfl, hb7⟩; have HB7 := Lib.hid (below_nextN HB6.out HB6.out.size hb7); clear hb7)
            | (refine step_append_own (by rfl) (.tmp 32) (.tmp 36) _ (by rfl) wr.heap.size 23 i1 _ 1 24 Try.underlying32 hi1 hy0 hy1 hy2 (by rfl) (by decide) (.slice A5 j c5) j us3 (by rfl) HO5.out ad8 (L1.length - (j + 1)) (c1 - (j + 1)) us8 (by rfl) HL8.out (HC8.out _ HB5.out) HO8.out (by unfold maxLen; omega) (by omega) HB5.out.size M hM2 (us3 ++ us8) rfl ?_; intro A6 c6 w6 hown6 hgrow6; have HO6 := Lib.hid hown6; have HB6 := Lib.hid (below_app HB5.out HO5.out hgrow6); clear hown6 hgrow6)
            | (refine step_append_own (by rfl) (.tmp 28) (.tmp 31) _ (by rfl) wr.heap.size 23 i1 _ 1 24 Try.underlying32 hi1 hy0 hy1 hy2 (by rfl) (by decide) (.slice (some ⟨wr.heap.size, 0, none⟩) 0 0) 0 [] (by rfl) (World.ownsRow.drew HE0.out) ad3 j c1 us3 (by rfl) HL3.out (HC3.out _ HB0.out.drew) HO3.out (by unfold maxLen; omega) (by omega) HB0.out.drew.size j (Nat.zero_add j) us3 (List.nil_append _) ?_; intro A5 c5 w5 hown5 hgrow5; have HO5 := Lib.hid hown5; have HB5 := Lib.hid (below_app HB0.out.drew (World.ownsRow.drew HE0.out) hgrow5); clear hown5 hgrow5))
          go_wp2
          go_roundw
          case rel => exact ⟨j + 1, by omega, by go_num, by rw [HN.out]; exact OwnInts.below HI.out HB7.out, below_nextN HBR.out hbs HB7.out⟩
          case measure => simp [intOf]; omega
        · rw [hn] at HRJ
          have HN := Lib.hid (idJ_yes hn)
          have hlen := idJ_len s0 L1 j
          clear hn
          go_wp2
          go_region_held3 (fun _ => True) (trivial) (first
            | (go_at_call 102; refine (HRJ.out _ _ _ _ _ HO6.out (HROW.out.below HB6.out)).mono ?_; rintro e w7 ⟨rfl, hb7⟩; have HB7 := Lib.hid (below_nextN HB6.out HB6.out.size hb7); clear hb7)
            | (refine step_append_own (by rfl) (.tmp 32) (.tmp 36) _ (by rfl) wr.heap.size 23 i1 _ 1 24 Try.underlying32 hi1 hy0 hy1 hy2 (by rfl) (by decide) (.slice A5 j c5) j us3 (by rfl) HO5.out ad8 (L1.length - (j + 1)) (c1 - (j + 1)) us8 (by rfl) HL8.out (HC8.out _ HB5.out) HO8.out (by unfold maxLen; omega) (by omega) HB5.out.size M hM2 (us3 ++ us8) rfl ?_; intro A6 c6 w6 hown6 hgrow6; have HO6 := Lib.hid hown6; have HB6 := Lib.hid (below_app HB5.out HO5.out hgrow6); clear hown6 hgrow6)
            | (refine step_append_own (by rfl) (.tmp 28) (.tmp 31) _ (by rfl) wr.heap.size 23 i1 _ 1 24 Try.underlying32 hi1 hy0 hy1 hy2 (by rfl) (by decide) (.slice (some ⟨wr.heap.size, 0, none⟩) 0 0) 0 [] (by rfl) (World.ownsRow.drew HE0.out) ad3 j c1 us3 (by rfl) HL3.out (HC3.out _ HB0.out.drew) HO3.out (by unfold maxLen; omega) (by omega) HB0.out.drew.size j (Nat.zero_add j) us3 (List.nil_append _) ?_; intro A5 c5 w5 hown5 hgrow5; have HO5 := Lib.hid hown5; have HB5 := Lib.hid (below_app HB0.out.drew (World.ownsRow.drew HE0.out) hgrow5); clear hown5 hgrow5))
          have HI7 := Lib.hid (OwnInts.below HI.out HB7.out)
          have HBS7 := Lib.hid (below_nextN HBR.out hbs HB7.out)
          have hbs7 := HBS7.out.size
          go_wp2_with (at_builtin; refine wpList_append_own _ rfl (.tmp 39) (.tmp 41) _ rfl w1.heap.size 3 i0 _ 1 8 Try.underlying23 hi hz0 hz1 hz2 rfl (by decide) _ (idJ s0 L1 j).length ((idJ s0 L1 j).map (Value.int .i64)) rfl (World.ownsRow.alloc HI7.out _) ⟨_, 0, none⟩ 1 1 [.int .i64 (j)] rfl rfl (World.news_of_block (cs := #[.int .i64 (j)]) (t := 3) (fr := (0, 0)) (by first | exact heap_alloc_new _ _ | exact heap_new_set _ _ _ _ _)) (by simp [Value.oneCell']) (by unfold maxLen; omega) (by omega) (by simp; omega) ?_; intro v' w3 hown' hgrow _)
          have HR : Hid (OwnInts w3 w1.heap.size 3 v' (idJ s0 L1 (j + 1))) := Lib.hid (by rw [HN.out]; exact OwnInts.snoc hown')
          have HB3 : Hid (Below w1.heap.size w1 w3) := Lib.hid ((HBS7.out.alloc hbs7 _).grown hgrow (by simp; omega) fun k hk => (World.ownsRow.lt HI7.out k hk).1)
          clear hown' hgrow
          go_wp2
          go_roundw
          case rel => exact ⟨j + 1, by omega, by go_num, HR.out, HB3.out⟩
          case measure => simp [intOf]; omega
      · obtain rfl : j = L1.length := by omega
        have hb2 := HB1.out.size
        go_wp2
        go_ret2
        exact ⟨_, rfl, own_mono HI.out hb2, below_nextN HB1.out hb2 HBR.out⟩
end Go.Proofs.Ytfickmbfbmbjcaa
