/- IdlePatches: the program. No condition but the lengths. -/
import Derived.Test.YtfickmbfbmbjcaaCover4
import Derived.Test.YtfickmbfbmbjcaaConcat2
namespace Go.Proofs.Ytfickmbfbmbjcaa
open Go.RowKit

/-- all lists but one -/
def dropS (LL : List (List Int)) (j : Nat) : List (List Int) := LL.take j ++ LL.drop (j + 1)
def idB (s : ByteArray) (LL : List (List Int)) (j : Nat) : Bool := covers s (dropS LL j)
def idJ (s : ByteArray) (LL : List (List Int)) : Nat → List Int
  | 0 => []
  | j + 1 => if idB s LL j = true then idJ s LL j ++ [(j : Int)] else idJ s LL j
theorem idJ_yes {s : ByteArray} {LL : List (List Int)} {j : Nat} (h : idB s LL j = true) : idJ s LL (j + 1) = idJ s LL j ++ [(j : Int)] := by
  show (if _ then _ else _) = _; rw [if_pos h]
theorem idJ_no {s : ByteArray} {LL : List (List Int)} {j : Nat} (h : idB s LL j = false) : idJ s LL (j + 1) = idJ s LL j := by
  show (if _ then _ else _) = _; rw [if_neg (by rw [h]; decide)]
theorem idJ_len (s : ByteArray) (LL : List (List Int)) : ∀ j, (idJ s LL j).length ≤ j
  | 0 => Nat.le_refl _
  | j + 1 => by
    have := idJ_len s LL j
    cases h : idB s LL j
    · rw [idJ_no h]; omega
    · rw [idJ_yes h, List.length_append, List.length_singleton]; omega
def idR (s : ByteArray) (LL : List (List Int)) : List Int := if acB s LL = true then idJ s LL LL.length else []
theorem acB_at {s : ByteArray} {LL : List (List Int)} (h : acB s LL = true) : okYard s = true ∧ LL.length ≤ 10 ∧ areP s LL = true ∧ LL.all (okPt s.size) = true := by
  unfold acB at h
  rw [Bool.and_eq_true] at h
  obtain ⟨h1, h2⟩ := h
  unfold okAC at h1
  rw [Bool.and_eq_true, decide_eq_true_iff] at h1
  have h3 := h2
  unfold areP at h3
  rw [Bool.and_eq_true] at h3
  exact ⟨h1.1, h1.2, h2, h3.1⟩
theorem idR_len (s : ByteArray) (LL : List (List Int)) : (idR s LL).length ≤ 1048576 := by
  unfold idR
  split
  · next h =>
    have := (acB_at h).2.1
    have := idJ_len s LL LL.length
    omega
  · exact Nat.zero_le _
theorem dropS_mem {LL : List (List Int)} {j : Nat} : ∀ L ∈ dropS LL j, L ∈ LL := fun L h => by
  unfold dropS at h
  rcases List.mem_append.1 h with h | h
  · exact List.mem_of_mem_take h
  · exact List.mem_of_mem_drop h
theorem dropS_len {LL : List (List Int)} {j : Nat} (h : j < LL.length) : (dropS LL j).length = j + (LL.length - (j + 1)) := by
  unfold dropS; rw [List.length_append, List.length_take, List.length_drop]; omega
theorem dropS_map (LL : List (List Int)) (j : Nat) : (dropS LL j).map ptOf = (LL.map ptOf).take j ++ (LL.map ptOf).drop (j + 1) := by
  unfold dropS; rw [List.map_append, List.map_take, List.map_drop]

theorem elem_sts : Try.prog.underlying 69 = some (.slice (Try.prog.elem 69)) := by kernel_rfl
theorem size_sts (W : World) : (sizeOf (Try.prog.elem 69)).run Try.prog W = .ok 2 W := by kernel_rfl
/-- 'list[l:]' -/
theorem slice_fromP (g off n cap l : Nat) (hl : l ≤ n) (hn : n ≤ cap) : ∃ ad : Addr, (∀ W, (Instr.slice 69 (.slice (some ⟨g, off, none⟩) n cap) (some (.int .i64 (l : Int))) none none).run Try.prog W = .ok (.slice (some ad) (n - l) (cap - l)) W) ∧ (l < n → ad = (⟨g, off, none⟩ : Addr).add (l * 2)) := by
  have key : ∀ W, (Instr.slice 69 (.slice (some ⟨g, off, none⟩) n cap) (some (.int .i64 (l : Int))) none none).run Try.prog W = .ok (sliced (some ⟨g, off, none⟩) l n cap 2) W := fun W => by
    have e := run_slice_l (P := Try.prog) (w := W) 69 (some ⟨g, off, none⟩) n cap elem_sts .i64 (l : Int) (by omega) (by omega)
    rw [e, size_sts]
    rfl
  unfold sliced at key
  by_cases h : cap = l
  · rw [if_pos h] at key
    exact ⟨_, key, fun h2 => by omega⟩
  · rw [if_neg h] at key
    exact ⟨_, key, fun _ => rfl⟩
/-- 'list[:h]' -/
theorem slice_toP (g off n cap h : Nat) (hl : h ≤ n) (hn : n ≤ cap) : ∃ ad : Addr, (∀ W, (Instr.slice 69 (.slice (some ⟨g, off, none⟩) n cap) none (some (.int .i64 (h : Int))) none).run Try.prog W = .ok (.slice (some ad) h cap) W) ∧ ad = ⟨g, off, none⟩ := by
  have key : ∀ W, (Instr.slice 69 (.slice (some ⟨g, off, none⟩) n cap) none (some (.int .i64 (h : Int))) none).run Try.prog W = .ok (sliced (some ⟨g, off, none⟩) 0 h cap 2) W := fun W => by
    have e := run_slice_h (P := Try.prog) (w := W) 69 (some ⟨g, off, none⟩) n cap elem_sts .i64 (h : Int) (by omega) (by omega)
    rw [e, size_sts]
    rfl
  unfold sliced at key
  refine ⟨_, fun W => ?_, rfl⟩
  rw [key W]
  split
  · rfl
  · rfl
theorem cells_takeP {W : World} {base g cap : Nat} {P : List (Nat × Nat)} (h : OwnP W base (.slice (some ⟨g, 0, none⟩) P.length cap) P) (j : Nat) : ∀ i u, (pairC (P.take j))[i]? = some u → W.cell? ((⟨g, 0, none⟩ : Addr).add i) = some u := fun i u hu => by
  have hi := (List.getElem?_eq_some_iff.1 hu).1
  have e : pairC P = pairC (P.take j) ++ pairC (P.drop j) := by rw [← pairC_app, List.take_append_drop]
  have e2 : (pairC P)[i]? = some u := by rw [e, List.getElem?_append_left hi]; exact hu
  have hl := pairC_len P
  have hi2 := (List.getElem?_eq_some_iff.1 e2).1
  have h' : W.ownsRow base 65 2 (.slice (some ⟨g, 0, none⟩) P.length cap) P.length (pairC P) := h
  rw [add_zero, Nat.zero_add, h'.cellAt i (by omega), e2]
theorem cells_dropP {W : World} {base g cap : Nat} {P : List (Nat × Nat)} (h : OwnP W base (.slice (some ⟨g, 0, none⟩) P.length cap) P) (j : Nat) (hj : j ≤ P.length) : ∀ i u, (pairC (P.drop j))[i]? = some u → W.cell? (((⟨g, 0, none⟩ : Addr).add (j * 2)).add i) = some u := fun i u hu => by
  have e : pairC P = pairC (P.take j) ++ pairC (P.drop j) := by rw [← pairC_app, List.take_append_drop]
  have el : (pairC (P.take j)).length = j * 2 := by rw [pairC_len, List.length_take, Nat.min_eq_left hj]
  have e2 : (pairC P)[j * 2 + i]? = some u := by rw [e, List.getElem?_append_right (by omega), el, show j * 2 + i - j * 2 = i by omega]; exact hu
  have hl := pairC_len P
  have hi2 := (List.getElem?_eq_some_iff.1 e2).1
  have h' : W.ownsRow base 65 2 (.slice (some ⟨g, 0, none⟩) P.length cap) P.length (pairC P) := h
  rw [add_zero, add_zero, Nat.zero_add, h'.cellAt (j * 2 + i) (by omega), e2]
theorem ownP_cap {W : World} {base g n cap : Nat} {P : List (Nat × Nat)} (h : OwnP W base (.slice (some ⟨g, 0, none⟩) n cap) P) : n = P.length ∧ n ≤ cap := by
  rcases h.2 with ⟨hv, _⟩ | ⟨g', cap', cur, hv, _, _, h3, _⟩
  · cases hv
  · injection hv with h1 h2 h4
    subst h2 h4
    exact ⟨rfl, h3⟩
theorem two_slices (w : World) (x y : Value) (t : TypeId) : (w.alloc (.cells #[x, y] t)).cell? ⟨w.heap.size, 0, none⟩ = some x ∧ (w.alloc (.cells #[x, y] t)).cell? ⟨w.heap.size, 1, none⟩ = some y := by
  constructor
  · rw [cell_of_row _ w.heap.size 0 _ t (0, 0) (heap_alloc_new w _)]; rfl
  · rw [cell_of_row _ w.heap.size 1 _ t (0, 0) (heap_alloc_new w _)]; rfl

set_option maxRecDepth 20000 in
set_option maxHeartbeats 8000000 in
theorem implIdlePatches_any (s0 : ByteArray) (A1 : Option Addr) (c1 : Nat) (L1 : List (List Int)) (w : World) (hs : s0.size ≤ maxLen) (l1 : SSok L1) (hwf : ∀ L ∈ L1, WfL L) (hc : L1.length ≤ c1) (h1 : IntSS w A1 L1) :
    Calls Try.prog 61 #[.string s0, .slice A1 L1.length c1] w fun e w' => ∃ v, e = .returned (.tuple #[v, .bool (acB s0 L1)]) ∧ OwnInts w' w.heap.size 3 v (idR s0 L1) ∧ Below w.heap.size w w' := by
  unfold idR
  obtain ⟨i0, hi, hz0, hz1, hz2⟩ := info_parts info_int
  have HAC := Lib.hid (implAreCovering_any s0 A1 c1 L1 w hs l1 hwf hc h1)
  cases h : acB s0 L1
  · rw [h] at HAC
    rw [if_neg (by decide)]
    clear h h1
    obtain ⟨q, hq⟩ : ∃ q, q = okAC s0 L1 := ⟨_, rfl⟩
    rw [← hq] at HAC
    clear hq
    cases q
    · go_enter Try.func61, Try.ntmps61
      go_wp2_with (go_at_call 55; refine HAC.out.mono ?_; rintro e w1 ⟨rfl, hb1⟩)
      go_ret2
      exact ⟨_, rfl, OwnInts.nil _ _ _, hb1⟩
    · go_enter Try.func61, Try.ntmps61
      go_wp2_with (go_at_call 55; refine HAC.out.mono ?_; rintro e w1 ⟨rfl, hb1⟩)
      go_ret2
      exact ⟨_, rfl, OwnInts.nil _ _ _, hb1⟩
  · rw [h] at HAC
    rw [if_pos rfl]
    obtain ⟨hy, hl, hare, hall⟩ := acB_at h
    have hz := okYard_size hy
    have hok : okAC s0 L1 = true := by unfold okAC; rw [hy, decide_eq_true hl]; rfl
    rw [hok] at HAC
    have HS := Lib.hid fun W hW => stretchesOf_any s0 A1 c1 L1 W hz.2 (by omega) l1.2.1 hW
    rw [hall] at HS
    have HSS := Lib.hid h1
    have hPl : (L1.map ptOf).length = L1.length := List.length_map _
    have hP : ∀ p ∈ L1.map ptOf, p.1 ≤ p.2 ∧ p.2 < s0.size := fun p hp => by
      obtain ⟨L, hL, rfl⟩ := List.mem_map.1 hp
      obtain ⟨a, b, rfl, h1, h2⟩ := okPt_two (all_mem hall L hL)
      exact ⟨by show (a : Int).toNat ≤ (b : Int).toNat; omega, by show (b : Int).toNat < _; omega⟩
    have HMM : Hid (∀ (j : Nat) (V : Value) (W : World) (base : Nat), j < L1.length → OwnP W base V ((L1.map ptOf).take j ++ (L1.map ptOf).drop (j + 1)) → Calls Try.prog 97 #[.string s0, V] W fun e w' => e = .returned (.bool (idB s0 L1 j)) ∧ Below W.heap.size W w') := Lib.hid fun j V W base hj ho => by
      have h3 := isMended_any s0 V _ W base hz.2 (by rw [List.length_append, List.length_take, List.length_drop]; omega) (fun p hp => by
        rcases List.mem_append.1 hp with hp | hp
        · exact hP p (List.mem_of_mem_take hp)
        · exact hP p (List.mem_of_mem_drop hp)) ho
      rw [← dropS_map, mended_covers fun L hL => all_mem hall L (dropS_mem L hL)] at h3
      exact h3
    obtain ⟨P, hPP⟩ : ∃ P, P = L1.map ptOf := ⟨_, rfl⟩
    rw [← hPP] at HS HMM hPl
    have hP10 : P.length ≤ 10 := by omega
    have HPL := Lib.hid hPl
    clear hPl
    clear h h1 hy hare hall hP hPP hok hwf hc
    go_enter Try.func61, Try.ntmps61
    go_wp2_with (first
      | (go_at_call 55; refine HAC.out.mono ?_; rintro e w1 ⟨rfl, hb1⟩)
      | (go_at_call 96; refine (HS.out _ (HSS.out.below hb1)).mono ?_; rintro e w2 ⟨v, rfl, ho, -, hb2⟩; have ho2 := ho (by trivial); obtain ⟨AV, cV, rfl⟩ := own_any ho2))
    have HO := Lib.hid ho2
    have HB := Lib.hid (below_next hb1 hb2)
    clear ho ho2 hb1 hb2 HS HAC HSS
    go_loopw [10, 32] (fun v i wr => ∃ j : Nat, j ≤ P.length ∧ i = .int .i64 j ∧ OwnInts wr w2.heap.size 3 v (idJ s0 L1 j) ∧ Below w2.heap.size w2 wr) (fun _ i _ => P.length - (intOf i).toNat)
    case atStart => exact ⟨0, Nat.zero_le _, rfl, OwnInts.nil _ _ _, Below.refl _ _⟩
    case round =>
      obtain ⟨j, hj, rfl, hown, hb⟩ := hrel
      have HI := Lib.hid hown
      have HBR := Lib.hid hb
      have hbs := hb.size
      clear hown
      by_cases hlt : j < P.length
      · obtain ⟨g, c', hV, hgb, hgl⟩ := own_some HO.out (by omega)
        injection hV with hV1 hV2 hV3
        subst hV1
        obtain ⟨-, hcap⟩ := ownP_cap HO.out
        have HOR := Lib.hid fun W (hW : Below wr.heap.size wr W) => (own_below (own_below HO.out hb) hW : OwnP W w1.heap.size (.slice (some ⟨g, 0, none⟩) P.length cV) P)
        obtain ⟨ad3, h3, hd3⟩ := slice_toP g 0 P.length cV j hj hcap
        obtain ⟨ad8, h8, hd8⟩ := slice_fromP g 0 P.length cV (j + 1) hlt hcap
        rw [show ((j + 1 : Nat) : Int) = (j : Int) + 1 by omega] at h8
        have HL3 : (P.take j).length = j := by rw [List.length_take]; omega
        have HL8 : (P.drop (j + 1)).length = P.length - (j + 1) := List.length_drop ..
        have HW0 := below_new wr (.cells #[.slice (some ad3) j cV, .slice (some ad8) (P.length - (j + 1)) (cV - (j + 1))] 69)
        have HTS := two_slices wr (.slice (some ad3) j cV) (.slice (some ad8) (P.length - (j + 1)) (cV - (j + 1))) 69
        have HCC := Lib.hid (concat_any wr.heap.size ad3 ad8 cV (cV - (j + 1)) (P.take j) (P.drop (j + 1)) (wr.alloc (.cells #[.slice (some ad3) j cV, .slice (some ad8) (P.length - (j + 1)) (cV - (j + 1))] 69)).drew (by omega) (by omega) (by simp [World.drew]) (by rw [HL3]; exact HTS.1) (by rw [HL8]; exact HTS.2)
          (fun W hW i u hu => by rw [hd3]; exact cells_takeP (HOR.out W (below_nextN HW0.drew HW0.drew.size hW)) j i u hu)
          (fun W hW i u hu => by
            rcases Nat.lt_or_ge (j + 1) P.length with l | l
            · rw [hd8 l]; exact cells_dropP (HOR.out W (below_nextN HW0.drew HW0.drew.size hW)) (j + 1) hlt i u hu
            · rw [List.drop_eq_nil_of_le l] at hu; cases hu))
        have HWB := Lib.hid HW0.drew
        have HMJ := Lib.hid fun V W base ho => HMM.out j V W base (by rw [← HPL.out]; exact hlt) ho
        have hwr : IntKind.i64.wrap ((j : Int) + 1) = (j : Int) + 1 := IntWalk.i64_in _ (by omega)
        clear hd3 hd8 HTS HW0 HL3 HL8 hV2 hV3 HOR
        cases hn : idB s0 L1 j
        · rw [hn] at HMJ
          have HN := Lib.hid (idJ_no hn)
          clear hn
          go_wp2
          go_region_held3 (fun _ => True) (trivial) (first
            | (go_at_call 103; refine HCC.out.mono ?_; rintro e w5 ⟨v5, rfl, ho5, hb5⟩; have HO5 := Lib.hid ho5; have HB5 := Lib.hid (below_nextN HWB.out HWB.out.size hb5); clear ho5 hb5)
            | (go_at_call 97; refine (HMJ.out _ _ _ HO5.out).mono ?_; rintro e w6 ⟨rfl, hb6⟩; have HB6 := Lib.hid (below_nextN HB5.out HB5.out.size hb6); clear hb6))
          go_wp2
          go_roundw
          case rel => exact ⟨j + 1, by omega, by go_num, by rw [HN.out]; exact OwnInts.below HI.out HB6.out, below_nextN HBR.out hbs HB6.out⟩
          case measure => simp [intOf]; omega
        · rw [hn] at HMJ
          have HN := Lib.hid (idJ_yes hn)
          have hlen := idJ_len s0 L1 j
          clear hn
          go_wp2
          go_region_held3 (fun _ => True) (trivial) (first
            | (go_at_call 103; refine HCC.out.mono ?_; rintro e w5 ⟨v5, rfl, ho5, hb5⟩; have HO5 := Lib.hid ho5; have HB5 := Lib.hid (below_nextN HWB.out HWB.out.size hb5); clear ho5 hb5)
            | (go_at_call 97; refine (HMJ.out _ _ _ HO5.out).mono ?_; rintro e w6 ⟨rfl, hb6⟩; have HB6 := Lib.hid (below_nextN HB5.out HB5.out.size hb6); clear hb6))
          have HI6 := Lib.hid (OwnInts.below HI.out HB6.out)
          have HBS6 := Lib.hid (below_nextN HBR.out hbs HB6.out)
          have hbs6 := HBS6.out.size
          go_wp2_with (at_builtin; refine wpList_append_own _ rfl (.tmp 46) (.tmp 48) _ rfl w2.heap.size 3 i0 _ 1 8 Try.underlying23 hi hz0 hz1 hz2 rfl (by decide) _ (idJ s0 L1 j).length ((idJ s0 L1 j).map (Value.int .i64)) rfl (World.ownsRow.alloc HI6.out _) ⟨_, 0, none⟩ 1 1 [.int .i64 (j)] rfl rfl (World.news_of_block (cs := #[.int .i64 (j)]) (t := 3) (fr := (0, 0)) (by first | exact heap_alloc_new _ _ | exact heap_new_set _ _ _ _ _)) (by simp [Value.oneCell']) (by unfold maxLen; omega) (by omega) (by simp; omega) ?_; intro v' w3 hown' hgrow _)
          have HR : Hid (OwnInts w3 w2.heap.size 3 v' (idJ s0 L1 (j + 1))) := Lib.hid (by rw [HN.out]; exact OwnInts.snoc hown')
          have HB3 : Hid (Below w2.heap.size w2 w3) := Lib.hid ((HBS6.out.alloc hbs6 _).grown hgrow (by simp; omega) fun k hk => (World.ownsRow.lt HI6.out k hk).1)
          clear hown' hgrow
          go_wp2
          go_roundw
          case rel => exact ⟨j + 1, by omega, by go_num, HR.out, HB3.out⟩
          case measure => simp [intOf]; omega
      · obtain rfl : j = P.length := by omega
        rw [HPL.out] at HI
        have HBW := Lib.hid HB.out.size
        have hb2 := HBW.out
        go_wp2
        go_ret2
        exact ⟨_, rfl, own_mono HI.out hb2, below_nextN HB.out hb2 HBR.out⟩
end Go.Proofs.Ytfickmbfbmbjcaa
