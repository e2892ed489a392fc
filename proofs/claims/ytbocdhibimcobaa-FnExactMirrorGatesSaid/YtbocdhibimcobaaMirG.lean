/- MirrorGates of both sides. No condition but the list's length. -/
import Derived.Test.YtbocdhibimcobaaGOfP
import Derived.Test.YtbocdhibimcobaaRevClone
namespace Go.Proofs.Ytbocdhibimcobaa
open Go.RowKit

def mirGL (n : Int) (L : List Int) : List Int := (L.map fun x => n - x).reverse
def mirG (n : Int) (L : List Int) : List Int := if okGa n L = true then mirGL n L else []
theorem mirG_no {n : Int} {L : List Int} (h : okGa n L = false) : mirG n L = [] := by unfold mirG; rw [h]; rfl
theorem mirG_yes {n : Int} {L : List Int} (h : okGa n L = true) : mirG n L = mirGL n L := by unfold mirG; rw [h]; rfl
theorem mirGL_len (n : Int) (L : List Int) : (mirGL n L).length = L.length := by simp [mirGL]
theorem mirG_len (n : Int) (L : List Int) : (mirG n L).length ≤ 1048576 := by
  unfold mirG
  split
  · next h => have := okGa_at h; rw [mirGL_len]; omega
  · exact Nat.zero_le _
theorem rev_take_sum (P : List Int) (j : Nat) : (P.reverse.take j).sum = P.sum - (P.take (P.length - j)).sum := by
  have h1 := congrArg List.sum (List.take_append_drop (P.length - j) P)
  rw [List.sum_append] at h1
  rw [List.take_reverse, perm_sum (List.reverse_perm _)]
  omega
theorem mir_gop {n : Int} {L : List Int} (hk : okGa n L = true) : okGp (partL n L).reverse = true ∧ gopL (partL n L).reverse = mirGL n L := by
  obtain ⟨hn, hl, hi⟩ := okGa_at hk
  have hs : ((partL n L).reverse).sum = n := by rw [perm_sum (List.reverse_perm _), partL_total]
  have h1 : okGp (partL n L).reverse = true := by
    unfold okGp
    rw [hs, Bool.and_eq_true]
    refine ⟨?_, decide_eq_true hn⟩
    rw [okNums_of (by rw [List.length_reverse, partL_len]; omega)]
    unfold allIn
    rw [List.all_eq_true]
    intro x hx
    have := partL_bd hk x (List.mem_reverse.1 hx)
    exact decide_eq_true (by omega)
  refine ⟨h1, ?_⟩
  rw [gopL_yes h1, List.length_reverse, partL_len, Nat.add_sub_cancel]
  apply List.ext_getElem
  · rw [sumsJ_len, mirGL_len]
  · intro k h2 h3
    have hkl : k < L.length := by rw [sumsJ_len] at h2; exact h2
    have e1 : (sumsJ (partL n L).reverse L.length)[k] = ((partL n L).reverse.take (k + 1)).sum := by simp [sumsJ]
    have e2 : (mirGL n L)[k] = n - L[L.length - 1 - k]'(by omega) := by simp [mirGL]
    have e3 : ((partL n L).take (L.length - k)).sum = bdG n L (L.length - k) := by
      unfold partL
      rw [← List.map_take, List.take_range, Nat.min_eq_left (by omega), partL_sum]
    obtain ⟨p, hp⟩ : ∃ p, L.length - k = p + 1 := ⟨L.length - k - 1, by omega⟩
    have e4 : L.length - 1 - k = p := by omega
    rw [e1, e2, rev_take_sum, partL_total, partL_len, show L.length + 1 - (k + 1) = L.length - k by omega, e3, hp, bdG_at (by omega)]
    congr 2
    exact e4.symm
theorem mirGL_step (n : Int) {L : List Int} {j : Nat} (hj : j < L.length) : mirGL n (L.drop j) = mirGL n (L.drop (j + 1)) ++ [n - L[j]] := by
  unfold mirGL
  rw [List.drop_eq_getElem_cons hj, List.map_cons, List.reverse_cons]

theorem sl_of_len {w : World} {b : Nat} {e : TypeId} {A : Option Addr} {n c : Nat} {L : List Int} (h : OwnInts w b e (.slice A n c) L) (hn : n = L.length) : IntSl w A L := by subst hn; exact IntSl.of_own h
theorem mirroredG_any (A : Option Addr) (c : Nat) (L : List Int) (w : World) (h0 : 0 < L.length) (hl : L.length ≤ 1048576) (h : IntSl w A L) :
    Calls Try.prog 82 #[.slice A L.length c] w fun e w' => ∃ g cap, e = .returned (.slice (some ⟨g, 0, none⟩) L.length cap) ∧ OwnInts w' w.heap.size 3 (.slice (some ⟨g, 0, none⟩) L.length cap) L.reverse ∧ Below w.heap.size w w' := by
  have HC := Lib.hid (clone_any A c L w h0 hl h)
  clear h
  go_enter Try.func82, Try.ntmps82
  go_wp2_with (first
    | (go_at_call 80; refine HC.out.mono ?_; rintro e w1 ⟨g, cap, rfl, hown, hb⟩; have HO := Lib.hid hown; clear hown)
    | (go_at_call 91; refine (reverse_own h0 hl HO.out).mono ?_; rintro e w2 ⟨rfl, hown2, hbb⟩))
  go_ret
  exact ⟨g, cap, rfl, hown2, hbb _ _ (Nat.le_refl _) hb⟩
theorem OwnInts.le_cap {w : World} {b : Nat} {e : TypeId} {A : Option Addr} {n c : Nat} {L : List Int} (h : OwnInts w b e (.slice A n c) L) : n ≤ c := by
  rcases h.2 with ⟨hv, h0⟩ | ⟨g, cap, cur, hv, _, _, h2, _⟩
  · injection hv with _ h1 h2; omega
  · injection hv with _ h3 h4; omega
set_option maxRecDepth 20000 in
set_option maxHeartbeats 2000000 in
theorem implMirrorGates_any (a0 : Int) (A1 : Option Addr) (c1 : Nat) (L1 : List Int) (w : World) (w0 : (Lit.int .i64 a0).wf = true) (l1 : L1.length ≤ 1048576) (f1 : WfL L1) (q1 : L1.length ≤ c1) (h1 : IntSl w A1 L1) :
    Calls Try.prog 51 #[.int .i64 a0, .slice A1 L1.length c1] w fun e w' => ∃ v, e = .returned (.tuple #[v, .bool (okGa a0 L1)]) ∧ OwnInts w' w.heap.size 3 v (mirG a0 L1) ∧ Below w.heap.size w w' := by
  have HP := Lib.hid (implPartsOf_cap a0 A1 c1 L1 w w0 l1 f1 q1 h1)
  cases hk : okGa a0 L1
  · rw [mirG_no hk]
    rw [hk] at HP
    clear hk h1
    go_enter Try.func51, Try.ntmps51
    go_wp2_with fail
    refine HP.out.mono ?_
    rintro e w1 ⟨A, c, c', rfl, -, hb⟩
    go_wp2
    go_ret2
    exact ⟨_, rfl, OwnInts.nil _ _ _, hb⟩
  · rw [mirG_yes hk]
    rw [hk, partsR_yes hk] at HP
    have hpl : (partL a0 L1).length ≤ 11 := by rw [partL_len]; have := (okGa_at hk).2.1; omega
    have hpp : 0 < (partL a0 L1).length := by rw [partL_len]; omega
    have HGP := Lib.hid (mir_gop hk)
    have HWF : Hid (WfL (partL a0 L1).reverse) := Lib.hid fun x hx => by
      have := partL_bd hk x (List.mem_reverse.1 hx)
      have := (okGa_at hk).1
      exact wf64_mk (by omega) (by omega)
    obtain ⟨P, hP⟩ : ∃ P, P = partL a0 L1 := ⟨_, rfl⟩
    rw [← hP] at HP hpl hpp HGP HWF
    clear hk h1 hP
    go_enter Try.func51, Try.ntmps51
    go_wp2_with fail
    refine HP.out.mono ?_
    rintro e w1 ⟨A, c, c', rfl, hown, hb⟩
    have HM := Lib.hid (mirroredG_any A c P w1 hpp (by omega) (IntSl.of_own hown))
    have HB := Lib.hid hb
    clear hown hb
    go_wp2_with fail
    refine HM.out.mono ?_
    rintro e w2 ⟨g, cap, rfl, hown, hb2⟩
    have HB2 := Lib.hid (below_next HB.out hb2)
    have hq : P.length ≤ cap := OwnInts.le_cap hown
    have HGO := Lib.hid (implGatesOfParts_any (some ⟨g, 0, none⟩) cap P.reverse w2 (by rw [List.length_reverse]; omega) HWF.out (by rw [List.length_reverse]; exact hq) (sl_of_len hown List.length_reverse.symm))
    rw [List.length_reverse] at HGO
    clear hown hb2
    go_wp2_with fail
    refine HGO.out.mono ?_
    rintro e w3 ⟨v, rfl, hown, hb3⟩
    have HO3 := Lib.hid hown
    have HB3 := Lib.hid hb3
    clear hown hb3
    go_wp2
    go_ret2
    exact ⟨v, congrArg (fun b => Ending.returned (.tuple #[v, .bool b])) HGP.out.1, by rw [← HGP.out.2]; exact HO3.out.mono HB2.out.size, below_nextN HB2.out HB2.out.size HB3.out⟩
set_option maxRecDepth 20000 in
set_option maxHeartbeats 2000000 in
theorem specMirrorGates_any (a0 : Int) (A1 : Option Addr) (c1 : Nat) (L1 : List Int) (w : World) (_ : (Lit.int .i64 a0).wf = true) (l1 : L1.length ≤ 1048576) (_ : WfL L1) (_ : L1.length ≤ c1) (h1 : IntSl w A1 L1) :
    Calls Try.prog 50 #[.int .i64 a0, .slice A1 L1.length c1] w fun e w' => ∃ v, e = .returned (.tuple #[v, .bool (okGa a0 L1)]) ∧ OwnInts w' w.heap.size 3 v (mirG a0 L1) ∧ Below w.heap.size w w' := by
  have HG := Lib.hid (gaAre_any a0 A1 c1 L1 w l1 h1)
  obtain ⟨i0, hi, hz0, hz1, hz2⟩ := info_parts info_int
  cases hk : okGa a0 L1
  · rw [mirG_no hk]
    rw [hk] at HG
    clear hk h1
    go_enter Try.func50, Try.ntmps50
    go_wp2_with fail
    refine HG.out.mono ?_
    rintro e w1 ⟨rfl, rfl⟩
    go_wp2
    go_ret2
    exact ⟨_, rfl, OwnInts.nil _ _ _, Below.refl _ _⟩
  · rw [mirG_yes hk]
    obtain ⟨hn, hl, hinc⟩ := okGa_at hk
    rw [hk] at HG
    have HSL := Lib.hid h1
    have HMEM := Lib.hid (incF_mem hinc)
    have HRS : Hid (∀ j (hj : j < L1.length), mirGL a0 (L1.drop j) = mirGL a0 (L1.drop (j + 1)) ++ [a0 - L1[j]]) := Lib.hid fun j hj => mirGL_step a0 hj
    have HLN : Hid (∀ j, (mirGL a0 (L1.drop j)).length ≤ 10) := Lib.hid fun j => by rw [mirGL_len, List.length_drop]; omega
    clear hk h1 hinc
    go_enter Try.func50, Try.ntmps50
    go_wp2_with fail
    refine HG.out.mono ?_
    rintro e w1 ⟨rfl, rfl⟩
    go_wp2
    go_loopw [6, 7] (fun v i wr => ∃ j : Nat, j ≤ L1.length ∧ i = .int .i64 ((j : Int) - 1) ∧ OwnInts wr w.heap.size 3 v (mirGL a0 (L1.drop j)) ∧ Below w.heap.size w wr) (fun _ i _ => (intOf i + 1).toNat)
    case atStart => exact ⟨L1.length, Nat.le_refl _, rfl, by rw [List.drop_length]; exact OwnInts.nil _ _ _, Below.refl _ _⟩
    case round =>
      obtain ⟨j, hj, rfl, hown, hb⟩ := hrel
      have HO := Lib.hid hown
      clear hown
      rcases Nat.eq_zero_or_pos j with hz | hz
      · subst hz
        go_wp2
        go_ret2
        exact ⟨_, rfl, by have := HO.out; rwa [List.drop_zero] at this, hb⟩
      · obtain ⟨p, rfl⟩ : ∃ p, j = p + 1 := ⟨j - 1, by omega⟩
        have hp : p < L1.length := by omega
        rw [show (((p + 1 : Nat) : Int) - 1) = (p : Int) by omega]
        obtain ⟨g, off, rfl, hg, hat⟩ := (HSL.out.below hb).some (by omega)
        have c1 := hat p hp
        have HS := Lib.hid (HRS.out p hp)
        have hlen := HLN.out (p + 1)
        have hm := HMEM.out L1[p] (List.getElem_mem _)
        obtain ⟨v, hv⟩ : ∃ v : Int, v = L1[p]'hp := ⟨_, rfl⟩
        rw [← hv] at c1 HS hm
        obtain ⟨T, hT⟩ : ∃ T, T = mirGL a0 (L1.drop (p + 1)) := ⟨_, rfl⟩
        rw [← hT] at HO HS hlen
        have hbs := hb.size
        have ip : (0 : Int) ≤ (p : Int) := by omega
        clear hv hT hat hj hz
        go_wp2_with (at_builtin; refine wpList_append_own _ rfl (.tmp 19) (.tmp 26) _ rfl w.heap.size 3 i0 _ 1 8 Try.underlying22 hi hz0 hz1 hz2 rfl (by decide) _ (T).length ((T).map (Value.int .i64)) rfl (World.ownsRow.alloc HO.out _) ⟨_, 0, none⟩ 1 1 [.int .i64 (a0 - v)] rfl rfl (World.news_of_block (cs := #[.int .i64 (a0 - v)]) (t := 3) (fr := (0, 0)) (by first | exact heap_alloc_new _ _ | exact heap_new_set _ _ _ _ _)) (by simp [Value.oneCell']) (by unfold maxLen; omega) (by omega) (by simp; omega) ?_; intro v' w3 hown' hgrow _)
        have HR : Hid (OwnInts w3 w.heap.size 3 v' (mirGL a0 (L1.drop p))) := Lib.hid (by rw [HS.out]; exact OwnInts.snoc hown')
        have HB3 : Hid (Below w.heap.size w w3) := Lib.hid ((hb.alloc hbs _).grown hgrow (by simp; omega) fun k hk => (World.ownsRow.lt HO.out k hk).1)
        clear hown' hgrow
        go_wp2
        go_roundw
        case rel => exact ⟨p, by omega, by go_num, HR.out, HB3.out⟩
        case measure => simp [intOf]
end Go.Proofs.Ytbocdhibimcobaa
