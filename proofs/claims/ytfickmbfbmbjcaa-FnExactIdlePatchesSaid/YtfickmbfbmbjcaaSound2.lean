/- SoundParts of both sides. No condition but the text's length. -/
import Derived.Test.YtfickmbfbmbjcaaSound
import Derived.Test.YtfickmbfbmbjcaaSSput
namespace Go.Proofs.Ytfickmbfbmbjcaa
open Go.RowKit

theorem heap_two2 (w : World) (o p : Obj) : ((w.alloc o).alloc p).heap[w.heap.size + 1]? = some p := by
  have h := heap_alloc_new (w.alloc o) p
  rw [show (w.alloc o).heap.size = w.heap.size + 1 by simp] at h
  exact h
/-- stretches as lists of two numbers -/
def pairL (P : List (Nat × Nat)) : List (List Int) := P.map fun p => [(p.1 : Int), (p.2 : Int)]
theorem pairL_len (P : List (Nat × Nat)) : (pairL P).length = P.length := by simp [pairL]
theorem pairL_snoc (P : List (Nat × Nat)) (a b : Nat) : pairL (P ++ [(a, b)]) = pairL P ++ [[(a : Int), (b : Int)]] := by simp [pairL]
theorem pairL_last (P : List (Nat × Nat)) (a b c : Nat) : (pairL (P ++ [(a, b)])).set P.length [(a : Int), (c : Int)] = pairL (P ++ [(a, c)]) := by
  rw [pairL_snoc, pairL_snoc, List.set_append_right _ _ (by rw [pairL_len]; omega), pairL_len, Nat.sub_self]; rfl
theorem pairL_at (P : List (Nat × Nat)) {j : Nat} (h : j < P.length) : (pairL P)[j]? = some [(P[j].1 : Int), (P[j].2 : Int)] := by
  unfold pairL; rw [List.getElem?_map, List.getElem?_eq_getElem h]; rfl
theorem pairL_at' (P : List (Nat × Nat)) {j : Nat} (h : j < P.length) (h2 : j < (pairL P).length) : (pairL P)[j] = [(P[j].1 : Int), (P[j].2 : Int)] := by
  have := pairL_at P h
  rw [List.getElem?_eq_getElem h2] at this
  exact Option.some.inj this
theorem szL_pair (P : List (Nat × Nat)) : szL (pairL P) = 2 * P.length := by
  induction P with
  | nil => rfl
  | cons p P ih =>
    show [(p.1 : Int), (p.2 : Int)].length + szL (pairL P) = 2 * (P.length + 1)
    rw [ih]; simp; omega
theorem SSok_pair {P : List (Nat × Nat)} (h : P.length ≤ 1048576) : SSok (pairL P) := by
  refine ⟨by rw [pairL_len]; exact h, fun L hL => ?_, by rw [szL_pair]; omega⟩
  unfold pairL at hL
  obtain ⟨p, _, rfl⟩ := List.mem_map.1 hL
  simp
def sndR (s : ByteArray) : List (List Int) := if okYard s = true then pairL (sndL s s.size) else []
theorem sndR_ok (s : ByteArray) : SSok (sndR s) := by
  unfold sndR
  split
  · next h =>
    have := okYard_size h
    have := (snd_bd s s.size).1
    exact SSok_pair (by omega)
  · refine ⟨Nat.zero_le _, fun L h => ?_, Nat.zero_le _⟩
    simp at h

set_option maxRecDepth 20000 in
set_option maxHeartbeats 4000000 in
theorem reSound_any (s : ByteArray) (w : World) (hy : okYard s = true) :
    Calls Try.prog 84 #[.string s] w fun e w' => ∃ v, e = .returned v ∧ OwnSS w' w.heap.size w'.heap.size v (pairL (sndL s s.size)) ∧ Below w.heap.size w w' := by
  obtain ⟨i0, hi, hz0, hz1, hz2⟩ := info_parts info_intsl
  obtain ⟨s1, s30⟩ := okYard_size hy
  have HXN := Lib.hid fun (k : Nat) (h1 : k < s.size) (h2 : isX s k = false) => isX_byteN hy h1 h2
  clear hy
  go_enter Try.func84, Try.ntmps84
  go_wp2
  go_loopw [3, 4] (fun v i wr => ∃ k : Nat, k ≤ s.size ∧ i = .int .i64 k ∧ OwnSS wr w.heap.size wr.heap.size v (pairL (sndL s k)) ∧ Below w.heap.size w wr) (fun _ i _ => s.size - (intOf i).toNat)
  case atStart => exact ⟨0, Nat.zero_le _, rfl, OwnSS.nil _ _ _, Below.refl _ _⟩
  case round =>
    obtain ⟨k, hk, rfl, hown, hb⟩ := hrel
    have HB := Lib.hid hb
    have hbs := hb.size
    clear hb
    by_cases hp : k < s.size
    · obtain ⟨vs, hrows⟩ := hown
      have hvl : vs.length = (sndL s k).length := by rw [hrows.len, List.length_map, pairL_len]
      have hsl := (snd_bd s k).1
      have HO := Lib.hid hrows
      cases hx : isX s k
      · have hc := HXN.out k hp hx
        cases ho : onS s k
        · have HN : Hid (pairL (sndL s (k + 1)) = pairL (sndL s k) ++ [[(k : Int), (k : Int)]]) := Lib.hid (by rw [snd_new hx ho, pairL_snoc])
          clear hx hrows
          cases k with
          | zero =>
            clear ho
            go_wp2_with (at_builtin; refine wpList_append_own_at _ rfl (.tmp 11) (.tmp 15) _ rfl w.heap.size 23 i0 _ 1 24 Try.underlying32 hi hz0 hz1 hz2 rfl (by decide) _ vs.length vs rfl (World.ownsRow.alloc (World.ownsRow.alloc HO.out.out _) _) ⟨_, 0, none⟩ 1 1 [.slice (some ⟨wr.heap.size, 0, none⟩) 2 2] rfl rfl (World.news_of_block (cs := #[.slice (some ⟨wr.heap.size, 0, none⟩) 2 2]) (t := 23) (fr := (0, 0)) (heap_two2 _ _ _)) (by simp [Value.oneCell']) (by unfold maxLen; omega) (by omega) (by simp; omega) ?_; intro v' w3 hown' hgrow _ hat)
            have HR : Hid (OwnSS w3 w.heap.size w3.heap.size v' (pairL (sndL s (0 + 1)))) := Lib.hid (by rw [HN.out]; exact OwnSS.push HO.out hbs rfl (Nat.le_of_lt (by decide : 2 < maxLen)) hown' hgrow hat)
            have HB3 : Hid (Below w.heap.size w w3) := Lib.hid (((HB.out.alloc hbs _).alloc (by simp; omega) _).grown hgrow (by simp; omega) fun k hk => (World.ownsRow.lt HO.out.out k hk).1)
            clear hown' hgrow hat
            go_wp2
            go_roundw
            case rel => exact ⟨1, by omega, rfl, HR.out, HB3.out⟩
            case measure => simp [intOf]; omega
          | succ j =>
            have hj : j < s.size := by omega
            have hjx : isX s j = true := by rw [onS_succ] at ho; simpa using ho
            have hjb := isX_byte hj hjx
            have j0 : (0 : Int) ≤ (j : Int) := by omega
            have j1 : (j : Int) < (s.size : Int) := by omega
            have hz : decide (0 < (j : Int) + 1) = true := decide_eq_true (by omega)
            have kk : (j : Int) + 1 < (s.size : Int) := by omega
            have kz : (0 : Int) ≤ (j : Int) + 1 := by omega
            have e2 : ((j : Int) + 1).toNat = j + 1 := by omega
            rw [show ((j + 1 : Nat) : Int) = (j : Int) + 1 by omega] at HN ⊢
            clear ho hjx
            go_wp2_with (at_builtin; refine wpList_append_own_at _ rfl (.tmp 11) (.tmp 15) _ rfl w.heap.size 23 i0 _ 1 24 Try.underlying32 hi hz0 hz1 hz2 rfl (by decide) _ vs.length vs rfl (World.ownsRow.alloc (World.ownsRow.alloc HO.out.out _) _) ⟨_, 0, none⟩ 1 1 [.slice (some ⟨wr.heap.size, 0, none⟩) 2 2] rfl rfl (World.news_of_block (cs := #[.slice (some ⟨wr.heap.size, 0, none⟩) 2 2]) (t := 23) (fr := (0, 0)) (heap_two2 _ _ _)) (by simp [Value.oneCell']) (by unfold maxLen; omega) (by omega) (by simp; omega) ?_; intro v' w3 hown' hgrow _ hat)
            have HR : Hid (OwnSS w3 w.heap.size w3.heap.size v' (pairL (sndL s (j + 1 + 1)))) := Lib.hid (by rw [HN.out]; exact OwnSS.push HO.out hbs rfl (Nat.le_of_lt (by decide : 2 < maxLen)) hown' hgrow hat)
            have HB3 : Hid (Below w.heap.size w w3) := Lib.hid (((HB.out.alloc hbs _).alloc (by simp; omega) _).grown hgrow (by simp; omega) fun k hk => (World.ownsRow.lt HO.out.out k hk).1)
            clear hown' hgrow hat
            go_wp2
            go_roundw
            case rel => exact ⟨j + 1 + 1, by omega, by go_num, HR.out, HB3.out⟩
            case measure => simp [intOf]; omega
        · obtain ⟨P, a, e1, e2, ha⟩ := snd_on hx ho
          obtain ⟨j, rfl⟩ : ∃ j, k = j + 1 := ⟨k - 1, by omega⟩
          have hj : j < s.size := by omega
          have hjx : isX s j = false := by rw [onS_succ] at ho; simpa using ho
          have hjb := HXN.out j hj hjx
          rw [e1] at hvl hsl hrows
          rw [show j + 1 - 1 = j by omega] at hrows
          rw [List.length_append, List.length_singleton] at hvl hsl
          obtain ⟨g, c, rfl, hgb, hgl⟩ := own_some hrows.out (by omega)
          obtain ⟨A, c2, hv2, hown2⟩ := OwnSS.at hrows (i := P.length) (z := intsV [(a : Int), (j : Int)]) (by rw [List.getElem?_map, pairL_at _ (by simp)]; simp)
          obtain ⟨g2, c3, hA, hg2b, hg2l⟩ := own_some hown2 (by show 0 < 2; omega)
          injection hA with hA1 hA2 hA3
          subst hA1 hA3
          have hcA := hown2.cellAt 0 (by show 0 < 2 * 1; omega)
          have hcV := hrows.out.cellAt P.length (by omega)
          rw [hv2] at hcV
          have hcA' : wr.cell? ⟨g2, 0, none⟩ = some (.int .i64 a) := hcA
          have hcV' : wr.cell? ⟨g, P.length, none⟩ = some (.slice (some ⟨g2, 0, none⟩) 2 c2) := hcV
          have hB1 : Below wr.heap.size wr (wr.alloc (.cells #[.int .i64 (a : Int), .int .i64 ((j : Int) + 1)] 3)) := below_new _ _
          have hfrz : (wr.alloc (.cells #[.int .i64 (a : Int), .int .i64 ((j : Int) + 1)] 3)).frozen? ⟨g, P.length, none⟩ = false := by rw [(bcell hB1).2 g _ hgl]; exact hrows.out.frozenAt _
          have hcW : (wr.alloc (.cells #[.int .i64 (a : Int), .int .i64 ((j : Int) + 1)] 3)).cell? ⟨g, P.length, none⟩ = some (.slice (some ⟨g2, 0, none⟩) 2 c2) := by rw [(bcell hB1).1 g _ hgl]; exact hcV'
          have HR : Hid (OwnSS ((wr.alloc (.cells #[.int .i64 (a : Int), .int .i64 ((j : Int) + 1)] 3)).setCell ⟨g, P.length, none⟩ (.slice (some ⟨wr.heap.size, 0, none⟩) 2 2)) w.heap.size ((wr.alloc (.cells #[.int .i64 (a : Int), .int .i64 ((j : Int) + 1)] 3)).setCell ⟨g, P.length, none⟩ (.slice (some ⟨wr.heap.size, 0, none⟩) 2 2)).heap.size (.slice (some ⟨g, 0, none⟩) vs.length c) (pairL (sndL s (j + 1 + 1)))) := Lib.hid (by
            have h := RowsTo.put (i := P.length) (L := [(a : Int), (j : Int) + 1]) (cs := #[.int .i64 (a : Int), .int .i64 ((j : Int) + 1)]) hrows hbs rfl (Nat.le_of_lt (by decide : 2 < maxLen)) (by omega)
            have e3 : (pairL (P ++ [(a, j)])).set P.length [(a : Int), (j : Int) + 1] = pairL (sndL s (j + 1 + 1)) := by
              rw [e2, ← pairL_last P a j (j + 1)]; rfl
            rw [e3] at h
            exact ⟨_, h⟩)
          have HB3 : Hid (Below w.heap.size w ((wr.alloc (.cells #[.int .i64 (a : Int), .int .i64 ((j : Int) + 1)] 3)).setCell ⟨g, P.length, none⟩ (.slice (some ⟨wr.heap.size, 0, none⟩) 2 2))) := Lib.hid (below_store (HB.out.alloc hbs _) (by omega) _ _)
          obtain ⟨D, hD⟩ : ∃ D, D = P.length := ⟨_, rfl⟩
          rw [← hD] at HR HB3 hfrz hcV' hcW hsl hvl
          rw [hvl] at HR ⊢
          rw [World.setCell_alloc_past _ _ _ _ hgl] at HR HB3
          have j0 : (0 : Int) ≤ (j : Int) := by omega
          have j1 : (j : Int) < (s.size : Int) := by omega
          have kk : (j : Int) + 1 < (s.size : Int) := by omega
          have kz : (0 : Int) ≤ (j : Int) + 1 := by omega
          have ek : ((j : Int) + 1).toNat = j + 1 := by omega
          have hz : decide (0 < (j : Int) + 1) = true := decide_eq_true (by omega)
          have d0 : (0 : Int) ≤ (D : Int) := by omega
          rw [show ((j + 1 : Nat) : Int) = (j : Int) + 1 by omega]
          clear ho hx hjx hown2 e1 e2 HO hD hrows hcA hcV hv2 hB1
          go_wp2
          go_roundw
          case rel => exact ⟨j + 1 + 1, by omega, by go_num, HR.out, HB3.out⟩
          case measure => simp [intOf]; omega
      · have HN : Hid (pairL (sndL s (k + 1)) = pairL (sndL s k)) := Lib.hid (by rw [snd_x hx])
        have hc := isX_byte hp hx
        have HV : Hid (OwnSS wr w.heap.size wr.heap.size _ (pairL (sndL s (k + 1)))) := Lib.hid (by rw [HN.out]; exact ⟨vs, HO.out⟩)
        clear hx hrows HO
        go_wp2
        go_roundw
        case rel => exact ⟨k + 1, by omega, by go_num, HV.out, HB.out⟩
        case measure => simp [intOf]; omega
    · obtain rfl : k = s.size := by omega
      have HV := Lib.hid hown
      clear hown
      go_wp2
      go_ret
      exact ⟨_, rfl, HV.out, HB.out⟩

theorem specSoundParts_any (s0 : ByteArray) (w : World) (hs : s0.size ≤ maxLen) :
    Calls Try.prog 35 #[.string s0] w fun e w' => ∃ v, e = .returned (.tuple #[v, .bool (okYard s0)]) ∧ OwnSS w' w.heap.size w'.heap.size v (sndR s0) ∧ Below w.heap.size w w' := by
  unfold sndR
  cases h : okYard s0
  · rw [if_neg (by decide)]
    have H := Lib.hid h; clear h
    go_enter Try.func35, Try.ntmps35
    go_wp2_with (go_at_call 72; refine (reGood_any s0 _ hs).mono ?_; rintro e w' ⟨rfl, rfl⟩; rw [H.out])
    go_ret2
    exact ⟨_, rfl, OwnSS.nil _ _ _, Below.refl _ _⟩
  · rw [if_pos rfl]
    have HS := Lib.hid fun W => reSound_any s0 W h
    have H := Lib.hid h; clear h
    go_enter Try.func35, Try.ntmps35
    go_wp2_with (first
      | (go_at_call 72; refine (reGood_any s0 _ hs).mono ?_; rintro e w' ⟨rfl, rfl⟩; rw [H.out])
      | (go_at_call 84; refine (HS.out _).mono ?_; rintro e w1 ⟨v, rfl, ho, hb⟩))
    go_ret2
    exact ⟨_, rfl, ho, hb⟩

set_option maxRecDepth 20000 in
set_option maxHeartbeats 4000000 in
theorem listsOf_any (V : Value) (P : List (Nat × Nat)) (w : World) (base : Nat) (hP : P.length ≤ 1000) (h : OwnP w base V P) :
    Calls Try.prog 85 #[V] w fun e w' => ∃ v, e = .returned v ∧ OwnSS w' w.heap.size w'.heap.size v (pairL P) ∧ Below w.heap.size w w' := by
  obtain ⟨i0, hi, hz0, hz1, hz2⟩ := info_parts info_intsl
  obtain ⟨A, c, rfl⟩ := own_any h
  have hX := pairL_len P
  rcases Nat.eq_zero_or_pos P.length with h0 | h0
  · obtain rfl : P = [] := List.eq_nil_of_length_eq_zero h0
    clear h hP h0
    go_enter Try.func85, Try.ntmps85
    go_wp2_with (at_make; refine wpList_make_full _ rfl (.tmp 7) (.tmp 7) _ rfl w.heap.size 23 i0 _ 1 Try.underlying32 hi hz0 hz1 .i64 .i64 _ _ 0 rfl rfl rfl rfl (by rw [hz2]; omega) (Nat.zero_le _) (Nat.le_refl _) ?_; intro w1 hown hgrow)
    have he := List.eq_nil_of_length_eq_zero (hown.1.trans (Nat.zero_mul 1))
    rw [he] at hown
    have HG := Lib.hid ((Below.refl _ _).grown hgrow (Nat.le_refl _) (fun k hk => by cases hk))
    have HM : Hid (OwnSS w1 w.heap.size w1.heap.size (.slice (some ⟨w.heap.size, 0, none⟩) 0 0) []) := Lib.hid ⟨_, RowsTo.made (n := 0) hown (Nat.le_refl _) [] rfl⟩
    clear hown hgrow he
    refine wp_loop_rounds 1 ?_
    rw [rounds_succ]
    go_wp2
    go_ret
    exact ⟨_, rfl, HM.out, HG.out⟩
  · obtain ⟨g, cap, hA, hgb, hgl⟩ := own_some h h0
    injection hA with hA1 hA2 hA3
    subst hA1
    have HC : Hid (∀ (W : World) (j : Nat) (hj : j < P.length), Below w.heap.size w W → W.cell? ⟨g, j * 2, none⟩ = some (.int .i64 P[j].1) ∧ W.cell? ⟨g, j * 2 + 1, none⟩ = some (.int .i64 P[j].2)) := Lib.hid fun W j hj hb => by
      have h1 := h.cellAt (j * 2) (by omega)
      have h2 := h.cellAt (j * 2 + 1) (by omega)
      rw [(pairC_at P hj).1] at h1
      rw [(pairC_at P hj).2] at h2
      exact ⟨by rw [(bcell hb).1 g _ hgl]; exact h1, by rw [(bcell hb).1 g _ hgl]; exact h2⟩
    clear h hA3 hA2
    go_enter Try.func85, Try.ntmps85
    go_wp2_with (at_make; refine wpList_make_full _ rfl (.tmp 7) (.tmp 7) _ rfl w.heap.size 23 i0 _ 1 Try.underlying32 hi hz0 hz1 .i64 .i64 _ _ P.length rfl rfl rfl rfl (by rw [hz2]; omega) (by unfold maxLen; omega) (Nat.le_refl _) ?_; intro w1 hown hgrow)
    have hmk : (madeCells (Value.slice none 0 0).cells (P.length * 1)).toList = List.replicate P.length (.slice none 0 0) := by rw [Nat.mul_one]; exact toList_madeCells_one _ _
    have HG := Lib.hid ((Below.refl _ _).grown hgrow (Nat.le_refl _) (fun k hk => by cases hk))
    have HM : Hid (∃ vs, RowsTo w1 w.heap.size w1.heap.size (.slice (some ⟨w.heap.size, 0, none⟩) P.length P.length) vs ((fillL (pairL P) 0).map intsV)) := Lib.hid ⟨_, RowsTo.made (by rw [← hmk]; exact hown) (Nat.le_refl _) (pairL P) hX⟩
    clear hown hgrow hmk
    go_wp2
    go_loopw [11] (fun i wr => ∃ j : Nat, j ≤ P.length ∧ i = .int .i64 j ∧ (∃ vs, RowsTo wr w.heap.size wr.heap.size (.slice (some ⟨w.heap.size, 0, none⟩) P.length P.length) vs ((fillL (pairL P) j).map intsV)) ∧ Below w.heap.size w wr) (fun i _ => P.length - (intOf i).toNat)
    case atStart => exact ⟨0, Nat.zero_le _, rfl, HM.out, HG.out⟩
    case round =>
      clear HM HG
      obtain ⟨j, hj, rfl, ⟨vs, hrows⟩, hb⟩ := hrel
      have HB := Lib.hid hb
      have hbs := hb.size
      have hVl := hrows.top1 w.heap.size rfl
      by_cases hlt : j < P.length
      · obtain ⟨c1, c2⟩ := HC.out wr j hlt hb
        have hjX : j < (pairL P).length := by omega
        have hvl : vs.length = P.length := by rw [hrows.len, List.length_map, fillL_len (by omega), hX]
        have HE : Hid ((fillL (pairL P) j).set j [(P[j].1 : Int), (P[j].2 : Int)] = fillL (pairL P) (j + 1)) := Lib.hid (by rw [← fillL_set hjX, pairL_at' P hlt])
        obtain ⟨a, ha⟩ : ∃ a, a = P[j].1 := ⟨_, rfl⟩
        obtain ⟨b, hb2⟩ : ∃ b, b = P[j].2 := ⟨_, rfl⟩
        rw [← ha] at c1 HE
        rw [← hb2] at c2 HE
        have hB1 : Below wr.heap.size wr (wr.alloc (.cells #[.int .i64 (a : Int), .int .i64 (b : Int)] 65)) := below_new _ _
        have hrows1 := (hrows.below hB1).wide hB1.size
        have hbs1 : w.heap.size ≤ (wr.alloc (.cells #[.int .i64 (a : Int), .int .i64 (b : Int)] 65)).heap.size := by have := hB1.size; omega
        have HR := Lib.hid (RowsTo.put (i := j) (L := [(a : Int), (b : Int)]) (cs := #[.int .i64 (a : Int), .int .i64 (b : Int)]) hrows1 hbs1 rfl (Nat.le_of_lt (by decide : 2 < maxLen)) (by omega))
        rw [HE.out] at HR
        have hout := hrows.out
        rw [hvl] at hout
        have hfrz := hout.frozenAt j
        have hcl := hout.cellAt j (by omega)
        rw [List.getElem?_eq_getElem (by omega)] at hcl
        obtain ⟨u, hu⟩ : ∃ u, u = vs[j]'(by omega) := ⟨_, rfl⟩
        rw [← hu] at hcl
        rw [World.setCell_alloc_past _ _ _ _ (by simp; omega), World.setCell_alloc_past _ _ _ _ hVl, show (wr.alloc (.cells #[.int .i64 (a : Int), .int .i64 (b : Int)] 65)).heap.size = wr.heap.size + 1 by simp] at HR
        clear hu hB1 hrows1 hrows hb ha hb2 hout
        go_wp2
        go_roundw
        case rel => exact ⟨j + 1, by omega, by go_num, ⟨_, HR.out⟩, ((below_store HB.out (Nat.le_refl _) j _).alloc (by simp [World.setCell]; omega) _).alloc (by simp [World.setCell]; omega) _⟩
        case measure => simp [intOf]; omega
      · obtain rfl : j = P.length := by omega
        have HV : Hid (OwnSS wr w.heap.size wr.heap.size (.slice (some ⟨w.heap.size, 0, none⟩) P.length P.length) (pairL P)) := Lib.hid ⟨vs, by rw [← hX, fillL_end] at hrows; rw [← hX]; exact hrows⟩
        clear hrows
        go_wp2
        go_ret
        exact ⟨_, rfl, HV.out, HB.out⟩

theorem implSoundParts_any (s0 : ByteArray) (w : World) (hs : s0.size ≤ maxLen) :
    Calls Try.prog 36 #[.string s0] w fun e w' => ∃ v, e = .returned (.tuple #[v, .bool (okYard s0)]) ∧ OwnSS w' w.heap.size w'.heap.size v (sndR s0) ∧ Below w.heap.size w w' := by
  unfold sndR
  cases h : okYard s0
  · rw [if_neg (by decide)]
    have H := Lib.hid h; clear h
    go_enter Try.func36, Try.ntmps36
    go_wp2_with (go_at_call 24; refine (implIsYard_any s0 _ hs).mono ?_; rintro e w1 ⟨rfl, hb1⟩; rw [H.out])
    go_ret2
    exact ⟨_, rfl, OwnSS.nil _ _ _, hb1⟩
  · rw [if_pos rfl]
    have hz := okYard_size h
    have hl := (snd_bd s0 s0.size).1
    have HP := Lib.hid fun W => soundParts_any s0 W h
    have HL := Lib.hid fun V W base ho => listsOf_any V (sndL s0 s0.size) W base (by omega) ho
    have H := Lib.hid h; clear h
    go_enter Try.func36, Try.ntmps36
    go_wp2_with (first
      | (go_at_call 24; refine (implIsYard_any s0 _ hs).mono ?_; rintro e w1 ⟨rfl, hb1⟩; rw [H.out])
      | (go_at_call 86; refine (HP.out _).mono ?_; rintro e w2 ⟨v2, rfl, ho2, hb2⟩)
      | (go_at_call 85; refine (HL.out _ _ _ ho2).mono ?_; rintro e w3 ⟨v3, rfl, ho3, hb3⟩))
    have hb := below_next (below_next hb1 hb2) hb3
    have h2 := (below_next hb1 hb2).size
    go_ret2
    exact ⟨_, rfl, ho3.lower h2, hb⟩
end Go.Proofs.Ytfickmbfbmbjcaa
