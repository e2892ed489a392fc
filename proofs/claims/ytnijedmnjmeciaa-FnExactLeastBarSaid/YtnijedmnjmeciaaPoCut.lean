/- 'spec.poCut': the model's search for a cut. No condition but the numbers' bounds. -/
import Derived.Test.YtnijedmnjmeciaaOwnCopy
import Derived.Test.YtnijedmnjmeciaaCutRec
namespace Go.Proofs.Ytnijedmnjmeciaa
open Go.RowKit

def outM (B : List Int) : Option (List Int) → List Int
  | some c => B ++ c
  | none => []
theorem outM_snoc (B : List Int) (k : Int) (c : List Int) : outM (B ++ [k]) (some c) = outM B (some (k :: c)) := by
  show B ++ [k] ++ c = B ++ k :: c
  rw [List.append_assoc]; rfl
theorem set_own {w : World} {b g cap k : Nat} {e : TypeId} {S : List Int} (h : OwnInts w b e (.slice (some ⟨g, 0, none⟩) S.length cap) S) (z : Int) : OwnInts (w.setCell ⟨g, k, none⟩ (.int .i64 z)) b e (.slice (some ⟨g, 0, none⟩) S.length cap) (S.set k z) := by
  have h2 := (World.ownsRow.stored h k (.int .i64 z)).1
  unfold OwnInts
  rw [List.length_set, List.map_set]
  exact h2

set_option maxRecDepth 20000 in
set_option maxHeartbeats 4000000 in
theorem poCut_any (A0 : Option Addr) (c0 : Nat) (L : List Int) (hL : L.length ≤ 8) (hx : ∀ x ∈ L, 1 ≤ x ∧ x ≤ 1000) : ∀ (n : Nat) (B S : List Int) (A1 : Option Addr) (c1 : Nat) (A2 : Option Addr) (c2 : Nat) (w : World), B.length + n = L.length → S.length ≤ 8 → (∀ y ∈ S, 0 ≤ y ∧ y ≤ 1000000) → IntSl w A0 L → IntSl w A1 B → IntSl w A2 S →
    Calls Try.prog 11 #[.slice A0 L.length c0, .slice A1 B.length c1, .slice A2 S.length c2] w fun e w' => ∃ v, e = .returned v ∧ OwnInts w' w.heap.size 3 v (outM B (cutM (L.drop B.length) S)) ∧ Below w.heap.size w w'
  | 0, B, S, A1, c1, A2, c2, w, hB, hS, hy, h0, h1, h2 => by
    have HOB := Lib.hid fun W (h : IntSl W A1 B) => l1Own_any A1 c1 B W (by omega) h
    have HV : Hid (outM B (cutM (L.drop B.length) S) = B) := Lib.hid (by rw [List.drop_of_length_le (by omega)]; show B ++ [] = B; rw [List.append_nil])
    rw [HV.out]
    have H1 := Lib.hid h1
    have hB' : (B.length : Int) = (L.length : Int) := by omega
    clear hx hy h0 h1 h2 HV
    go_enter Try.func11, Try.ntmps11
    go_wp2_with fail
    refine (HOB.out _ H1.out).mono ?_
    rintro e w1 ⟨v, rfl, hown, hb⟩
    go_wp2
    go_ret
    exact ⟨_, rfl, hown, hb⟩
  | n + 1, B, S, A1, c1, A2, c2, w, hB, hS, hy, h0, h1, h2 => by
    obtain ⟨i0, hi, hz0, hz1, hz2⟩ := info_parts info_int
    have hBL : B.length < L.length := by omega
    have HIH := Lib.hid fun (k : Nat) (z : Int) (hz : 0 ≤ z ∧ z ≤ 1000000) (A1' : Option Addr) (c1' : Nat) (A2' : Option Addr) (c2' : Nat) (W : World) (q0 : IntSl W A0 L) (q1 : IntSl W A1' (B ++ [(k : Int)])) (q2 : IntSl W A2' (S.set k z)) =>
      poCut_any A0 c0 L hL hx n (B ++ [(k : Int)]) (S.set k z) A1' c1' A2' c2' W (by rw [List.length_append, List.length_singleton]; omega) (by rw [List.length_set]; exact hS) (fun y h => (List.mem_or_eq_of_mem_set h).elim (fun h => hy y h) (fun h => h ▸ hz)) q0 q1 q2
    have HOB := Lib.hid fun W (h : IntSl W A1 B) => l1Own_any A1 c1 B W (by omega) h
    have HOS := Lib.hid fun W (h : IntSl W A2 S) => l1Own_any A2 c2 S W (by omega) h
    have hdrop : L.drop B.length = L[B.length] :: L.drop (B.length + 1) := List.drop_eq_getElem_cons hBL
    have hlb : ∀ k : Int, (B ++ [k]).length = B.length + 1 := fun k => by rw [List.length_append]; rfl
    obtain ⟨g0, o0, rfl, hg0, hat0⟩ := h0.some (by omega)
    have e1 := hat0 B.length hBL
    have bx := hx L[B.length] (List.getElem_mem _)
    obtain ⟨x, hxx⟩ : ∃ x, x = L[B.length] := ⟨_, rfl⟩
    obtain ⟨R, hR⟩ : ∃ R, R = L.drop (B.length + 1) := ⟨_, rfl⟩
    rw [← hxx] at e1 bx hdrop
    rw [← hR] at hdrop
    simp only [hlb, List.length_set, ← hR] at HIH
    rw [hdrop, cutM_cons]
    obtain ⟨Z0, hZ0⟩ : ∃ Z, Z = outM B (firstK (tryK x R S) S.length 0) := ⟨_, rfl⟩
    rw [← hZ0]
    have HZ := Lib.hid hZ0
    clear hZ0
    have HE1 : Hid (∀ W, Below w.heap.size w W → W.cell? ⟨g0, o0 + B.length, none⟩ = some (.int .i64 x)) := Lib.hid fun W hW => (hW.cell (p := ⟨g0, o0 + B.length, none⟩) hg0).trans e1
    have H0 := Lib.hid h0
    have H1 := Lib.hid h1
    have H2 := Lib.hid h2
    have HY := Lib.hid hy
    have b0 : (0 : Int) ≤ (B.length : Int) := by omega
    have b1 : (B.length : Int) < (L.length : Int) := by omega
    have b2 : ((B.length : Int) == (L.length : Int)) = false := by rw [beq_eq_false_iff_ne]; omega
    clear h0 h1 h2 hy hx hat0 e1 hxx hR hdrop hlb
    go_enter Try.func11, Try.ntmps11
    go_wp2
    go_loopw [8, 9, 10, 11, 22] (fun _ _ _ _ i wr => ∃ k : Nat, k ≤ S.length ∧ i = .int .i64 k ∧ Hid (∀ j, 0 ≤ j → j < k → tryK x R S j = none) ∧ Below w.heap.size w wr) (fun _ _ _ _ i _ => S.length - (intOf i).toNat)
    case atStart => exact ⟨0, Nat.zero_le _, rfl, Lib.hid fun j _ h => absurd h (Nat.not_lt_zero _), Below.refl _ _⟩
    case round =>
      obtain ⟨k, hk, rfl, hno, hb⟩ := hrel
      have HB := Lib.hid hb
      clear hb
      by_cases hkS : k < S.length
      · obtain ⟨g2, o2, rfl, hg2, hat2⟩ := (H2.out.below HB.out).some (by omega)
        have d1 := hat2 k hkS
        have by1 := HY.out S[k] (List.getElem_mem hkS)
        have HG : Hid (S.getD k 0 = S[k]) := Lib.hid (by rw [List.getD_eq_getElem?_getD, List.getElem?_eq_getElem hkS]; rfl)
        have HM := Lib.hid hat2
        obtain ⟨y, hyy⟩ : ∃ y, y = S[k] := ⟨_, rfl⟩
        rw [← hyy] at d1 by1 HG
        have k0 : (0 : Int) ≤ (k : Int) := by omega
        have k1 : (k : Int) < (S.length : Int) := by omega
        have e1 := HE1.out wr HB.out
        clear hat2 hyy
        by_cases hxy : x ≤ y
        · have hxy2 : ¬ y < x := by omega
          have HT : Hid (tryK x R S k = cutM R (S.set k (y - x))) := Lib.hid (by unfold tryK; rw [HG.out, if_pos hxy])
          have hz : 0 ≤ y - x ∧ y - x ≤ 1000000 := by omega
          have HC := Lib.hid fun A1' c1' A2' c2' W q0 q1 q2 => HIH.out k (y - x) hz A1' c1' A2' c2' W q0 q1 q2
          go_wp2_with fail
          refine (HOS.out _ (H2.out.below HB.out)).mono ?_
          rintro e w2 ⟨v, rfl, hown, hb⟩
          obtain ⟨g, cg, rfl, hgb, hgl⟩ := own_some hown (by omega)
          have HO2 := Lib.hid hown
          have HB2 := Lib.hid (below_nextN HB.out HB.out.size hb)
          have s1 := Lib.hid (HB.out.size)
          have d2 : w2.cell? ⟨g, k, none⟩ = some (.int .i64 y) := by
            rw [World.ownsRow.cellAt hown k (by omega), getElem?_ints S k hkS]
            have := HG.out
            rw [List.getD_eq_getElem?_getD, List.getElem?_eq_getElem hkS] at this
            rw [← this]; rfl
          have f2 := World.ownsRow.frozenAt hown k
          have e2 := HE1.out w2 HB2.out
          have k2 : IntKind.i64.wrap (y - x) = y - x := by rw [IntKind.wrap_i64]; omega
          have HS3 : Hid (OwnInts ((w2.setCell ⟨g, k, none⟩ (.int .i64 (y - x))).drew) wr.heap.size 3 (.slice (some ⟨g, 0, none⟩) S.length cg) (S.set k (y - x))) := Lib.hid (World.ownsRow.drew (set_own hown (y - x)))
          have HB3 : Hid (Below w.heap.size w ((w2.setCell ⟨g, k, none⟩ (.int .i64 (y - x))).drew)) := Lib.hid (below_store HB2.out (Nat.le_trans HB.out.size hgb) k _).drew
          clear hown hb hgb hgl e1 d1
          go_wp2
          go_region
          obtain ⟨W3, hW3⟩ : ∃ W3, W3 = (w2.setCell ⟨g, k, none⟩ (.int .i64 (y - x))).drew := ⟨_, rfl⟩
          rw [← hW3] at HS3 HB3 ⊢
          clear hW3 d2 f2 e2
          go_wp2_with fail
          refine (HOB.out _ (H1.out.below HB3.out)).mono ?_
          rintro e w4 ⟨vb, rfl, hown, hb⟩
          have HO4 := Lib.hid hown
          have HS4 := Lib.hid (OwnInts.below HS3.out hb)
          have HB4 := Lib.hid (below_nextN HB3.out HB3.out.size hb)
          have HD3 := Lib.hid (OwnInts.lt HS3.out)
          have HD4 := Lib.hid (OwnInts.lt hown)
          have HW4 := Lib.hid hb.size
          have hw4 := hb.size
          have hBl : B.length ≤ 8 := by omega
          clear hown hb HS3
          go_wp2_with (at_builtin; refine wpList_append_own _ rfl (.tmp 47) (.tmp 49) _ rfl W3.heap.size 3 i0 _ 1 8 Try.underlying22 hi hz0 hz1 hz2 rfl (by decide) _ (B).length ((B).map (Value.int .i64)) rfl (World.ownsRow.alloc HO4.out _) ⟨_, 0, none⟩ 1 1 [.int .i64 (k)] rfl rfl (World.news_of_block (cs := #[.int .i64 (k)]) (t := 3) (fr := (0, 0)) (by first | exact heap_alloc_new _ _ | exact heap_new_set _ _ _ _ _)) (by simp [Value.oneCell']) (by unfold maxLen; omega) (by omega) (by simp; omega) ?_; intro v' w3 hown' hgrow _)
          have HO5 : Hid (OwnInts w3 W3.heap.size 3 v' (B ++ [(k : Int)])) := Lib.hid (OwnInts.snoc hown')
          have HB5 : Hid (Below W3.heap.size w4 w3) := Lib.hid (((Below.refl W3.heap.size w4).alloc HW4.out _).grown hgrow (by simp; have := HW4.out; omega) fun q hq => (World.ownsRow.lt HO4.out q hq).1)
          have HS5 := Lib.hid (own_belowX HS4.out (fun q hq => (HD3.out q hq).2) HB5.out)
          have HB6 : Hid (Below w.heap.size w w3) := Lib.hid (HB4.out.trans (HB5.out.mono HB3.out.size))
          obtain ⟨A5, c5, rfl⟩ := own_any hown'
          clear hown' hgrow
          go_wp2_with fail
          refine (HC.out _ _ _ _ _ (H0.out.below HB6.out) (IntSl.of_own HO5.out) (IntSl.of_own HS5.out)).mono ?_
          rintro e w6 ⟨v6, rfl, hown6, hb6⟩
          have HB7 := Lib.hid (below_nextN HB6.out HB6.out.size hb6)
          have hws : w.heap.size ≤ w3.heap.size := HB6.out.size
          cases hcm : cutM R (S.set k (y - x)) with
          | none =>
            rw [hcm, show outM (B ++ [(k : Int)]) none = [] from rfl] at hown6
            obtain ⟨A6, c6, h6⟩ := OwnInts.len hown6
            rw [List.length_nil] at h6
            subst h6
            have HN : Hid (∀ j, 0 ≤ j → j < k + 1 → tryK x R S j = none) := Lib.hid fun j hj0 hj => by
              by_cases e : j = k
              · subst e; rw [HT.out]; exact hcm
              · exact hno.out j hj0 (by omega)
            clear hown6 hb6 hcm HC HT
            go_wp2
            go_roundw
            case rel => exact ⟨k + 1, by omega, by go_num, HN, HB7.out⟩
            case measure => simp [intOf]; omega
          | some c =>
            rw [hcm, outM_snoc] at hown6
            have HV : Hid (Z0 = outM B (some ((k : Int) :: c))) := Lib.hid (HZ.out.trans <| congrArg (outM B) (firstK_found (n := S.length) (k := 0) (m := k) (Nat.zero_le _) (by omega) (fun j h1 h2 => hno.out j h1 h2) (HT.out.trans hcm)))
            have HO7 := Lib.hid (hown6.mono hws)
            obtain ⟨A6, c6, rfl⟩ := OwnInts.len hown6
            have hlen : 0 < (outM B (some ((k : Int) :: c))).length := by show 0 < (B ++ (k : Int) :: c).length; rw [List.length_append, List.length_cons]; omega
            rw [← HV.out] at HO7 hlen ⊢
            have hlen2 : (0 : Int) < (Z0.length : Int) := by omega
            clear hown6 hb6 hcm HC HT HV
            go_wp2
            go_ret
            exact ⟨_, rfl, HO7.out, HB7.out⟩
        · have hxy2 : y < x := by omega
          have HN : Hid (∀ j, 0 ≤ j → j < k + 1 → tryK x R S j = none) := Lib.hid fun j hj0 hj => by
            by_cases e : j = k
            · subst e; unfold tryK; rw [HG.out, if_neg hxy]
            · exact hno.out j hj0 (by omega)
          go_wp2
          go_roundw
          case rel => exact ⟨k + 1, by omega, by go_num, HN, HB.out⟩
          case measure => simp [intOf]; omega
      · obtain rfl : k = S.length := by omega
        have HV : Hid (Z0 = []) := Lib.hid (by rw [HZ.out, firstK_none fun j h1 h2 => hno.out j h1 (by omega)]; rfl)
        go_wp2
        go_ret
        exact ⟨_, rfl, by rw [HV.out]; exact OwnInts.nil _ _ _, HB.out⟩
end Go.Proofs.Ytnijedmnjmeciaa
