/- GreedyShare in the specification: 'spec.shGreedy'. No condition but the numbers' bounds. -/
import Derived.Test.YteiaidjknnbpjaaGreedyMath
import Derived.Test.YteiaidjknnbpjaaRepeat
import Derived.Test.YteiaidjknnbpjaaWidest
namespace Go.Proofs.Yteiaidjknnbpjaa
open Go.RowKit

section
variable {w : World} {base g cap n : Nat} {e : TypeId} {zs : List Int}
theorem OwnInts.store (h : OwnInts w base e (.slice (some ⟨g, 0, none⟩) n cap) zs) (i : Nat) (x : Int) (hn : n = zs.length) : OwnInts (w.setCell ⟨g, i, none⟩ (.int .i64 x)) base e (.slice (some ⟨g, 0, none⟩) n cap) (zs.set i x) := by
  subst hn
  have h2 := (World.ownsRow.stored h i (.int .i64 x)).1
  unfold OwnInts
  rw [List.length_set, List.map_set]
  exact h2
theorem OwnInts.cell (h : OwnInts w base e (.slice (some ⟨g, 0, none⟩) n cap) zs) (i : Nat) (hn : n = zs.length) (hi : i < zs.length) : w.cell? ⟨g, i, none⟩ = some (.int .i64 zs[i]) := by
  subst hn
  rw [World.ownsRow.cellAt h i (by omega), getElem?_ints zs i hi]
theorem OwnInts.frozen (h : OwnInts w base e (.slice (some ⟨g, 0, none⟩) n cap) zs) (i : Nat) (hn : n = zs.length) : w.frozen? ⟨g, i, none⟩ = false := by
  subst hn
  exact World.ownsRow.frozenAt h i
end
def shareL (W : List Int) (m : Int) (p j : Nat) : List Int := (List.range (p + 1)).map (shareA W (capM W m) p j)
theorem shareL_len (W : List Int) (m : Int) (p j : Nat) : (shareL W m p j).length = p + 1 := by simp [shareL]
theorem shareL_at (W : List Int) (m : Int) (p j i : Nat) (h : i < (shareL W m p j).length) : (shareL W m p j)[i] = shareA W (capM W m) p j i := by simp [shareL]
theorem shareL_take {W : List Int} {m : Int} {p j : Nat} (h : ∀ i, (if i = p then shareA W (capM W m) p j p + 1 else shareA W (capM W m) p j i) = shareA W (capM W m) p (j + 1) i) :
    (shareL W m p j).set p (shareA W (capM W m) p j p + 1) = shareL W m p (j + 1) := by
  apply List.ext_getElem
  · rw [List.length_set, shareL_len, shareL_len]
  · intro i h1 h2
    rw [List.getElem_set, shareL_at, shareL_at, ← h i]
    by_cases e : p = i
    · subst e; rw [if_pos rfl]
    · rw [if_neg e, if_neg (Ne.symm e)]
theorem shareL_jump {W : List Int} {m : Int} {p j : Nat} (h : ∀ i, i ≤ p → shareA W (capM W m) (p + 1) (j + 1) i = shareA W (capM W m) p j i) (h1 : shareA W (capM W m) (p + 1) (j + 1) (p + 1) = 1) :
    (shareL W m p j ++ [0]).set (p + 1) 1 = shareL W m (p + 1) (j + 1) := by
  apply List.ext_getElem
  · rw [List.length_set, List.length_append, shareL_len, shareL_len]; rfl
  · intro i h2 h3
    rw [List.getElem_set, shareL_at]
    by_cases e : p + 1 = i
    · subst e; rw [if_pos rfl, h1]
    · rw [shareL_len] at h3
      rw [if_neg e, List.getElem_append_left (by rw [shareL_len]; omega), shareL_at, h i (by omega)]
theorem share_le {W C : List Int} {p j : Nat} (hj : j ≤ 12) : shareA W C p j p ≤ 12 := (share_bd hj).2

def castG (W : List Int) (m : Int) : List Int := (greedyL W m).map fun n : Nat => (n : Int)
/-- what the loop has when j boards are handed out -/
def GInv (W : List Int) (m : Int) (j : Nat) (zs : List Int) (k : Int) : Prop :=
  (j = 0 ∧ zs = [] ∧ k = 0) ∨ ∃ p, GAt W m p j ∧ zs = shareL W m p j ∧ k = workA W (capM W m) p j

set_option maxRecDepth 100000 in
set_option maxHeartbeats 4000000 in
theorem shGreedy_any (A0 : Option Addr) (c0 : Nat) (W : List Int) (m : Int) (w : World) (hw : okW W = true) (h1 : 1 ≤ m) (h2 : m ≤ 30000) (h0 : IntSl w A0 W) :
    Calls Try.prog 113 #[.slice A0 W.length c0, .int .i64 m] w fun e w' => ∃ v, e = .returned (.tuple #[v, .bool (allLe W m)]) ∧ OwnInts w' w.heap.size 3 v (if allLe W m = true then castG W m else []) ∧ Below w.heap.size w w' := by
  obtain ⟨i0, hi, hz0, hz1, hz2⟩ := info_parts info_int
  have hwl := okW_len hw
  have HWX := Lib.hid (okW_mem hw)
  have HWP : Hid (Pos W) := Lib.hid fun x hx => (okW_mem hw x hx).1
  obtain ⟨g, off, rfl, hg, hat⟩ := h0.some (by omega)
  have HAT := Lib.hid hat
  obtain ⟨B, hBe⟩ : ∃ B, B = allLe W m := ⟨_, rfl⟩
  obtain ⟨V, hVe⟩ : ∃ V, V = (if allLe W m = true then castG W m else []) := ⟨_, rfl⟩
  rw [← hVe, ← hBe]
  have HBV : Hid (B = allLe W m ∧ V = (if allLe W m = true then castG W m else [])) := Lib.hid ⟨hBe, hVe⟩
  clear hat h0 hBe hVe
  go_enter Try.func113, Try.ntmps113
  go_wp2
  go_loopw [6, 7, 9, 12] (fun v u _ i wr => ∃ j : Nat, ∃ zs : List Int, ∃ k : Int, j ≤ W.length ∧ i = .int .i64 j ∧ u = .int .i64 k ∧ Hid (GInv W m j zs k) ∧ OwnInts wr w.heap.size 3 v zs ∧ Below w.heap.size w wr) (fun _ _ _ i _ => W.length - (intOf i).toNat)
  case atStart => exact ⟨0, [], 0, Nat.zero_le _, rfl, rfl, Lib.hid (.inl ⟨rfl, rfl, rfl⟩), OwnInts.nil _ _ _, Below.refl _ _⟩
  case round =>
    obtain ⟨j, zs, k, hj, rfl, rfl, hI, hown, hb⟩ := hrel
    have HB := Lib.hid hb
    have hbs := hb.size
    clear hb
    by_cases hlt : j < W.length
    · have e1 := HAT.out.below HB.out hg j hlt
      have hwx := HWX.out W[j] (List.getElem_mem hlt)
      by_cases hxm : m < W[j]
      · have hn : allLe W m = false := by
          unfold allLe
          rw [List.all_eq_false]
          exact ⟨W[j], List.getElem_mem hlt, by simpa using hxm⟩
        have hbv := HBV.out
        rw [hn, if_neg (by decide)] at hbv
        obtain ⟨rfl, rfl⟩ := hbv
        clear hown hI hn
        go_wp2
        go_ret2
        exact ⟨_, rfl, OwnInts.nil _ _ _, HB.out⟩
      · rcases hI.out with ⟨hj0, hzs, hk⟩ | ⟨p, hG, hzs, hk⟩
        · subst hzs hk
          subst hj0
          have HG := Lib.hid (g_start (m := m) HWP.out (by omega) hlt (by omega))
          rw [Nat.add_zero] at e1
          obtain ⟨x, hx⟩ : ∃ x, x = W[0] := ⟨_, rfl⟩
          rw [← hx] at e1 hwx hxm HG
          have HO := Lib.hid hown
          obtain ⟨A6, c6, rfl⟩ := hown.len
          have HL : Hid (shareL W m 0 1 = [1]) := Lib.hid (by
            unfold shareL
            rw [show List.range (0 + 1) = [0] from rfl, List.map_cons, HG.out.2.1]; rfl)
          clear hI hx hown
          go_wp2_with (at_builtin; refine wpList_append_own _ rfl (.tmp 29) (.tmp 30) _ rfl w.heap.size 3 i0 _ 1 8 Try.underlying24 hi hz0 hz1 hz2 rfl (by decide) _ 0 [] rfl (World.ownsRow.alloc HO.out _) ⟨_, 0, none⟩ 1 1 [.int .i64 0] rfl rfl (World.news_of_block (cs := #[.int .i64 0]) (t := 3) (fr := (0, 0)) (heap_alloc_new _ _)) (by simp [Value.oneCell']) (by unfold maxLen; omega) (by omega) (by simp; omega) ?_; intro v' w3 hown' hgrow _; have HR : Hid (OwnInts w3 w.heap.size 3 v' [0]) := Lib.hid hown'; have HB3 := Lib.hid ((HB.out.alloc hbs _).grown hgrow (by simp; omega) fun k hk => (World.ownsRow.lt HO.out k hk).1); clear hown' hgrow; obtain ⟨g2, cap2, rfl, hg2a, hg2b⟩ := own_some HR.out (by decide); have d1 := HR.out.cell 0 rfl (by decide); have f1 := HR.out.frozen 0 rfl; have HS := Lib.hid (HR.out.store 0 1 rfl); have HBS := Lib.hid (below_store HB3.out hg2a 0 (.int .i64 1)))
          go_wp2
          go_roundw
          case rel => exact ⟨1, [1], x, by omega, by go_num, rfl, Lib.hid (.inr ⟨0, HG.out.1, HL.out.symm, HG.out.2.2.symm⟩), HS.out, HBS.out⟩
          case measure => simp [intOf]; omega
        · have hgp := hG.hp
          have hwb := work_bd (C := capM W m) (p := p) (j := j) HWX.out hwl.2
          have hsb := share_bd (W := W) (C := capM W m) (p := p) (j := j) (by omega)
          have hs1 := hG.h1 p (Nat.le_refl _)
          subst hzs hk
          have HO := Lib.hid hown
          have HLN := Lib.hid (shareL_len W m p j)
          obtain ⟨g6, c6, rfl, hg6a, hg6b⟩ := own_some hown (by rw [shareL_len]; omega)
          rw [shareL_len] at HO hown
          rw [shareL_len]
          have d6 := HO.out.cell p (by rw [shareL_len]) (by rw [shareL_len]; omega)
          rw [shareL_at] at d6
          have f6 := HO.out.frozen p (by rw [shareL_len])
          by_cases hf : workA W (capM W m) p j + W[j] ≤ m
          · have HG := Lib.hid (g_take HWP.out (by omega) hG hlt hf)
            have HS := Lib.hid (HO.out.store p (shareA W (capM W m) p j p + 1) (by rw [shareL_len]))
            rw [shareL_take HG.out.2.1] at HS
            have HBS := Lib.hid (below_store HB.out hg6a p (.int .i64 (shareA W (capM W m) p j p + 1)))
            obtain ⟨u, hu⟩ : ∃ u, u = workA W (capM W m) p j := ⟨_, rfl⟩
            obtain ⟨y, hy⟩ : ∃ y, y = shareA W (capM W m) p j p := ⟨_, rfl⟩
            rw [← hu] at hwb hf
            rw [← hy] at hsb d6 HS HBS hs1
            rw [← hu]
            have HGU : Hid (u + W[j] = workA W (capM W m) p (j + 1)) := Lib.hid (by rw [HG.out.2.2, hu])
            have hnf : ¬ m < u + W[j] := by omega
            clear hI hown hG hu hy HO
            go_wp2
            go_roundw
            case rel => exact ⟨j + 1, _, _, by omega, by go_num, rfl, Lib.hid (.inr ⟨p, HG.out.1, rfl, HGU.out⟩), HS.out, HBS.out⟩
            case measure => simp [intOf]; omega
          · have HG := Lib.hid (g_jump HWP.out (by omega) hG hlt hf (by omega))
            have HJ := Lib.hid (shareL_jump HG.out.2.1 HG.out.2.2.1)
            obtain ⟨u, hu⟩ : ∃ u, u = workA W (capM W m) p j := ⟨_, rfl⟩
            rw [← hu] at hwb hf
            rw [← hu]
            have hnf : m < u + W[j] := by omega
            have HOW : Hid (wr.ownsRow w.heap.size 3 1 (.slice (some ⟨g6, 0, none⟩) (p + 1) c6) (p + 1) ((shareL W m p j).map (Value.int .i64))) := Lib.hid (by
              have := HO.out
              unfold OwnInts at this
              rw [shareL_len] at this
              exact this)
            have hml : ((shareL W m p j).map (Value.int .i64)).length = p + 1 := by rw [List.length_map, shareL_len]
            clear hI hown hG hu d6 f6
            go_wp2_with (at_builtin; refine wpList_append_own _ rfl (.tmp 29) (.tmp 30) _ rfl w.heap.size 3 i0 _ 1 8 Try.underlying24 hi hz0 hz1 hz2 rfl (by decide) _ (p + 1) ((shareL W m p j).map (Value.int .i64)) rfl (World.ownsRow.alloc HOW.out _) ⟨_, 0, none⟩ 1 1 [.int .i64 0] rfl rfl (World.news_of_block (cs := #[.int .i64 0]) (t := 3) (fr := (0, 0)) (heap_alloc_new _ _)) (by simp [Value.oneCell']) (by unfold maxLen; omega) (by omega) (by simp; omega) ?_; intro v' w3 hown' hgrow _; have HR : Hid (OwnInts w3 w.heap.size 3 v' (shareL W m p j ++ [0])) := Lib.hid (OwnInts.snoc (by rw [shareL_len]; exact hown')); have HB3 := Lib.hid ((HB.out.alloc hbs _).grown hgrow (by simp; omega) fun k hk => (World.ownsRow.lt HOW.out k hk).1); obtain ⟨g2, cap2, rfl, hg2a, hg2b⟩ := own_some hown' (by omega); have hln : (p + 1 + 1) = (shareL W m p j ++ [0]).length := (by rw [List.length_append, shareL_len, List.length_singleton]); have d1 := HR.out.cell (p + 1) hln (by omega); rw [List.getElem_append_right (by rw [shareL_len]; omega)] at d1; have d2 : w3.cell? ⟨g2, p + 1, none⟩ = some (.int .i64 0) := (by simpa using d1); have f1 := HR.out.frozen (p + 1) hln; have HS := Lib.hid (HR.out.store (p + 1) 1 hln); have HBS := Lib.hid (below_store HB3.out hg2a (p + 1) (.int .i64 1)); clear hown' hgrow d1 hln)
            rw [HJ.out] at HS
            go_wp2
            go_roundw
            case rel => exact ⟨j + 1, _, _, by omega, by go_num, rfl, Lib.hid (.inr ⟨p + 1, HG.out.1, rfl, HG.out.2.2.2.symm⟩), HS.out, HBS.out⟩
            case measure => simp [intOf]; omega
    · obtain rfl : j = W.length := by omega
      rcases hI.out with ⟨hj0, -, -⟩ | ⟨p, hG, hzs, -⟩
      · omega
      · have HE := Lib.hid (g_end hG)
        have ha : allLe W m = true := (left_iff_one HWP.out (by omega) (by omega)).1 HE.out.1
        have hbv := HBV.out
        rw [ha, if_pos rfl] at hbv
        obtain ⟨rfl, rfl⟩ := hbv
        subst hzs
        have HV : Hid (OwnInts wr w.heap.size 3 _ (castG W m)) := Lib.hid (by
          unfold castG
          rw [← HE.out.2]
          exact hown)
        clear hI hown hG ha
        go_wp2
        go_ret2
        exact ⟨_, rfl, HV.out, HB.out⟩
end Go.Proofs.Yteiaidjknnbpjaa
