/- All parts: 'spec.gaParts', 'impl.partsOf', PartsOf of both sides. No condition but the list's length. -/
import Derived.Test.YtbocdhibimcobaaGates
import Derived.Test.YtbocdhibimcobaaRowArr
namespace Go.Proofs.Ytbocdhibimcobaa
open Go.RowKit

/-- the first j parts of m, then zeros -/
def parJ (n : Int) (L : List Int) (j : Nat) (i : Nat) : Int := if i < j then prt n L i else 0
theorem parJ_set (n : Int) (L : List Int) (j i : Nat) : (if i = j then prt n L j else parJ n L j i) = parJ n L (j + 1) i := by
  unfold parJ
  by_cases h : i = j
  · subst h; rw [if_pos rfl, if_pos (by omega)]
  · rw [if_neg h]
    by_cases h2 : i < j
    · rw [if_pos h2, if_pos (by omega)]
    · rw [if_neg h2, if_neg (by omega)]
def partJ (n : Int) (L : List Int) (j : Nat) : List Int := (List.range j).map (prt n L)
theorem partJ_len (n : Int) (L : List Int) (j : Nat) : (partJ n L j).length = j := by simp [partJ]
theorem partJ_succ (n : Int) (L : List Int) (j : Nat) : partJ n L (j + 1) = partJ n L j ++ [prt n L j] := by unfold partJ; rw [List.range_succ, List.map_append]; rfl

set_option maxRecDepth 20000 in
set_option maxHeartbeats 2000000 in
theorem gaParts_any (n : Int) (A : Option Addr) (c : Nat) (L : List Int) (w : World) (hk : okGa n L = true) (h : IntSl w A L) :
    Calls Try.prog 56 #[.int .i64 n, .slice A L.length c] w fun e w' => ∃ v, e = .returned v ∧ OwnInts w' w.heap.size 3 v (partL n L) ∧ Below w.heap.size w w' := by
  obtain ⟨i0, hi, hz0, hz1, hz2⟩ := info_parts info_int
  obtain ⟨⟨n2, n40⟩, hl, -⟩ := okGa_at hk
  have HP := Lib.hid fun k (hkk : k ≤ L.length) => prt_bd hk hkk
  have HSL := Lib.hid h
  have HBE := Lib.hid (bdG_end n L)
  clear hk h
  go_enter Try.func56, Try.ntmps56
  go_wp2
  go_loopw [5, 6, 11] (fun v d i wr => ∃ j : Nat, j ≤ L.length ∧ i = .int .i64 j ∧ d = .int .i64 (bdG n L j) ∧ OwnInts wr w.heap.size 3 v (partJ n L j) ∧ Below w.heap.size w wr) (fun _ _ i _ => L.length - (intOf i).toNat)
  case atStart => exact ⟨0, Nat.zero_le _, rfl, rfl, OwnInts.nil _ _ _, Below.refl _ _⟩
  case round =>
    obtain ⟨j, hj, rfl, rfl, hown, hb⟩ := hrel
    have HO := Lib.hid hown
    clear hown
    have hbs := hb.size
    have hlen := partJ_len n L j
    have HN := Lib.hid (partJ_succ n L j)
    have hpb := HP.out j hj
    by_cases hlt : j < L.length
    · obtain ⟨g, off, rfl, hg, hat⟩ := (HSL.out.below hb).some (by omega)
      have c1 := hat j hlt
      rw [← bdG_at (n := n) hlt] at c1
      unfold prt at HN hpb
      obtain ⟨x, hx⟩ : ∃ x, x = bdG n L (j + 1) := ⟨_, rfl⟩
      obtain ⟨y, hy⟩ : ∃ y, y = bdG n L j := ⟨_, rfl⟩
      have HX := Lib.hid hx
      rw [← hx] at c1 HN hpb
      rw [← hy] at HN hpb ⊢
      clear hat hx hy
      go_wp2_with (at_builtin; refine wpList_append_own _ rfl (.tmp 15) (.tmp 19) _ rfl w.heap.size 3 i0 _ 1 8 Try.underlying22 hi hz0 hz1 hz2 rfl (by decide) _ (partJ n L j).length ((partJ n L j).map (Value.int .i64)) rfl (World.ownsRow.alloc HO.out _) ⟨_, 0, none⟩ 1 1 [.int .i64 (x - y)] rfl rfl (World.news_of_block (cs := #[.int .i64 (x - y)]) (t := 3) (fr := (0, 0)) (by first | exact heap_alloc_new _ _ | exact heap_new_set _ _ _ _ _)) (by simp [Value.oneCell']) (by unfold maxLen; omega) (by omega) (by simp; omega) ?_; intro v' w3 hown' hgrow _)
      have HR : Hid (OwnInts w3 w.heap.size 3 v' (partJ n L (j + 1))) := Lib.hid (by rw [HN.out]; exact OwnInts.snoc hown')
      have HB3 : Hid (Below w.heap.size w w3) := Lib.hid ((hb.alloc hbs _).grown hgrow (by simp; omega) fun k hk => (World.ownsRow.lt HO.out k hk).1)
      clear hown' hgrow
      go_wp2
      go_roundw
      case rel => exact ⟨j + 1, by omega, by go_num, by rw [HX.out], HR.out, HB3.out⟩
      case measure => simp [intOf]; omega
    · obtain rfl : j = L.length := by omega
      unfold prt at HN hpb
      rw [HBE.out] at HN hpb
      obtain ⟨y, hy⟩ : ∃ y, y = bdG n L L.length := ⟨_, rfl⟩
      rw [← hy] at HN hpb ⊢
      clear hy
      go_wp2_with (at_builtin; refine wpList_append_own _ rfl (.tmp 23) (.tmp 27) _ rfl w.heap.size 3 i0 _ 1 8 Try.underlying22 hi hz0 hz1 hz2 rfl (by decide) _ (partJ n L L.length).length ((partJ n L L.length).map (Value.int .i64)) rfl (World.ownsRow.alloc HO.out _) ⟨_, 0, none⟩ 1 1 [.int .i64 (n - y)] rfl rfl (World.news_of_block (cs := #[.int .i64 (n - y)]) (t := 3) (fr := (0, 0)) (by first | exact heap_alloc_new _ _ | exact heap_new_set _ _ _ _ _)) (by simp [Value.oneCell']) (by unfold maxLen; omega) (by omega) (by simp; omega) ?_; intro v' w3 hown' hgrow _)
      have HR : Hid (OwnInts w3 w.heap.size 3 v' (partL n L)) := Lib.hid (by
        show OwnInts w3 w.heap.size 3 v' (partJ n L (L.length + 1))
        rw [HN.out]; exact OwnInts.snoc hown')
      have HB3 : Hid (Below w.heap.size w w3) := Lib.hid ((hb.alloc hbs _).grown hgrow (by simp; omega) fun k hk => (World.ownsRow.lt HO.out k hk).1)
      clear hown' hgrow
      go_ret
      exact ⟨_, rfl, HR.out, HB3.out⟩
end Go.Proofs.Ytbocdhibimcobaa
