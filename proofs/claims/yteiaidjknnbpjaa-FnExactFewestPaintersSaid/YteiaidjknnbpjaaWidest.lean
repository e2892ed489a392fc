/- WidestBoards of both sides. No condition but the list's length. -/
import Derived.Test.YteiaidjknnbpjaaCut
namespace Go.Proofs.Yteiaidjknnbpjaa
open Go.RowKit

/-- the indices below j that P picks -/
def pickJ (P : Nat → Bool) (j : Nat) : List Int := ((List.range j).filter P).map fun x : Nat => (x : Int)
theorem pickJ_len (P : Nat → Bool) (j : Nat) : (pickJ P j).length ≤ j := by
  unfold pickJ
  rw [List.length_map]
  have := List.length_filter_le P (List.range j)
  rwa [List.length_range] at this
theorem pickJ_yes {P : Nat → Bool} {j : Nat} (h : P j = true) : pickJ P (j + 1) = pickJ P j ++ [(j : Int)] := by
  unfold pickJ; rw [List.range_succ, List.filter_append, List.map_append]; simp [h]
theorem pickJ_no {P : Nat → Bool} {j : Nat} (h : P j = false) : pickJ P (j + 1) = pickJ P j := by
  unfold pickJ; rw [List.range_succ, List.filter_append, List.map_append]; simp [h]
def isWide (L : List Int) (j : Nat) : Bool := L.getD j 0 == Lib.maxOf L
def resWide (L : List Int) : List Int := if okW L = true then pickJ (isWide L) L.length else []
theorem resWide_len (L : List Int) : (resWide L).length ≤ 1048576 := by
  unfold resWide
  split
  · next h => have := okW_len h; have := pickJ_len (isWide L) L.length; omega
  · exact Nat.zero_le _
theorem maxOf_zero {L : List Int} (h : okW L = true) : L.foldl max 0 = Lib.maxOf L := by
  have hl := okW_len h
  have hx := okW_mem h
  apply Int.le_antisymm
  · rw [foldl_max_le]
    have h1 := (maxOf_le (L := L) (by omega) (Lib.maxOf L)).1 (Int.le_refl _)
    refine ⟨?_, h1⟩
    have := h1 L[0] (List.getElem_mem (by omega))
    have := hx L[0] (List.getElem_mem (by omega))
    omega
  · rw [maxOf_le (by omega)]
    exact ((foldl_max_le L 0 _).1 (Int.le_refl _)).2
theorem foldl_take_succ {L : List Int} {k : Nat} (h : k < L.length) : (L.take (k + 1)).foldl max 0 = max ((L.take k).foldl max 0) L[k] := by
  rw [List.take_succ_eq_append_getElem h, List.foldl_append]; rfl
theorem l1Most_any (a b : Int) (w : World) : Calls Try.prog 117 #[.int .i64 a, .int .i64 b] w fun e w' => e = .returned (.int .i64 (max a b)) ∧ w = w' := by
  by_cases h : b < a
  · have HM : Hid (max a b = a) := Lib.hid (by omega)
    rw [HM.out]
    go_enter Try.func117, Try.ntmps117
    go_wp2
    go_ret
    exact ⟨rfl, rfl⟩
  · have HM : Hid (max a b = b) := Lib.hid (by omega)
    rw [HM.out]
    go_enter Try.func117, Try.ntmps117
    go_wp2
    go_ret
    exact ⟨rfl, rfl⟩

set_option maxRecDepth 20000 in
set_option maxHeartbeats 1000000 in
theorem implWidestBoards_any (A0 : Option Addr) (c0 : Nat) (L0 : List Int) (w : World) (l0 : L0.length ≤ 1048576) (_ : WfL L0) (_ : L0.length ≤ c0) (h0 : IntSl w A0 L0) :
    Calls Try.prog 71 #[.slice A0 L0.length c0] w fun e w' => ∃ v, e = .returned (.tuple #[v, .bool (okW L0)]) ∧ OwnInts w' w.heap.size 3 v (resWide L0) ∧ Below w.heap.size w w' := by
  obtain ⟨i0, hi, hz0, hz1, hz2⟩ := info_parts info_int
  have HW := Lib.hid (implWidths_any A0 c0 L0 w l0 h0)
  cases hw : okW L0
  · rw [show resWide L0 = [] by unfold resWide; rw [hw]; rfl]
    rw [hw] at HW
    clear hw
    go_enter Try.func71, Try.ntmps71
    go_wp2_with (go_at_call 53; refine HW.out.mono ?_; rintro e w1 ⟨rfl, rfl⟩)
    go_ret2
    exact ⟨_, rfl, OwnInts.nil _ _ _, Below.refl _ _⟩
  · rw [show resWide L0 = pickJ (isWide L0) L0.length by unfold resWide; rw [if_pos hw]]
    rw [hw] at HW
    have hl := okW_len hw
    have HX := Lib.hid (slMax_any A0 c0 L0 w (by omega) l0 h0)
    obtain ⟨m, hm⟩ : ∃ m, m = Lib.maxOf L0 := ⟨_, rfl⟩
    rw [← hm] at HX
    have HP : Hid (∀ j (hj : j < L0.length), isWide L0 j = (L0[j] == m)) := Lib.hid fun j hj => by unfold isWide; rw [getD_lt L0 j hj, hm]
    have HSL := Lib.hid h0
    clear hw hm h0
    go_enter Try.func71, Try.ntmps71
    go_wp2_with (first
      | (go_at_call 53; refine HW.out.mono ?_; rintro e w1 ⟨rfl, rfl⟩)
      | (go_at_call 118; refine HX.out.mono ?_; rintro e w1 ⟨rfl, rfl⟩))
    go_loopw [5, 6, 7, 15] (fun v _ _ i wr => ∃ j : Nat, j ≤ L0.length ∧ i = .int .i64 j ∧ OwnInts wr w.heap.size 3 v (pickJ (isWide L0) j) ∧ Below w.heap.size w wr) (fun _ _ _ i _ => L0.length - (intOf i).toNat)
    case atStart => exact ⟨0, Nat.zero_le _, rfl, OwnInts.nil _ _ _, Below.refl _ _⟩
    case round =>
      obtain ⟨j, hj, rfl, hown, hb⟩ := hrel
      have HO := Lib.hid hown
      clear hown
      by_cases hlt : j < L0.length
      · obtain ⟨g, off, rfl, hg, hat⟩ := (HSL.out.below hb).some (by omega)
        have c1 := hat j hlt
        have hpj := HP.out j hlt
        cases hn : isWide L0 j
        · have HN := Lib.hid (pickJ_no hn)
          rw [hn] at hpj
          have hq : (L0[j] == m) = false := hpj.symm
          clear hn hpj hat
          go_wp2
          go_roundw
          case rel => exact ⟨j + 1, by omega, by go_num, by rw [HN.out]; exact HO.out, hb⟩
          case measure => simp [intOf]; omega
        · have HN := Lib.hid (pickJ_yes hn)
          rw [hn] at hpj
          have hq : (L0[j] == m) = true := hpj.symm
          have hlen := pickJ_len (isWide L0) j
          have hbs := hb.size
          clear hn hpj hat
          have hqe : L0[j] = m := by simpa using hq
          rw [hqe] at c1
          clear hq hqe
          have hq : (m == m) = true := by simp
          go_wp2_with (at_builtin; refine wpList_append_own _ rfl (.tmp 23) (.tmp 25) _ rfl w.heap.size 3 i0 _ 1 8 Try.underlying24 hi hz0 hz1 hz2 rfl (by decide) _ (pickJ (isWide L0) j).length ((pickJ (isWide L0) j).map (Value.int .i64)) rfl (World.ownsRow.alloc HO.out _) ⟨_, 0, none⟩ 1 1 [.int .i64 (j : Int)] rfl rfl (World.news_of_block (cs := #[.int .i64 (j : Int)]) (t := 3) (fr := (0, 0)) (heap_alloc_new _ _)) (by simp [Value.oneCell']) (by unfold maxLen; omega) (by omega) (by simp; omega) ?_; intro v' w3 hown' hgrow _)
          have HR : Hid (OwnInts w3 w.heap.size 3 v' (pickJ (isWide L0) (j + 1))) := Lib.hid (by rw [HN.out]; exact OwnInts.snoc hown')
          have HB3 : Hid (Below w.heap.size w w3) := Lib.hid ((hb.alloc hbs _).grown hgrow (by simp; omega) fun k hk => (World.ownsRow.lt HO.out k hk).1)
          clear hown' hgrow
          go_roundw
          case rel => exact ⟨j + 1, by omega, by go_num, HR.out, HB3.out⟩
          case measure => simp [intOf]; omega
      · obtain rfl : j = L0.length := by omega
        go_wp2
        go_ret2
        exact ⟨_, rfl, HO.out, hb⟩

set_option maxRecDepth 20000 in
set_option maxHeartbeats 1000000 in
theorem specWidestBoards_any (A0 : Option Addr) (c0 : Nat) (L0 : List Int) (w : World) (l0 : L0.length ≤ 1048576) (_ : WfL L0) (_ : L0.length ≤ c0) (h0 : IntSl w A0 L0) :
    Calls Try.prog 70 #[.slice A0 L0.length c0] w fun e w' => ∃ v, e = .returned (.tuple #[v, .bool (okW L0)]) ∧ OwnInts w' w.heap.size 3 v (resWide L0) ∧ Below w.heap.size w w' := by
  obtain ⟨i0, hi, hz0, hz1, hz2⟩ := info_parts info_int
  have HW := Lib.hid (shWidths_any A0 c0 L0 w l0 h0)
  cases hw : okW L0
  · rw [show resWide L0 = [] by unfold resWide; rw [hw]; rfl]
    rw [hw] at HW
    clear hw
    go_enter Try.func70, Try.ntmps70
    go_wp2_with (go_at_call 104; refine HW.out.mono ?_; rintro e w1 ⟨rfl, rfl⟩)
    go_ret2
    exact ⟨_, rfl, OwnInts.nil _ _ _, Below.refl _ _⟩
  · rw [show resWide L0 = pickJ (isWide L0) L0.length by unfold resWide; rw [if_pos hw]]
    rw [hw] at HW
    have hl := okW_len hw
    have hmx := maxOf_zero hw
    obtain ⟨m, hm⟩ : ∃ m, m = Lib.maxOf L0 := ⟨_, rfl⟩
    rw [← hm] at hmx
    have HMX := Lib.hid hmx
    have HP : Hid (∀ j (hj : j < L0.length), isWide L0 j = (L0[j] == m)) := Lib.hid fun j hj => by unfold isWide; rw [getD_lt L0 j hj, hm]
    have HSL := Lib.hid h0
    obtain ⟨g, off, rfl, hg, hat⟩ := h0.some (by omega)
    have HAT := Lib.hid hat
    clear hw hm h0 hmx hat
    go_enter Try.func70, Try.ntmps70
    go_wp2_with (go_at_call 104; refine HW.out.mono ?_; rintro e w1 ⟨rfl, rfl⟩)
    go_loop [4, 6, 15] (fun u _ i => ∃ k : Nat, k ≤ L0.length ∧ i = .int .i64 k ∧ u = .int .i64 ((L0.take k).foldl max 0)) (fun _ _ i => L0.length - (intOf i).toNat)
    case atStart => exact ⟨0, Nat.zero_le _, rfl, rfl⟩
    case round =>
      obtain ⟨k, hk, rfl, rfl⟩ := hrel
      by_cases hlt : k < L0.length
      · have c1 := HAT.out k hlt
        have HS := Lib.hid (foldl_take_succ hlt)
        go_wp2_with (go_at_call 117; refine (l1Most_any _ _ _).mono ?_; rintro e w1 ⟨rfl, rfl⟩; rw [← HS.out])
        go_round
        case rel => exact ⟨k + 1, by omega, by go_num, rfl⟩
        case measure => simp [intOf]; omega
      · obtain rfl : k = L0.length := by omega
        rw [List.take_length, HMX.out]
        clear HAT
        go_wp2
        go_loopw [7, 8, 9, 25] (fun v _ _ i wr => ∃ j : Nat, j ≤ L0.length ∧ i = .int .i64 j ∧ OwnInts wr w.heap.size 3 v (pickJ (isWide L0) j) ∧ Below w.heap.size w wr) (fun _ _ _ i _ => L0.length - (intOf i).toNat)
        case atStart => exact ⟨0, Nat.zero_le _, rfl, OwnInts.nil _ _ _, Below.refl _ _⟩
        case round =>
          obtain ⟨j, hj, rfl, hown, hb⟩ := hrel
          have HO := Lib.hid hown
          clear hown
          by_cases hlt : j < L0.length
          · obtain ⟨g', off', he, hg', hat⟩ := (HSL.out.below hb).some (by omega)
            injection he with he
            injection he with he1 he2 he3
            subst he1 he2
            have c1 := hat j hlt
            have hpj := HP.out j hlt
            cases hn : isWide L0 j
            · have HN := Lib.hid (pickJ_no hn)
              rw [hn] at hpj
              have hq : (L0[j] == m) = false := hpj.symm
              clear hn hpj hat
              go_wp2
              go_roundw
              case rel => exact ⟨j + 1, by omega, by go_num, by rw [HN.out]; exact HO.out, hb⟩
              case measure => simp [intOf]; omega
            · have HN := Lib.hid (pickJ_yes hn)
              rw [hn] at hpj
              have hqe : L0[j] = m := by simpa using hpj.symm
              rw [hqe] at c1
              have hlen := pickJ_len (isWide L0) j
              have hbs := hb.size
              clear hn hpj hat hqe
              have hq : (m == m) = true := by simp
              go_wp2_with (at_builtin; refine wpList_append_own _ rfl (.tmp 33) (.tmp 35) _ rfl w.heap.size 3 i0 _ 1 8 Try.underlying24 hi hz0 hz1 hz2 rfl (by decide) _ (pickJ (isWide L0) j).length ((pickJ (isWide L0) j).map (Value.int .i64)) rfl (World.ownsRow.alloc HO.out _) ⟨_, 0, none⟩ 1 1 [.int .i64 (j : Int)] rfl rfl (World.news_of_block (cs := #[.int .i64 (j : Int)]) (t := 3) (fr := (0, 0)) (heap_alloc_new _ _)) (by simp [Value.oneCell']) (by unfold maxLen; omega) (by omega) (by simp; omega) ?_; intro v' w3 hown' hgrow _)
              have HR : Hid (OwnInts w3 w.heap.size 3 v' (pickJ (isWide L0) (j + 1))) := Lib.hid (by rw [HN.out]; exact OwnInts.snoc hown')
              have HB3 : Hid (Below w.heap.size w w3) := Lib.hid ((hb.alloc hbs _).grown hgrow (by simp; omega) fun k hk => (World.ownsRow.lt HO.out k hk).1)
              clear hown' hgrow
              go_roundw
              case rel => exact ⟨j + 1, by omega, by go_num, HR.out, HB3.out⟩
              case measure => simp [intOf]; omega
          · obtain rfl : j = L0.length := by omega
            go_wp2
            go_ret2
            exact ⟨_, rfl, HO.out, hb⟩
end Go.Proofs.Yteiaidjknnbpjaa
