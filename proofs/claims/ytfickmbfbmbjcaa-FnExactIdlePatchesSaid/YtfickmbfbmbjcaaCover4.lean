/- Patches that cover a yard: 'impl.isMended', 'impl.AreCovering'. No condition but the lengths. -/
import Derived.Test.YtfickmbfbmbjcaaCover3
import Derived.Lib.IndexAny
namespace Go.Proofs.Ytfickmbfbmbjcaa
open Go.RowKit

theorem mendAll_take {s : ByteArray} {P : List (Nat × Nat)} {j : Nat} (h : j < P.length) : mendAll s (P.take (j + 1)) = mendS (mendAll s (P.take j)) P[j].1 P[j].2 := by
  rw [List.take_succ_eq_append_getElem h, mendAll_snoc]
set_option maxRecDepth 20000 in
set_option maxHeartbeats 4000000 in
theorem isMended_any (s : ByteArray) (V : Value) (P : List (Nat × Nat)) (w : World) (base : Nat) (hs : s.size ≤ 30) (hl : P.length ≤ 1000) (hP : ∀ p ∈ P, p.1 ≤ p.2 ∧ p.2 < s.size) (h : OwnP w base V P) :
    Calls Try.prog 97 #[.string s, V] w fun e w' => e = .returned (.bool (!(mendAll s P).data.toList.contains 120)) ∧ Below w.heap.size w w' := by
  obtain ⟨A, c, rfl⟩ := own_any h
  have HO := Lib.hid h
  have HP := Lib.hid hP
  clear h hP
  have HCR := Lib.hid fun W => Try.strings_ContainsRune_ascii (mendAll s P) 120 W (by omega) (by omega)
  rw [show decide (0 ≤ Lib.indexByte (mendAll s P).data.toList (120 : Int).toNat.toUInt8) = (mendAll s P).data.toList.contains 120 from (Lib.contains_iff_indexByte _ _).symm] at HCR
  obtain ⟨q, hq⟩ : ∃ q, q = (mendAll s P).data.toList.contains 120 := ⟨_, rfl⟩
  rw [← hq] at HCR ⊢
  clear hq
  go_enter Try.func97, Try.ntmps97
  go_wp2
  go_loopw [0, 9] (fun y i wr => ∃ j : Nat, j ≤ P.length ∧ i = .int .i64 j ∧ y = .string (mendAll s (P.take j)) ∧ Below w.heap.size w wr) (fun _ i _ => P.length - (intOf i).toNat)
  case atStart => exact ⟨0, Nat.zero_le _, rfl, rfl, Below.refl _ _⟩
  case round =>
    obtain ⟨j, hj, rfl, rfl, hb⟩ := hrel
    have HB := Lib.hid hb
    have hbs := hb.size
    by_cases hlt : j < P.length
    · obtain ⟨g, c', hV, hgb, hgl⟩ := own_some HO.out (by omega)
      injection hV with hV1 hV2 hV3
      subst hV1
      have k0 := World.ownsRow.cellAt HO.out (j * 2) (by omega)
      have k1 := World.ownsRow.cellAt HO.out (j * 2 + 1) (by omega)
      rw [(pairC_at P hlt).1, ← (bcell hb).1 g _ hgl] at k0
      rw [(pairC_at P hlt).2, ← (bcell hb).1 g _ hgl] at k1
      have hp := HP.out P[j] (List.getElem_mem _)
      have HT := Lib.hid (mendAll_take (s := s) hlt)
      have hsz := (mendAll_at (P.take j) s rfl fun p hp => HP.out p (List.mem_of_mem_take hp)).1
      obtain ⟨x, hx⟩ : ∃ x, x = P[j].1 := ⟨_, rfl⟩
      obtain ⟨y, hy⟩ : ∃ y, y = P[j].2 := ⟨_, rfl⟩
      rw [← hx] at k0 hp HT
      rw [← hy] at k1 hp HT
      obtain ⟨Y, hY⟩ : ∃ Y, Y = mendAll s (P.take j) := ⟨_, rfl⟩
      rw [← hY] at HT hsz ⊢
      have HM := Lib.hid fun W => mended_any Y x y W hp.1 (by omega) (by omega)
      rw [← HT.out] at HM
      have HB1 := Lib.hid (hb.alloc hbs (.cells #[.int .i64 (x : Int), .int .i64 (y : Int)] 65))
      clear hx hy hY HT hV2 hV3 hb
      go_wp2_with fail
      refine (HM.out _).mono ?_
      rintro e w2 ⟨rfl, hb2⟩
      have HB2 := Lib.hid (below_nextN HB1.out HB1.out.size hb2)
      clear hb2
      go_wp2
      go_roundw
      case rel => exact ⟨j + 1, by omega, by go_num, rfl, HB2.out⟩
      case measure => simp [intOf]; omega
    · obtain rfl : j = P.length := by omega
      rw [List.take_length]
      go_wp2_with fail
      refine (HCR.out _).mono ?_
      rintro e w2 ⟨rfl, rfl⟩
      go_wp2
      go_ret
      exact ⟨rfl, HB.out⟩

theorem implAreCovering_any (s0 : ByteArray) (A1 : Option Addr) (c1 : Nat) (L1 : List (List Int)) (w : World) (hs : s0.size ≤ maxLen) (l1 : SSok L1) (_ : ∀ L ∈ L1, WfL L) (_ : L1.length ≤ c1) (h1 : IntSS w A1 L1) :
    Calls Try.prog 55 #[.string s0, .slice A1 L1.length c1] w fun e w' => e = .returned (.tuple #[.bool (acB s0 L1), .bool (okAC s0 L1)]) ∧ Below w.heap.size w w' := by
  have hl := l1.1
  unfold acB okAC
  have HY := Lib.hid fun W => implIsYard_any s0 W hs
  cases h : okYard s0
  · rw [h] at HY
    clear h h1
    go_enter Try.func55, Try.ntmps55
    go_wp2_with (go_at_call 24; refine (HY.out _).mono ?_; rintro e w1 ⟨rfl, hb1⟩)
    go_ret2
    exact ⟨rfl, hb1⟩
  · have hz := okYard_size h
    rw [h] at HY
    by_cases hk : L1.length ≤ 10
    · rw [decide_eq_true hk]
      have HS := Lib.hid fun W hW => stretchesOf_any s0 A1 c1 L1 W hz.2 (by omega) l1.2.1 hW
      have HSS := Lib.hid h1
      unfold areP
      cases ha : L1.all (okPt s0.size)
      · rw [ha] at HS
        clear h1 h ha
        go_enter Try.func55, Try.ntmps55
        go_wp2_with (first
          | (go_at_call 24; refine (HY.out _).mono ?_; rintro e w1 ⟨rfl, hb1⟩)
          | (go_at_call 96; refine (HS.out _ (HSS.out.below hb1)).mono ?_; rintro e w2 ⟨v, rfl, -, -, hb2⟩))
        go_ret2
        exact ⟨rfl, below_next hb1 hb2⟩
      · rw [ha] at HS
        have hP : ∀ p ∈ L1.map ptOf, p.1 ≤ p.2 ∧ p.2 < s0.size := fun p hp => by
          obtain ⟨L, hL, rfl⟩ := List.mem_map.1 hp
          obtain ⟨a, b, rfl, h1, h2⟩ := okPt_two (all_mem ha L hL)
          exact ⟨by show (a : Int).toNat ≤ (b : Int).toNat; omega, by show (b : Int).toNat < _; omega⟩
        have HM := Lib.hid fun V W base ho => isMended_any s0 V (L1.map ptOf) W base hz.2 (by rw [List.length_map]; omega) hP ho
        rw [mended_covers (all_mem ha)] at HM
        clear h1 h ha hP
        obtain ⟨q, hq⟩ : ∃ q, q = covers s0 L1 := ⟨_, rfl⟩
        rw [← hq] at HM ⊢
        clear hq
        go_enter Try.func55, Try.ntmps55
        go_wp2_with (first
          | (go_at_call 24; refine (HY.out _).mono ?_; rintro e w1 ⟨rfl, hb1⟩)
          | (go_at_call 96; refine (HS.out _ (HSS.out.below hb1)).mono ?_; rintro e w2 ⟨v, rfl, ho, -, hb2⟩)
          | (go_at_call 97; refine (HM.out _ _ _ (ho (by trivial))).mono ?_; rintro e w3 ⟨rfl, hb3⟩))
        go_ret2
        exact ⟨rfl, below_next (below_next hb1 hb2) hb3⟩
    · rw [decide_eq_false hk]
      clear h1 h
      go_enter Try.func55, Try.ntmps55
      go_wp2_with (go_at_call 24; refine (HY.out _).mono ?_; rintro e w1 ⟨rfl, hb1⟩)
      go_ret2
      exact ⟨rfl, hb1⟩
end Go.Proofs.Ytfickmbfbmbjcaa
