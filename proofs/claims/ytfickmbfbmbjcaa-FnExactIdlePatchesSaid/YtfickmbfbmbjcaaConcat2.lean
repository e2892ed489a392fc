/- slices.Concat of two lists of stretches. No condition but the lengths. -/
import Derived.Test.YtfickmbfbmbjcaaConcat
namespace Go.Proofs.Ytfickmbfbmbjcaa
open Go.RowKit

/-- what is laid behind so many of two lists -/
def cat2 (P Q : List (Nat × Nat)) : Nat → List (Nat × Nat)
  | 0 => []
  | 1 => P
  | _ => P ++ Q
set_option maxRecDepth 100000 in
set_option maxHeartbeats 4000000 in
theorem concat_any (gb : Nat) (ad1 ad2 : Addr) (c1 c2 : Nat) (P1 P2 : List (Nat × Nat)) (w : World) (hl1 : P1.length ≤ 100) (hl2 : P2.length ≤ 100) (hgb : gb < w.heap.size)
    (k0 : w.cell? ⟨gb, 0, none⟩ = some (.slice (some ad1) P1.length c1)) (k1 : w.cell? ⟨gb, 1, none⟩ = some (.slice (some ad2) P2.length c2))
    (h1 : ∀ W, Below w.heap.size w W → ∀ j u, (pairC P1)[j]? = some u → W.cell? (ad1.add j) = some u) (h2 : ∀ W, Below w.heap.size w W → ∀ j u, (pairC P2)[j]? = some u → W.cell? (ad2.add j) = some u) :
    Calls Try.prog 103 #[.slice (some ⟨gb, 0, none⟩) 2 2] w fun e w' => ∃ v, e = .returned v ∧ OwnP w' w.heap.size v (P1 ++ P2) ∧ Below w.heap.size w w' := by
  obtain ⟨i0, hi, hz0, hz1, hz2⟩ := info_parts info_st
  have H1 := Lib.hid h1
  have H2 := Lib.hid h2
  have HG := Lib.hid fun W => growNil_any (P1.length + P2.length) W (by omega)
  have hpl1 := Lib.hid (pairC_len P1)
  have hpl2 := Lib.hid (pairC_len P2)
  have K0 := Lib.hid k0
  have K1 := Lib.hid k1
  clear h1 h2
  go_enter Try.func103, Try.ntmps103
  go_wp2
  go_loop [3, 11] (fun s i => ∃ j : Nat, j ≤ 2 ∧ i = .int .i64 j ∧ s = .int .i64 ((if j = 0 then 0 else if j = 1 then P1.length else P1.length + P2.length : Nat) : Int)) (fun _ i => 2 - (intOf i).toNat)
  case atStart => exact ⟨0, Nat.zero_le _, rfl, rfl⟩
  case round =>
    obtain ⟨j, hj, rfl, rfl⟩ := hrel
    rcases (show j = 0 ∨ j = 1 ∨ j = 2 by omega) with rfl | rfl | rfl
    · rw [if_pos rfl]
      go_wp2
      go_round
      case rel => exact ⟨1, by omega, rfl, by rw [if_neg (by decide), if_pos rfl]⟩
      case measure => simp [intOf]
    · rw [if_neg (by decide), if_pos rfl]
      go_wp2
      go_round
      case rel => exact ⟨2, by omega, rfl, by rw [if_neg (by decide), if_neg (by decide)]; go_num⟩
      case measure => simp [intOf]
    · rw [if_neg (by decide), if_neg (by decide)]
      have HG' := Lib.hid (HG.out w)
      rw [Int.natCast_add] at HG'
      rw [Int.natCast_add]
      go_wp2_with fail
      refine HG'.out.mono ?_
      rintro e w1 ⟨A, c, rfl, ho, hb⟩
      have HO := Lib.hid ho
      have HB := Lib.hid hb
      clear ho hb HG HG'
      go_wp2
      go_loopw [6, 27] (fun v i wr => ∃ j : Nat, j ≤ 2 ∧ i = .int .i64 j ∧ OwnP wr w.heap.size v (cat2 P1 P2 j) ∧ Below w.heap.size w wr) (fun _ i _ => 2 - (intOf i).toNat)
      case atStart => exact ⟨0, Nat.zero_le _, rfl, HO.out, HB.out⟩
      case round =>
        clear HO HB
        obtain ⟨j, hj, rfl, ho, hb⟩ := hrel
        have hbs := hb.size
        rcases (show j = 0 ∨ j = 1 ∨ j = 2 by omega) with rfl | rfl | rfl
        · change OwnP wr w.heap.size _ [] at ho
          have HO := Lib.hid ho
          have HB := Lib.hid hb
          have y0 := K0.out
          rw [← (bcell hb).1 gb 0 hgb] at y0
          clear ho hb k0 k1
          go_wp2_with (at_builtin; refine wpList_append_own _ rfl (.tmp 31) (.tmp 32) _ rfl w.heap.size 65 i0 _ 2 16 Try.underlying69 hi hz0 hz1 hz2 rfl (by decide) _ 0 [] rfl HO.out ad1 P1.length c1 (pairC P1) rfl hpl1.out (H1.out _ HB.out) (pair_one P1) (by unfold maxLen; omega) (by omega) hbs ?_; intro v' w3 hown' hgrow _)
          have HR : Hid (OwnP w3 w.heap.size v' (cat2 P1 P2 (0 + 1))) := Lib.hid (by
            have h : w3.ownsRow w.heap.size 65 2 v' (([] : List (Nat × Nat)).length + P1.length) (pairC [] ++ pairC P1) := hown'
            show OwnP _ _ _ ([] ++ P1)
            exact OwnP.app h)
          have HB3 : Hid (Below w.heap.size w w3) := Lib.hid (HB.out.grown hgrow hbs fun k hk => (World.ownsRow.lt HO.out k hk).1)
          clear hown' hgrow
          go_wp2
          go_roundw
          case rel => exact ⟨0 + 1, by omega, rfl, HR.out, HB3.out⟩
          case measure => simp [intOf]
        · change OwnP wr w.heap.size _ P1 at ho
          have HO := Lib.hid ho
          have HB := Lib.hid hb
          have y0 := K1.out
          rw [← (bcell hb).1 gb 1 hgb] at y0
          clear ho hb k0 k1
          go_wp2_with (at_builtin; refine wpList_append_own _ rfl (.tmp 31) (.tmp 32) _ rfl w.heap.size 65 i0 _ 2 16 Try.underlying69 hi hz0 hz1 hz2 rfl (by decide) _ P1.length (pairC P1) rfl HO.out ad2 P2.length c2 (pairC P2) rfl hpl2.out (H2.out _ HB.out) (pair_one P2) (by unfold maxLen; omega) (by omega) hbs ?_; intro v' w3 hown' hgrow _)
          have HR : Hid (OwnP w3 w.heap.size v' (cat2 P1 P2 2)) := Lib.hid (by show OwnP _ _ _ (P1 ++ P2); exact OwnP.app hown')
          have HB3 : Hid (Below w.heap.size w w3) := Lib.hid (HB.out.grown hgrow hbs fun k hk => (World.ownsRow.lt HO.out k hk).1)
          clear hown' hgrow
          go_wp2
          go_roundw
          case rel => exact ⟨2, by omega, rfl, HR.out, HB3.out⟩
          case measure => simp [intOf]
        · change OwnP wr w.heap.size _ (P1 ++ P2) at ho
          have HO := Lib.hid ho
          have HB := Lib.hid hb
          clear ho hb
          go_wp2
          go_ret
          exact ⟨_, rfl, HO.out, HB.out⟩
end Go.Proofs.Ytfickmbfbmbjcaa
