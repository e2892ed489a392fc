/- KeptBoards: the law's walk. No condition but the texts' lengths. -/
import Derived.Test.YtohmodjigneldaaKeptSides
import Derived.Test.YtohmodjigneldaaFirstLaw
namespace Go.Proofs.Ytohmodjigneldaa
open Go.RowKit

set_option maxHeartbeats 1600000 in
theorem lawKeptBoards_walk (s t : ByteArray) (w : World) (hs : s.size ≤ maxLen) (ht : t.size ≤ maxLen) :
    Calls Try.prog 6 #[.string s, .string t] w fun e w' => e = .returned (.bool true) ∧ Below w.heap.size w w' := by
  have HS := Lib.hid fun W => specKeptBoards_any s t W hs ht
  have HI := Lib.hid fun W => implKeptBoards_any s t W hs ht
  obtain ⟨Z, hZ⟩ : ∃ Z, Z = keptR s t := ⟨_, rfl⟩
  have hlen := keptR_len s t
  rw [← hZ] at HS HI hlen
  obtain ⟨Q, hQ⟩ : ∃ Q : Int, Q = ((1 + Z.length : Nat) : Int) := ⟨_, rfl⟩
  have hq0 : ¬ Q < 0 := by omega
  have HMk : Hid (∀ (b : Nat) (v : Value) (W : World), OwnInts W b 3 v Z → Calls Try.prog 19 #[v, .int .i64 1] W fun e w' => e = .returned (.int .i64 Q) ∧ w'.ownsRow b 3 1 v Z.length (marksI 1 Z.length) ∧ W.grownBy w' v.ownBlock) := Lib.hid fun b v W h => by
    rw [hQ]; exact markInts_any b Z.length v Z W 1 (by omega) (by omega) rfl h
  have HHe : Hid (∀ (b : Nat) (v : Value) (W : World), W.ownsRow b 3 1 v Z.length (marksI 1 Z.length) → Calls Try.prog 20 #[v, .int .i64 1] W fun e w' => e = .returned (.int .i64 Q) ∧ W = w') := Lib.hid fun b v W h => by
    rw [hQ]; exact heldInts_any b Z.length v W 1 (by omega) (by omega) h
  clear hZ hQ
  have hs0 := hs
  have ht0 := ht
  unfold maxLen at hs ht
  by_cases h : s.size ≤ 1048576
  · by_cases h2 : t.size ≤ 1048576
    · go_enter Try.func6, Try.ntmps6
      go_wp2_with (first
        | (go_at_call 20; refine (HHe.out _ _ _ HK7.out).mono ?_; rintro e w8 ⟨rfl, rfl⟩)
        | (go_at_call 18; refine (eqInts_same _ _ _ _ Z _ HO2.out HO06.out).mono ?_; rintro e w7 ⟨rfl, hb7⟩; have HK7 := Lib.hid (own_below HK6.out hb7); have HB7 := Lib.hid (below_next HB6.out hb7); clear hb7)
        | (go_at_call 17; refine (HI.out _).mono ?_; rintro e w6 ⟨v2, rfl, hown2, hb6⟩; have HK6 := Lib.hid (own_below HK4.out hb6); have HO06 := Lib.hid (own_below HO04.out hb6); have HB6 := Lib.hid (below_next HB4.out hb6); have HO2 := Lib.hid hown2; clear hown2 hb6)
        | (go_at_call 20; refine (HHe.out _ _ _ HK4.out).mono ?_; rintro e w5 ⟨rfl, rfl⟩)
        | (go_at_call 19; refine (HMk.out _ _ _ HO13.out).mono ?_; rintro e w4 ⟨rfl, hk4, hg4⟩; have HK4 := Lib.hid hk4; have HO04 : Hid (w4.ownsRow w.heap.size 3 1 v0 Z.length (Z.map (Value.int .i64))) := Lib.hid (own_before HO0.out HO13.out HB13.out hg4); have HB4 : Hid (Below w.heap.size w w4) := Lib.hid (below_mark HB3.out HB1.out.size HO13.out hg4); clear hk4 hg4)
        | (go_at_call 18; refine (eqInts_same _ _ _ _ Z _ HO1.out (own_below HO0.out HB12.out)).mono ?_; rintro e w3 ⟨rfl, hb3⟩; have HO13 := Lib.hid (OwnInts.below HO1.out hb3); have HB13 := Lib.hid (below_next HB12.out hb3); have HB3 := Lib.hid (below_next HB1.out (below_next HB12.out hb3)); clear hb3)
        | (go_at_call 17; refine (HI.out _).mono ?_; rintro e w2 ⟨v1, rfl, hown1, hb2⟩; have HB12 := Lib.hid hb2; have HO1 := Lib.hid hown1; clear hown1 hb2)
        | (go_at_call 16; refine (HS.out _).mono ?_; rintro e w1 ⟨v0, rfl, hown0, hb1⟩; have HB1 := Lib.hid hb1; have HO0 := Lib.hid hown0; clear hown0 hb1))
      go_ret
      exact ⟨rfl, HB7.out⟩
    · go_enter Try.func6, Try.ntmps6
      go_wp2
      go_ret
      exact ⟨rfl, Below.refl _ _⟩
  · go_enter Try.func6, Try.ntmps6
    go_wp2
    go_ret
    exact ⟨rfl, Below.refl _ _⟩
end Go.Proofs.Ytohmodjigneldaa
