/- FirstOver: the law's walk. No condition but the texts' lengths. -/
import Derived.Test.YtohmodjigneldaaFewFirst2
namespace Go.Proofs.Ytohmodjigneldaa
open Go.RowKit

/-- a row made before stays what it is while a later one is written -/
theorem own_before {w1 w2 w3 : World} {b n n' size size' : Nat} {e e' : TypeId} {v v' : Value} {xs xs' : List Value} (h : w1.ownsRow b e size v n xs) (h' : w2.ownsRow w1.heap.size e' size' v' n' xs') (hb : Below w1.heap.size w1 w2) (hg : w2.grownBy w3 v'.ownBlock) : w3.ownsRow b e size v n xs := by
  refine (own_below h hb).kept hg ?_
  rcases hv : v.ownBlock with _ | g
  · exact .inl rfl
  · right
    intro e
    have l1 := (World.ownsRow.lt h g hv).2
    have l2 := (World.ownsRow.lt h' g e.symm).1
    omega

theorem below_mark {w w3 w4 : World} {b n size : Nat} {e : TypeId} {v : Value} {xs : List Value} (h : Below w.heap.size w w3) (hb : w.heap.size ≤ b) (ho : w3.ownsRow b e size v n xs) (hg : w3.grownBy w4 v.ownBlock) : Below w.heap.size w w4 :=
  h.grown hg h.size fun k hk => Nat.le_trans hb (World.ownsRow.lt ho k hk).1

set_option maxHeartbeats 1600000 in
theorem lawFirstOver_walk (s t : ByteArray) (w : World) (hs : s.size ≤ maxLen) (ht : t.size ≤ maxLen) :
    Calls Try.prog 5 #[.string s, .string t] w fun e w' => e = .returned (.bool true) ∧ Below w.heap.size w w' := by
  have HS := Lib.hid fun W => specFirstOver_any s t W hs ht
  have HI := Lib.hid fun W => implFirstOver_any s t W hs ht
  obtain ⟨L, hL⟩ : ∃ L, L = fiR s t := ⟨_, rfl⟩
  have hlen := fiR_len s t
  rw [← hL] at HS HI hlen
  obtain ⟨Q, hQ⟩ : ∃ Q : Int, Q = ((1 : Nat) : Int) + 3 * (L.length : Int) := ⟨_, rfl⟩
  have hq0 : ¬ Q < 0 := by omega
  have HMk : Hid (∀ (b : Nat) (v : Value) (xs : List Value) (W : World), W.ownsRow b 45 3 v L.length xs → Calls Try.prog 14 #[v, .int .i64 1] W fun e w' => e = .returned (.int .i64 Q) ∧ w'.ownsRow b 45 3 v L.length (strkCells (marksS 1 L.length)) ∧ W.grownBy w' v.ownBlock) := Lib.hid fun b v xs W h => by rw [hQ]; exact markStrokes_any b L.length v xs W 1 (by omega) (by omega) h
  have HHe : Hid (∀ (b : Nat) (v : Value) (W : World), W.ownsRow b 45 3 v L.length (strkCells (marksS 1 L.length)) → Calls Try.prog 15 #[v, .int .i64 1] W fun e w' => e = .returned (.int .i64 Q) ∧ Below W.heap.size W w') := Lib.hid fun b v W h => by rw [hQ]; exact heldStrokes_any b L.length v W 1 (by omega) (by omega) h
  clear hL hQ
  have hs0 := hs
  have ht0 := ht
  unfold maxLen at hs ht
  by_cases h : s.size ≤ 1048576
  · by_cases h2 : t.size ≤ 1048576
    · go_enter Try.func5, Try.ntmps5
      go_wp2_with (first
        | (go_at_call 15; refine (HHe.out _ _ _ HK7.out).mono ?_; rintro e w8 ⟨rfl, hb8⟩; have HZ := Lib.hid (below_next HB7.out hb8))
        | (go_at_call 13; refine (eqStrokeS_same _ _ _ _ L _ (by omega) (StrkSl.of_own HO2.out) (StrkSl.of_own HO06.out)).mono ?_; rintro e w7 ⟨rfl, hb7⟩; have HK7 := Lib.hid (own_below HK6.out hb7); have HB7 := Lib.hid (below_next HB6.out hb7); clear hb7)
        | (go_at_call 12; refine (HI.out _).mono ?_; rintro e w6 ⟨v2, rfl, hown2, hb6⟩; have HK6 := Lib.hid (own_below HK5.out hb6); have HO06 := Lib.hid (own_below HO05.out hb6); have HB6 := Lib.hid (below_next HB5.out hb6); obtain ⟨A2, c2, rfl⟩ := own_any hown2; have HO2 := Lib.hid hown2; clear hown2 hb6)
        | (go_at_call 15; refine (HHe.out _ _ _ HK4.out).mono ?_; rintro e w5 ⟨rfl, hb5⟩; have HK5 := Lib.hid (own_below HK4.out hb5); have HO05 := Lib.hid (own_below HO04.out hb5); have HB5 := Lib.hid (below_next HB4.out hb5); clear hb5)
        | (go_at_call 14; refine (HMk.out _ _ _ _ HO13.out).mono ?_; rintro e w4 ⟨rfl, hk4, hg4⟩; have HK4 := Lib.hid hk4; have HO04 : Hid (w4.ownsRow w.heap.size 45 3 (.slice A0 L.length c0) L.length (strkCells L)) := Lib.hid (own_before HO0.out HO13.out HB13.out hg4); have HB4 : Hid (Below w.heap.size w w4) := Lib.hid (below_mark HB3.out HB1.out.size HO13.out hg4); clear hk4 hg4)
        | (go_at_call 13; refine (eqStrokeS_same _ _ _ _ L _ (by omega) (StrkSl.of_own HO1.out) (StrkSl.of_own (own_below HO0.out HB12.out))).mono ?_; rintro e w3 ⟨rfl, hb3⟩; have HO13 := Lib.hid (own_below HO1.out hb3); have HB13 := Lib.hid (below_next HB12.out hb3); have HB3 := Lib.hid (below_next HB1.out (below_next HB12.out hb3)); clear hb3)
        | (go_at_call 12; refine (HI.out _).mono ?_; rintro e w2 ⟨v1, rfl, hown1, hb2⟩; have HB12 := Lib.hid hb2; obtain ⟨A1, c1, rfl⟩ := own_any hown1; have HO1 := Lib.hid hown1; clear hown1 hb2)
        | (go_at_call 11; refine (HS.out _).mono ?_; rintro e w1 ⟨v0, rfl, hown0, hb1⟩; have HB1 := Lib.hid hb1; obtain ⟨A0, c0, rfl⟩ := own_any hown0; have HO0 := Lib.hid hown0; clear hown0 hb1))
      go_ret
      exact ⟨rfl, HZ.out⟩
    · go_enter Try.func5, Try.ntmps5
      go_wp2
      go_ret
      exact ⟨rfl, Below.refl _ _⟩
  · go_enter Try.func5, Try.ntmps5
    go_wp2
    go_ret
    exact ⟨rfl, Below.refl _ _⟩
end Go.Proofs.Ytohmodjigneldaa
