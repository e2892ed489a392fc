/- StrokesText: the law's walk. No condition but the list's and its texts' lengths. -/
import Derived.Test.YtnijedmnjmeciaaDoorSText2
import Derived.Test.YtnijedmnjmeciaaDoorOpen
namespace Go.Proofs.YtnijedmnjmeciaaDoor
open Go.RowKit
theorem Short_of_tot {L : List Strk} (h : totS L ≤ 1048576) : L.length ≤ 1048576 := by
  have := preS_le L 0; rw [preS_zero] at this; omega

set_option maxHeartbeats 1000000 in
theorem lawStrokesText_walk (A : Option Addr) (cap : Nat) (L : List Strk) (w : World) (hl : L.length ≤ maxLen) (hs : Short L) (h : StrkSl w A L) :
    Calls Tryd.prog 3 #[.slice A L.length cap] w fun e w' => e = .returned (.bool true) ∧ Below w.heap.size w w' := by
  have hl0 := hl
  unfold maxLen at hl
  by_cases htot : 1048576 < totS L
  · have HP := Lib.hid (szRes_no htot)
    go_enter Tryd.func3, Tryd.ntmps3
    go_wp2_with (go_at_call 6; refine (szStrokeS_any A cap L _ hl0 hs h).mono ?_; rintro e w1 ⟨rfl, hb⟩; rw [HP.out])
    go_ret
    exact ⟨rfl, hb⟩
  · have HP := Lib.hid (szRes_yes (L := L) (by omega))
    have hle : L.length ≤ 1048576 := Short_of_tot (by omega)
    obtain ⟨p, q, hp⟩ : ∃ (p : ByteArray) (q : Bool), (if okList 20 L = true then #[.string (txB L), .bool true] else #[.string ⟨#[]⟩, .bool false] : Array Value) = #[.string p, .bool q] := by
      split
      · exact ⟨_, _, rfl⟩
      · exact ⟨_, _, rfl⟩
    have S := fun A cap (W : World) h => specSText_any A cap L W hl0 hs h
    have I := fun A cap (W : World) h => implSText_any A cap L W hl0 hs h
    rw [hp] at S I
    clear hp
    have HS := Lib.hid S
    have HI := Lib.hid I
    have hge : (0 : Int) ≤ 1048576 - (totS L : Int) := by omega
    clear S I
    go_enter Tryd.func3, Tryd.ntmps3
    go_wp2_with (first
      | (go_at_call 6; refine (szStrokeS_any A cap L _ hl0 hs h).mono ?_; rintro e w1 ⟨rfl, hb⟩; rw [HP.out])
      | (go_at_call 8; refine (toStrokeS_any A cap L _ hle (h.below hb)).mono ?_; rintro e w2 ⟨rfl, hown, hb2⟩; have hb := below_next hb hb2)
      | (go_at_call 7; refine (HS.out _ _ _ (StrkSl.of_own hown)).mono ?_; rintro e w2 ⟨rfl, hb2⟩; have hb := below_next hb hb2; have hown0 := own_below hown hb2)
      | (go_at_call 9; refine (HI.out _ _ _ (StrkSl.of_own hown)).mono ?_; rintro e w2 ⟨rfl, hb2⟩; have hb := below_next hb hb2; have hown1 := own_below hown hb2)
      | (go_at_call 10; refine (eqStrokeS_same _ _ _ _ L _ hle (StrkSl.of_own (own_below hown1 hb2)) (StrkSl.of_own hown)).mono ?_; rintro e w3 ⟨rfl, hb3⟩; have hb := below_next hb hb3))
    go_ret
    exact ⟨rfl, hb⟩
end Go.Proofs.YtnijedmnjmeciaaDoor
