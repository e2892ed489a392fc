/- CoatsOf: the functions. No condition but the lists' and the texts' lengths. -/
import Derived.Test.YtcgkjhomjdgmhaaCoats2
import Derived.Test.YtcgkjhomjdgmhaaInts2
namespace Go.Proofs.Ytcgkjhomjdgmhaa
open Go.RowKit

def coatsL (s : ByteArray) (L : List Strk) : List Int := if (okFence s && okList s.size L) = true then (List.range s.size).map (coatF L L.length) else []
theorem coats_row (n : Nat) (F : Nat → Int) : ((List.range n).map F).map (Value.int .i64) = rowF n F := by unfold rowF; rw [List.map_map]; rfl

theorem rowF_take (q n : Nat) (F : Nat → Int) (h : n ≤ q) : (rowF q F).toArray.toList.take n = rowF n F := by
  show (rowF q F).take n = rowF n F
  unfold rowF
  rw [← List.map_take, List.take_range, Nat.min_eq_left h]
theorem rowF_one (q : Nat) (F : Nat → Int) : (rowF q F).toArray.all (·.oneCell') = true := all_oneCell_toArray fun v hv => by
  unfold rowF at hv
  obtain ⟨i, _, rfl⟩ := List.mem_map.1 hv
  rfl
theorem ints_row {w : World} {e : TypeId} {b b' g n : Nat} {F : Nat → Int} (h : RowIs w e b g n F) (hb : b' ≤ b) : w.ownsRow b' e 1 (.slice (some ⟨g, 0, none⟩) n n) n (rowF n F) := by
  refine ⟨h.1, ?_⟩
  rcases h.2 with hn | ⟨g, cap, cur, hv, h1, rest⟩
  · exact .inl hn
  · exact .inr ⟨g, cap, cur, hv, Nat.le_trans hb h1, rest⟩

set_option maxHeartbeats 1000000 in
theorem specCoats_any (s : ByteArray) (A : Option Addr) (cap : Nat) (L : List Strk) (w : World) (hz : s.size ≤ maxLen) (hl : L.length ≤ maxLen) (hs : Short L) (h : StrkSl w A L) :
    Calls Try.prog 76 #[.string s, .slice A L.length cap] w fun e w' => ∃ v, e = .returned (.tuple #[v, .bool (okFence s && okList s.size L)]) ∧ OwnInts w' w.heap.size 3 v (coatsL s L) ∧ Below w.heap.size w w' := by
  have hP := stList_any s A cap L w hz hl hs h
  cases hok : okFence s && okList s.size L
  · rw [show coatsL s L = [] by unfold coatsL; rw [hok]; rfl]
    rw [hok] at hP
    have HP := Lib.hid hP
    clear hP hok
    go_enter Try.func76, Try.ntmps76
    go_wp2_with (go_at_call 107; refine HP.out.mono ?_; rintro e w1 ⟨rfl, hb0⟩)
    go_ret2
    exact ⟨_, rfl, OwnInts.nil _ _ _, hb0⟩
  · rw [show coatsL s L = (List.range s.size).map (coatF L L.length) by unfold coatsL; rw [if_pos hok]]
    rw [hok] at hP
    have HP := Lib.hid hP
    have hof := hok
    rw [Bool.and_eq_true] at hof
    obtain ⟨h1, h20⟩ := okFence_size hof.1
    obtain ⟨h40, hat⟩ := okList_at hof.2
    have HC := Lib.hid fun W hW => stCoats_any s.size A cap L W h1 h20 h40 hat hW
    have HSL := Lib.hid h
    clear hP hof hat hok h hs
    go_enter Try.func76, Try.ntmps76
    go_wp2_with (first
      | (go_at_call 107; refine HP.out.mono ?_; rintro e w1 ⟨rfl, hb0⟩)
      | (go_at_call 90; refine (HC.out _ (HSL.out.below hb0)).mono ?_; rintro e w2 ⟨g, rfl, hrow, hb1⟩))
    go_ret2
    refine ⟨_, rfl, ?_, below_next hb0 hb1⟩
    unfold OwnInts
    rw [coats_row, List.length_map, List.length_range]
    exact ints_row hrow hb0.size

set_option maxRecDepth 100000 in
set_option maxHeartbeats 1000000 in
theorem implCoats_any (s : ByteArray) (A : Option Addr) (cap : Nat) (L : List Strk) (w : World) (hz : s.size ≤ maxLen) (hl : L.length ≤ maxLen) (hs : Short L) (h : StrkSl w A L) :
    Calls Try.prog 34 #[.string s, .slice A L.length cap] w fun e w' => ∃ v, e = .returned (.tuple #[v, .bool (okFence s && okList s.size L)]) ∧ OwnInts w' w.heap.size 77 v (coatsL s L) ∧ Below w.heap.size w w' := by
  have hP := arePaintable_any s A cap L w hz hl hs h
  cases hok : okFence s && okList s.size L
  · rw [show coatsL s L = [] by unfold coatsL; rw [hok]; rfl]
    rw [hok] at hP
    have HP := Lib.hid hP
    clear hP hok
    go_enter Try.func34, Try.ntmps34
    go_wp2_with (go_at_call 91; refine HP.out.mono ?_; rintro e w1 ⟨rfl, hb0⟩)
    go_ret2
    exact ⟨_, rfl, OwnInts.nil _ _ _, hb0⟩
  · rw [show coatsL s L = (List.range s.size).map (coatF L L.length) by unfold coatsL; rw [if_pos hok]]
    rw [hok] at hP
    have HP := Lib.hid hP
    have hof := hok
    rw [Bool.and_eq_true] at hof
    obtain ⟨h1, h20⟩ := okFence_size hof.1
    obtain ⟨h40, hat⟩ := okList_at hof.2
    have HC := Lib.hid fun W hW => countCoats_any s.size A cap L W h20 h40 hat hW
    have HSL := Lib.hid h
    clear hP hof hat hok h hs
    obtain ⟨C, hC⟩ : ∃ C, C = (rowF 20 (coatF L L.length)).toArray := ⟨_, rfl⟩
    have HC2 : Hid (∀ W, StrkSl W A L → Calls Try.prog 89 #[.slice A L.length cap] W fun e w' => e = .returned (.agg C) ∧ Below W.heap.size W w') := Lib.hid fun W hW => by rw [hC]; exact HC.out W hW
    have hi20 : (Try.prog.info? 77).map (·.size) = some 20 := by kernel_rfl
    have HIL : Hid ((Try.prog.info? 77).map (·.size) = some C.size) := Lib.hid (by rw [hi20, hC]; simp [rowF_len])
    have HIS : Hid (20 = C.size) := Lib.hid (by rw [hC]; simp [rowF_len])
    have HO1 : Hid (C.all (·.oneCell') = true) := Lib.hid (by rw [hC]; exact rowF_one 20 _)
    have HCC := Lib.hid hC
    have i0 : (0 : Int) ≤ (s.size : Int) := by omega
    have i1 : (s.size : Int) ≤ 20 := by omega
    clear hi20 HC hC
    go_enter Try.func34, Try.ntmps34
    go_wp2_with (first
      | (go_at_call 91; refine HP.out.mono ?_; rintro e w1 ⟨rfl, hb0⟩)
      | (go_at_call 89; refine (HC2.out _ (HSL.out.below hb0)).mono ?_; rintro e w2 ⟨rfl, hb1⟩)
      | (refine wpList_store_row rfl 77 (.tmp 6) (.tmp 12) rfl w2.heap.size C rfl rfl 77 _ (heap_alloc_new w2 _) HIL.out HIS.out HO1.out ?_))
    go_ret2
    refine ⟨_, rfl, ?_, below_setRow ((below_next hb0 hb1).alloc (below_next hb0 hb1).size _) (below_next hb0 hb1).size⟩
    unfold OwnInts
    rw [coats_row, List.length_map, List.length_range]
    refine ⟨by rw [rowF_len, Nat.mul_one], .inr ⟨w2.heap.size, 20, C, rfl, (below_next hb0 hb1).size, setRow_heap _ w2.heap.size _ _ 77 (0, 0) (heap_alloc_new w2 _), h20, by unfold maxLen; omega, HIS.out.symm, ?_⟩⟩
    rw [HCC.out, Nat.mul_one]
    exact rowF_take 20 s.size _ h20
end Go.Proofs.Ytcgkjhomjdgmhaa
