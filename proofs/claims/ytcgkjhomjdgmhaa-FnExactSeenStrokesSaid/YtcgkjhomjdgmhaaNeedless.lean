/- NeedlessStrokes: the function of the program. No condition but the lists' and the texts' lengths. -/
import Derived.Test.YtcgkjhomjdgmhaaMarkS
import Derived.Test.YtcgkjhomjdgmhaaAll
import Derived.Deep.AppendLies
namespace Go.Proofs.Ytcgkjhomjdgmhaa
open Go.RowKit

/-- without the stroke x the fence is the same -/
def needB (s : ByteArray) (L : List Strk) (x : Nat) : Bool := (paintX s L x L.length).toList == (paintJ s L L.length).toList
def needJ (s : ByteArray) (L : List Strk) (j : Nat) : List Int := ((List.range j).filter (needB s L)).map fun x : Nat => (x : Int)
theorem needJ_len (s : ByteArray) (L : List Strk) (j : Nat) : (needJ s L j).length ≤ j := by
  unfold needJ
  rw [List.length_map]
  have := List.length_filter_le (needB s L) (List.range j)
  rwa [List.length_range] at this
theorem needJ_yes {s : ByteArray} {L : List Strk} {j : Nat} (h : needB s L j = true) : needJ s L (j + 1) = needJ s L j ++ [(j : Int)] := by
  unfold needJ; rw [List.range_succ, List.filter_append, List.map_append]; simp [h]
theorem needJ_no {s : ByteArray} {L : List Strk} {j : Nat} (h : needB s L j = false) : needJ s L (j + 1) = needJ s L j := by
  unfold needJ; rw [List.range_succ, List.filter_append, List.map_append]; simp [h]
/-- a list of numbers that the call itself has made -/
def OwnInts (w : World) (base : Nat) (e : TypeId) (v : Value) (zs : List Int) : Prop := w.ownsRow base e 1 v zs.length (zs.map (Value.int .i64))
theorem OwnInts.nil (w : World) (base : Nat) (e : TypeId) : OwnInts w base e (.slice none 0 0) [] := World.ownsRow_nil w base e 1
theorem OwnInts.below {w w' : World} {base : Nat} {e : TypeId} {v : Value} {zs : List Int} (h : OwnInts w base e v zs) (hb : Below w.heap.size w w') : OwnInts w' base e v zs := own_below h hb
theorem OwnInts.snoc {w : World} {base : Nat} {e : TypeId} {v : Value} {zs : List Int} {x : Int} (h : w.ownsRow base e 1 v (zs.length + 1) (zs.map (Value.int .i64) ++ [.int .i64 x])) : OwnInts w base e v (zs ++ [x]) := by
  unfold OwnInts
  rw [List.length_append, List.map_append]
  exact h

set_option maxRecDepth 20000 in
set_option maxHeartbeats 1000000 in
theorem implNeedless_yes (s : ByteArray) (A : Option Addr) (cap : Nat) (L : List Strk) (w : World) (hz : s.size ≤ maxLen) (hl : L.length ≤ maxLen) (hs : Short L) (h : StrkSl w A L) (hok : (okFence s && okList s.size L) = true) :
    Calls Try.prog 73 #[.string s, .slice A L.length cap] w fun e w' => ∃ v, e = .returned (.tuple #[v, .bool true]) ∧ OwnInts w' w.heap.size 3 v (needJ s L L.length) ∧ Below w.heap.size w w' := by
  obtain ⟨i0, hi, hz0, hz1, hz2⟩ := info_parts info_int
  have hP := implAll_any s A cap L w hz hl hs h
  rw [if_pos hok] at hP
  have HP := Lib.hid hP
  have hof := hok
  rw [Bool.and_eq_true] at hof
  obtain ⟨_, h20⟩ := okFence_size hof.1
  obtain ⟨h40, hat⟩ := okList_at hof.2
  have HC := Lib.hid fun x W hW => paintedWithout_any s A cap L x W h20 h40 hat hW
  have HSL := Lib.hid h
  clear hP hof hat hok h hs
  go_enter Try.func73, Try.ntmps73
  go_wp2_with (go_at_call 33; refine HP.out.mono ?_; rintro e w1 ⟨rfl, hb0⟩)
  have HSL1 := Lib.hid (HSL.out.below hb0)
  go_loopw [8, 20] (fun v i wr => ∃ j : Nat, j ≤ L.length ∧ i = .int .i64 j ∧ OwnInts wr w.heap.size 3 v (needJ s L j) ∧ Below w.heap.size w wr) (fun _ i _ => L.length - (intOf i).toNat)
  case atStart => exact ⟨0, Nat.zero_le _, rfl, OwnInts.nil _ _ _, hb0⟩
  case round =>
    obtain ⟨j, hj, rfl, hown, hb⟩ := hrel
    have HO := Lib.hid hown
    clear hown
    by_cases hlt : j < L.length
    · have hSL := Lib.hid (HSL.out.below hb)
      cases hn : needB s L j
      · have HN := Lib.hid (needJ_no hn)
        have hq : ((paintX s L j L.length).toList == (paintJ s L L.length).toList) = false := hn
        clear hn
        go_wp2_with (go_at_call 92; refine (HC.out j _ hSL.out).mono ?_; rintro e w2 ⟨rfl, hb2⟩)
        go_roundw
        case rel => exact ⟨j + 1, by omega, by go_num, by rw [HN.out]; exact HO.out.below hb2, below_next hb hb2⟩
        case measure => simp [intOf]; omega
      · have HN := Lib.hid (needJ_yes hn)
        have hq : ((paintX s L j L.length).toList == (paintJ s L L.length).toList) = true := hn
        clear hn
        have hlen := needJ_len s L j
        have hbs := hb.size
        go_wp2_with (first
          | (go_at_call 92; refine (HC.out j _ hSL.out).mono ?_; rintro e w2 ⟨rfl, hb2⟩; have HO2 := Lib.hid (HO.out.below hb2); have hb3 := Lib.hid (below_next hb hb2); have hs3 := hb3.out.size)
          | (at_builtin; refine wpList_append_own _ rfl (.tmp 29) (.tmp 31) _ rfl w.heap.size 3 i0 _ 1 8 Try.underlying31 hi hz0 hz1 hz2 rfl (by decide) _ (needJ s L j).length ((needJ s L j).map (Value.int .i64)) rfl (World.ownsRow.alloc HO2.out _) ⟨w2.heap.size, 0, none⟩ 1 1 [.int .i64 (j : Int)] rfl rfl (World.news_of_block (cs := #[.int .i64 (j : Int)]) (t := 3) (fr := (0, 0)) (heap_alloc_new w2 _)) (by simp [Value.oneCell']) (by unfold maxLen; omega) (by omega) (by simp; omega) ?_; intro v' w3 hown' hgrow _))
        have HR : Hid (OwnInts w3 w.heap.size 3 v' (needJ s L (j + 1))) := Lib.hid (by rw [HN.out]; exact OwnInts.snoc hown')
        have HB3 : Hid (Below w.heap.size w w3) := Lib.hid ((hb3.out.alloc hs3 _).grown hgrow (by simp; omega) fun k hk => (World.ownsRow.lt HO2.out k hk).1)
        clear hown' hgrow
        go_roundw
        case rel => exact ⟨j + 1, by omega, by go_num, HR.out, HB3.out⟩
        case measure => simp [intOf]; omega
    · obtain rfl : j = L.length := by omega
      go_wp2
      go_ret2
      exact ⟨_, rfl, HO.out, hb⟩
end Go.Proofs.Ytcgkjhomjdgmhaa
