/- TakeGate of both sides. No condition but the list's length. -/
import Derived.Test.YtbocdhibimcobaaBinS
import Derived.Test.YtbocdhibimcobaaConcatI
import Derived.Test.YtbocdhibimcobaaSub
namespace Go.Proofs.Ytbocdhibimcobaa
open Go.RowKit

def fltG (L : List Int) (x : Int) : List Int := L.filter (· != x)
theorem flt_take {n x : Int} : ∀ {L : List Int} {lo : Int}, incF n lo L = true → x ∈ L → fltG L x = L.take (lessN L x) ++ L.drop (lessN L x + 1)
  | [], _, _, h => absurd h (by simp)
  | y :: L, lo, h, hx => by
    have h' : (decide (lo ≤ y ∧ y < n) && incF n (y + 1) L) = true := h
    rw [Bool.and_eq_true] at h'
    have hm := incF_mem h'.2
    unfold fltG lessN at *
    rcases Int.lt_trichotomy y x with h1 | h1 | h1
    · have hx' : x ∈ L := (List.mem_cons.1 hx).resolve_left (by omega)
      have ih := flt_take h'.2 hx'
      unfold fltG lessN at ih
      rw [List.filter_cons, List.countP_cons, if_pos (by simp; omega), if_pos (by simpa using h1), List.take_succ_cons, List.drop_succ_cons, ih]
      rfl
    · subst h1
      have hc : L.countP (· < y) = 0 := by
        rw [List.countP_eq_zero]
        intro z hz
        have := hm z hz
        simp; omega
      have hf : L.filter (· != y) = L := by
        rw [List.filter_eq_self]
        intro z hz
        have := hm z hz
        simp; omega
      rw [List.filter_cons, List.countP_cons, if_neg (by simp), if_neg (by simp), hc, hf]
      rfl
    · exfalso
      rcases List.mem_cons.1 hx with h2 | h2
      · omega
      · have := hm x h2; omega
def okTk (n : Int) (L : List Int) (x : Int) : Bool := okGa n L && decide (x ∈ L)
def takeR (n : Int) (L : List Int) (x : Int) : List Int := if okTk n L x = true then fltG L x else []
theorem okTk_at {n : Int} {L : List Int} {x : Int} (h : okTk n L x = true) : okGa n L = true ∧ x ∈ L := by
  unfold okTk at h
  rwa [Bool.and_eq_true, decide_eq_true_iff] at h
theorem takeR_no {n : Int} {L : List Int} {x : Int} (h : okTk n L x = false) : takeR n L x = [] := by unfold takeR; rw [h]; rfl
theorem takeR_yes {n : Int} {L : List Int} {x : Int} (h : okTk n L x = true) : takeR n L x = fltG L x := by unfold takeR; rw [h]; rfl
theorem flt_len (L : List Int) (x : Int) : (fltG L x).length ≤ L.length := List.length_filter_le _ _
theorem takeR_len (n : Int) (L : List Int) (x : Int) : (takeR n L x).length ≤ 1048576 := by
  unfold takeR
  split
  · next h => have := okGa_at (okTk_at h).1; have := flt_len L x; omega
  · exact Nat.zero_le _
theorem flt_yes {L : List Int} {x : Int} {k : Nat} (h : k < L.length) (h2 : L[k] ≠ x) : fltG (L.take (k + 1)) x = fltG (L.take k) x ++ [L[k]] := by
  unfold fltG
  rw [List.take_succ_eq_append_getElem h, List.filter_append, List.filter_cons, if_pos (by simpa using h2)]; rfl
theorem flt_no {L : List Int} {x : Int} {k : Nat} (h : k < L.length) (h2 : L[k] = x) : fltG (L.take (k + 1)) x = fltG (L.take k) x := by
  unfold fltG
  rw [List.take_succ_eq_append_getElem h, List.filter_append, List.filter_cons, if_neg (by simpa using h2)]; simp

set_option maxHeartbeats 1000000 in
theorem specTakeGate_no (n : Int) (A : Option Addr) (c : Nat) (L : List Int) (x : Int) (w : World) (hm : L.length ≤ 1048576) (h : IntSl w A L) (hok : (okGa n L && decide (x ∈ L)) = false) :
    Calls Try.prog 48 #[.int .i64 n, .slice A L.length c, .int .i64 x] w fun e w' => e = .returned (.tuple #[.slice none 0 0, .bool false]) ∧ Below w.heap.size w w' := by
  have H0 := Lib.hid (gaAre_any n A c L w hm h)
  have H1 := Lib.hid (l1Has_any A c L x w hm h)
  cases h0 : okGa n L
  · clear hok
    rw [h0] at H0
    clear h0 H1
    go_enter Try.func48, Try.ntmps48
    go_wp2_with fail
    refine H0.out.mono ?_
    rintro e w1 ⟨rfl, rfl⟩
    go_wp2
    go_ret2
    exact ⟨rfl, Below.refl _ _⟩
  · skip
    cases h1 : decide (x ∈ L)
    · clear hok
      rw [h0] at H0
      rw [h1] at H1
      clear h0 h1
      go_enter Try.func48, Try.ntmps48
      go_wp2_with fail
      refine H0.out.mono ?_
      rintro e w1 ⟨rfl, rfl⟩
      go_wp2_with fail
      refine H1.out.mono ?_
      rintro e w1 ⟨rfl, rfl⟩
      go_wp2
      go_ret2
      exact ⟨rfl, Below.refl _ _⟩
    · rw [h0, h1] at hok; simp at hok
set_option maxRecDepth 20000 in
set_option maxHeartbeats 2000000 in
theorem specTakeGate_any (a0 : Int) (A1 : Option Addr) (c1 : Nat) (L1 : List Int) (a2 : Int) (w : World) (_ : (Lit.int .i64 a0).wf = true) (l1 : L1.length ≤ 1048576) (_ : WfL L1) (_ : L1.length ≤ c1) (h1 : IntSl w A1 L1) (_ : (Lit.int .i64 a2).wf = true) :
    Calls Try.prog 48 #[.int .i64 a0, .slice A1 L1.length c1, .int .i64 a2] w fun e w' => ∃ v, e = .returned (.tuple #[v, .bool (okTk a0 L1 a2)]) ∧ OwnInts w' w.heap.size 3 v (takeR a0 L1 a2) ∧ Below w.heap.size w w' := by
  obtain ⟨i0, hi, hz0, hz1, hz2⟩ := info_parts info_int
  cases hk : okTk a0 L1 a2
  · rw [takeR_no hk]
    exact (specTakeGate_no a0 A1 c1 L1 a2 w l1 h1 hk).mono fun e w' h => ⟨_, h.1, OwnInts.nil _ _ _, h.2⟩
  · rw [takeR_yes hk]
    obtain ⟨hg, hx⟩ := okTk_at hk
    have hl := (okGa_at hg).2.1
    have HG := Lib.hid (gaAre_any a0 A1 c1 L1 w l1 h1)
    rw [hg] at HG
    have HH := Lib.hid fun W h => l1Has_any A1 c1 L1 a2 W l1 h
    rw [decide_eq_true hx] at HH
    have HSL := Lib.hid h1
    have HFL := Lib.hid fun k => flt_len (L1.take k) a2
    have HFY := Lib.hid fun k (h : k < L1.length) h2 => flt_yes (x := a2) h h2
    have HFN := Lib.hid fun k (h : k < L1.length) h2 => flt_no (x := a2) h h2
    clear hk hg hx h1
    go_enter Try.func48, Try.ntmps48
    go_wp2_with fail
    refine HG.out.mono ?_
    rintro e w1 ⟨rfl, rfl⟩
    go_wp2_with fail
    refine (HH.out _ HSL.out).mono ?_
    rintro e w1 ⟨rfl, rfl⟩
    go_wp2
    go_loopw [8, 23] (fun v i wr => ∃ k : Nat, k ≤ L1.length ∧ i = .int .i64 k ∧ OwnInts wr w.heap.size 3 v (fltG (L1.take k) a2) ∧ Below w.heap.size w wr) (fun _ i _ => L1.length - (intOf i).toNat)
    case atStart => exact ⟨0, Nat.zero_le _, rfl, OwnInts.nil _ _ _, Below.refl _ _⟩
    case round =>
      obtain ⟨k, hk, rfl, hown, hb⟩ := hrel
      have HO := Lib.hid hown
      have HB := Lib.hid hb
      have hbs := hb.size
      clear hown hb
      by_cases hlt : k < L1.length
      · obtain ⟨g, off, rfl, hg, hat⟩ := (HSL.out.below HB.out).some (by omega)
        have c1 := hat k hlt
        have hfl := HFL.out k
        rw [List.length_take] at hfl
        have HY := Lib.hid (HFY.out k hlt)
        have HN := Lib.hid (HFN.out k hlt)
        obtain ⟨y, hy⟩ : ∃ y, y = L1[k] := ⟨_, rfl⟩
        rw [← hy] at c1 HY HN
        obtain ⟨T, hT⟩ : ∃ T, T = fltG (L1.take k) a2 := ⟨_, rfl⟩
        rw [← hT] at HO hfl HY HN
        have hT10 : T.length ≤ 10 := by omega
        clear hat hy hT hfl
        by_cases hne : y = a2
        · have HN2 := Lib.hid (HN.out hne)
          have hb1 : (y != a2) = false := by rw [hne]; simp
          clear hne HY HN
          go_wp2
          go_roundw
          case rel => exact ⟨k + 1, by omega, by go_num, by rw [HN2.out]; exact HO.out, HB.out⟩
          case measure => simp [intOf]; omega
        · have HY2 := Lib.hid (HY.out hne)
          have hb1 : (y != a2) = true := by rw [bne_iff_ne]; exact hne
          have hb2 : (y == a2) = false := by rw [beq_eq_false_iff_ne]; exact hne
          clear hne HY HN
          go_wp2_with (at_builtin; refine wpList_append_own _ rfl (.tmp 30) (.tmp 32) _ rfl w.heap.size 3 i0 _ 1 8 Try.underlying22 hi hz0 hz1 hz2 rfl (by decide) _ (T).length ((T).map (Value.int .i64)) rfl (World.ownsRow.alloc HO.out _) ⟨_, 0, none⟩ 1 1 [.int .i64 (y)] rfl rfl (World.news_of_block (cs := #[.int .i64 (y)]) (t := 3) (fr := (0, 0)) (by first | exact heap_alloc_new _ _ | exact heap_new_set _ _ _ _ _)) (by simp [Value.oneCell']) (by unfold maxLen; omega) (by omega) (by simp; omega) ?_; intro v' w3 hown' hgrow _)
          have HR : Hid (OwnInts w3 w.heap.size 3 v' (fltG (L1.take (k + 1)) a2)) := Lib.hid (by rw [HY2.out]; exact OwnInts.snoc hown')
          have HB3 : Hid (Below w.heap.size w w3) := Lib.hid ((HB.out.alloc hbs _).grown hgrow (by simp; omega) fun k hk => (World.ownsRow.lt HO.out k hk).1)
          clear hown' hgrow
          go_wp2
          go_roundw
          case rel => exact ⟨k + 1, by omega, by go_num, HR.out, HB3.out⟩
          case measure => simp [intOf]; omega
      · obtain rfl : k = L1.length := by omega
        rw [List.take_length] at HO
        go_wp2
        go_ret2
        exact ⟨_, rfl, HO.out, HB.out⟩

theorem subA_some (g off l c : Nat) : ∃ ad, subA (some ⟨g, off, none⟩) l c = some ad := by
  unfold subA
  split
  · exact ⟨_, rfl⟩
  · exact ⟨_, rfl⟩
theorem two_slicesI (w : World) (u v : Value) (t : TypeId) : (w.alloc (.cells #[u, v] t)).drew.cell? ⟨w.heap.size, 0, none⟩ = some u ∧ (w.alloc (.cells #[u, v] t)).drew.cell? ⟨w.heap.size, 1, none⟩ = some v := by
  constructor
  · show (w.alloc (.cells #[u, v] t)).cell? ⟨w.heap.size, 0, none⟩ = some u
    rw [cell_of_row _ w.heap.size 0 _ t (0, 0) (heap_alloc_new w _)]; rfl
  · show (w.alloc (.cells #[u, v] t)).cell? ⟨w.heap.size, 1, none⟩ = some v
    rw [cell_of_row _ w.heap.size 1 _ t (0, 0) (heap_alloc_new w _)]; rfl
set_option maxRecDepth 100000 in
set_option maxHeartbeats 4000000 in
theorem implTakeGate_any (a0 : Int) (A1 : Option Addr) (c1 : Nat) (L1 : List Int) (a2 : Int) (w : World) (_ : (Lit.int .i64 a0).wf = true) (l1 : L1.length ≤ 1048576) (_ : WfL L1) (q1 : L1.length ≤ c1) (h1 : IntSl w A1 L1) (_ : (Lit.int .i64 a2).wf = true) :
    Calls Try.prog 49 #[.int .i64 a0, .slice A1 L1.length c1, .int .i64 a2] w fun e w' => ∃ v, e = .returned (.tuple #[v, .bool (okTk a0 L1 a2)]) ∧ OwnInts w' w.heap.size 3 v (takeR a0 L1 a2) ∧ Below w.heap.size w w' := by
  have HG := Lib.hid (areGates_any a0 A1 c1 L1 w l1 h1)
  cases hg : okGa a0 L1
  · have hk : okTk a0 L1 a2 = false := by unfold okTk; rw [hg]; rfl
    rw [takeR_no hk, hk]
    rw [hg] at HG
    clear hk hg h1
    go_enter Try.func49, Try.ntmps49
    go_wp2_with fail
    refine HG.out.mono ?_
    rintro e w1 ⟨rfl, rfl⟩
    go_wp2
    go_ret2
    exact ⟨_, rfl, OwnInts.nil _ _ _, Below.refl _ _⟩
  · obtain ⟨hn, hl, hinc⟩ := okGa_at hg
    have HB := Lib.hid (binS_any A1 c1 L1 a2 w l1 (incF_sorted hinc) h1)
    rw [hg] at HG
    by_cases hx : a2 ∈ L1
    · have hk : okTk a0 L1 a2 = true := by unfold okTk; rw [hg, decide_eq_true hx]; rfl
      rw [takeR_yes hk, hk, flt_take hinc hx]
      rw [decide_eq_true hx] at HB
      have hle : lessN L1 a2 < L1.length := by
        have h2 := lessN_le L1 a2
        rcases Nat.lt_or_ge (lessN L1 a2) L1.length with h3 | h3
        · exact h3
        · exfalso
          have h4 : L1.countP (· < a2) = L1.length := by unfold lessN at h2 h3; omega
          rw [List.countP_eq_length] at h4
          have := h4 a2 hx
          simp at this
      obtain ⟨p, hp⟩ : ∃ p, p = lessN L1 a2 := ⟨_, rfl⟩
      rw [← hp] at HB hle ⊢
      obtain ⟨g, off, rfl, hgl, hat⟩ := h1.some (by omega)
      obtain ⟨ad8, h8⟩ := subA_some g off (p + 1) c1
      have hc3 := fun W0 => cut_h (some ⟨g, off, none⟩) L1.length c1 p (by omega) W0
      have hc8 := fun W0 => cut_l (some ⟨g, off, none⟩) L1.length c1 (p + 1) (by omega) W0
      rw [h8, show ((p + 1 : Nat) : Int) = (p : Int) + 1 by omega] at hc8
      have HS3 : Hid (∀ W, Below w.heap.size w W → IntSl W (some ⟨g, off, none⟩) (L1.take p)) := Lib.hid fun W hW => .inr ⟨g, off, rfl, by have := hW.size; omega, fun k hk => by
        rw [hW.cell (p := ⟨g, off + k, none⟩) hgl, hat k (by rw [List.length_take] at hk; omega), List.getElem_take]⟩
      have HS8 : Hid (∀ W, Below w.heap.size w W → IntSl W (some ad8) (L1.drop (p + 1))) := Lib.hid fun W hW => by rw [← h8]; exact (h1.below hW).drop (p + 1) c1 q1
      have HLT : Hid ((L1.take p).length = p) := Lib.hid (by rw [List.length_take]; omega)
      have HLD : Hid ((L1.drop (p + 1)).length = L1.length - (p + 1)) := Lib.hid (List.length_drop ..)
      have HCC : Hid (∀ q, Calls Try.prog 81 #[.slice (some ⟨w.heap.size, 0, none⟩) 2 2] ((w.drewN q).alloc (.cells #[.slice (some ⟨g, off, none⟩) p c1, .slice (some ad8) (L1.length - (p + 1)) (c1 - (p + 1))] 22)).drew fun e w' => ∃ v, e = .returned v ∧ OwnInts w' w.heap.size 3 v (L1.take p ++ L1.drop (p + 1)) ∧ Below w.heap.size w w') := Lib.hid fun q => by
        have hb0 : Below w.heap.size w ((w.drewN q).alloc (.cells #[.slice (some ⟨g, off, none⟩) p c1, .slice (some ad8) (L1.length - (p + 1)) (c1 - (p + 1))] 22)).drew := ((below_drewN (Below.refl _ _) q).alloc (Nat.le_refl _) _).drew
        have ht := two_slicesI (w.drewN q) (.slice (some ⟨g, off, none⟩) p c1) (.slice (some ad8) (L1.length - (p + 1)) (c1 - (p + 1))) 22
        refine (concatI_any w.heap.size ⟨g, off, none⟩ ad8 c1 (c1 - (p + 1)) (L1.take p) (L1.drop (p + 1)) _ (by rw [HLT.out]; omega) (by rw [HLD.out]; omega) (by simp [World.drew, World.drewN]) (by rw [HLT.out]; exact ht.1) (by rw [HLD.out]; exact ht.2) (fun W hW j u hu => sl_cells (HS3.out W (below_nextN hb0 hb0.size hW)) j u hu) (fun W hW j u hu => sl_cells (HS8.out W (below_nextN hb0 hb0.size hW)) j u hu)).mono ?_
        rintro e w' ⟨v, rfl, ho, hb⟩
        exact ⟨v, rfl, ho.mono hb0.size, below_nextN hb0 hb0.size hb⟩
      have hwr : IntKind.i64.wrap ((p : Int) + 1) = (p : Int) + 1 := by rw [IntKind.wrap_i64]; omega
      clear hk hg hx hp h8 h1 hat HS3 HS8 hn hinc
      go_enter Try.func49, Try.ntmps49
      go_wp2_with fail
      refine HG.out.mono ?_
      rintro e w1 ⟨rfl, rfl⟩
      go_wp2_with fail
      refine HB.out.mono ?_
      rintro e w1 ⟨rfl, q, rfl⟩
      have HCQ := Lib.hid (HCC.out q)
      go_wp2
      go_region_held3 (fun _ => True) (trivial) (first
        | (go_at_call 81; refine HCQ.out.mono ?_; rintro e w5 ⟨v5, rfl, ho5, hb5⟩; have HO5 := Lib.hid ho5; have HB5 := Lib.hid hb5; clear ho5 hb5))
      go_wp2
      go_ret2
      exact ⟨_, rfl, HO5.out, HB5.out⟩
    · have hk : okTk a0 L1 a2 = false := by unfold okTk; rw [decide_eq_false hx]; simp
      rw [takeR_no hk, hk]
      rw [decide_eq_false hx] at HB
      obtain ⟨p, hp⟩ : ∃ p, p = lessN L1 a2 := ⟨_, rfl⟩
      rw [← hp] at HB
      clear hk hg h1 hx hp hinc
      go_enter Try.func49, Try.ntmps49
      go_wp2_with fail
      refine HG.out.mono ?_
      rintro e w1 ⟨rfl, rfl⟩
      go_wp2_with fail
      refine HB.out.mono ?_
      rintro e w1 ⟨rfl, q, rfl⟩
      go_wp2
      go_ret2
      exact ⟨_, rfl, OwnInts.nil _ _ _, below_drewN (Below.refl _ _) q⟩
end Go.Proofs.Ytbocdhibimcobaa
