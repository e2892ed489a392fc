/- IsEven of both sides. No condition but the list's length. -/
import Derived.Test.YtbocdhibimcobaaEvenGt
import Derived.Test.YtbocdhibimcobaaShelf
import Derived.Sort.OwnSortedInts
namespace Go.Proofs.Ytbocdhibimcobaa
open Go.RowKit Go.Sort

theorem low_fold (P : List Int) (a : Int) (h : 0 < P.length) (ha : ∀ x ∈ P, x ≤ a) : P.foldl min a = Lib.minOf P := by
  obtain ⟨h1, h2⟩ := minOf_mem h
  have h3 := (foldl_min_ge P a (Lib.minOf P)).2 ⟨ha _ h1, h2⟩
  have h4 := ((foldl_min_ge P a (P.foldl min a)).1 (Int.le_refl _)).2 _ h1
  omega
theorem high_fold (P : List Int) (a : Int) (h : 0 < P.length) (ha : ∀ x ∈ P, a ≤ x) : P.foldl max a = Lib.maxOf P := by
  obtain ⟨h1, h2⟩ := maxOf_mem h
  have h3 := (foldl_max_le P a (Lib.maxOf P)).2 ⟨ha _ h1, h2⟩
  have h4 := ((foldl_max_le P a (P.foldl max a)).1 (Int.le_refl _)).2 _ h1
  omega
theorem fold_step {f : Int → Int → Int} {P : List Int} {a : Int} {k : Nat} (h : k < P.length) : (P.take (k + 1)).foldl f a = f ((P.take k).foldl f a) P[k] := by
  rw [List.take_succ_eq_append_getElem h, List.foldl_append]; rfl
def isEv (n : Int) (L : List Int) : Bool := okGa n L && decide (Lib.maxOf (partL n L) - Lib.minOf (partL n L) < 2)
theorem isEv_no {n : Int} {L : List Int} (h : okGa n L = false) : isEv n L = false := by unfold isEv; rw [h]; rfl
theorem isEv_yes {n : Int} {L : List Int} (h : okGa n L = true) : isEv n L = decide (Lib.maxOf (partL n L) - Lib.minOf (partL n L) < 2) := by unfold isEv; rw [h]; rfl

theorem l1Least_any (a b : Int) (w : World) : Calls Try.prog 70 #[.int .i64 a, .int .i64 b] w fun e w' => e = .returned (.int .i64 (min a b)) ∧ w = w' := by
  by_cases h : a < b
  · rw [Int.min_eq_left (by omega)]
    go_enter Try.func70, Try.ntmps70
    go_wp2
    go_ret
    exact ⟨rfl, rfl⟩
  · rw [Int.min_eq_right (by omega)]
    go_enter Try.func70, Try.ntmps70
    go_wp2
    go_ret
    exact ⟨rfl, rfl⟩
theorem l1Most_any (a b : Int) (w : World) : Calls Try.prog 71 #[.int .i64 a, .int .i64 b] w fun e w' => e = .returned (.int .i64 (max a b)) ∧ w = w' := by
  by_cases h : b < a
  · rw [Int.max_eq_left (by omega)]
    go_enter Try.func71, Try.ntmps71
    go_wp2
    go_ret
    exact ⟨rfl, rfl⟩
  · rw [Int.max_eq_right (by omega)]
    go_enter Try.func71, Try.ntmps71
    go_wp2
    go_ret
    exact ⟨rfl, rfl⟩
set_option maxHeartbeats 1000000 in
theorem specIsEven_no (n : Int) (A : Option Addr) (c : Nat) (L : List Int) (w : World) (hm : L.length ≤ 1048576) (h : IntSl w A L) (hok : (okGa n L) = false) :
    Calls Try.prog 34 #[.int .i64 n, .slice A L.length c] w fun e w' => e = .returned (.tuple #[.bool false, .bool false]) ∧ Below w.heap.size w w' := by
  have H0 := Lib.hid (gaAre_any n A c L w hm h)
  cases h0 : okGa n L
  · clear hok
    rw [h0] at H0
    clear h0
    go_enter Try.func34, Try.ntmps34
    go_wp2_with fail
    refine H0.out.mono ?_
    rintro e w1 ⟨rfl, rfl⟩
    go_wp2
    go_ret2
    exact ⟨rfl, Below.refl _ _⟩
  · rw [h0] at hok; simp at hok
set_option maxRecDepth 20000 in
set_option maxHeartbeats 2000000 in
theorem specIsEven_any (a0 : Int) (A1 : Option Addr) (c1 : Nat) (L1 : List Int) (w : World) (_ : (Lit.int .i64 a0).wf = true) (l1 : L1.length ≤ 1048576) (_ : WfL L1) (_ : L1.length ≤ c1) (h1 : IntSl w A1 L1) :
    Calls Try.prog 34 #[.int .i64 a0, .slice A1 L1.length c1] w fun e w' => e = .returned (.tuple #[.bool (isEv a0 L1), .bool (okGa a0 L1)]) ∧ Below w.heap.size w w' := by
  cases hk : okGa a0 L1
  · rw [isEv_no hk]
    exact specIsEven_no a0 A1 c1 L1 w l1 h1 hk
  · rw [isEv_yes hk]
    have HG := Lib.hid (gaAre_any a0 A1 c1 L1 w l1 h1)
    rw [hk] at HG
    have HP := Lib.hid (gaParts_any a0 A1 c1 L1 w hk h1)
    have hpl : (partL a0 L1).length ≤ 11 := by rw [partL_len]; have := (okGa_at hk).2.1; omega
    have hpp : 0 < (partL a0 L1).length := by rw [partL_len]; omega
    have hbd := partL_bd hk
    have hn := (okGa_at hk).1
    obtain ⟨P, hP⟩ : ∃ P, P = partL a0 L1 := ⟨_, rfl⟩
    rw [← hP] at HP hpl hpp hbd ⊢
    have HLO := Lib.hid (low_fold P a0 hpp fun x hx => (hbd x hx).2)
    have HHI := Lib.hid (high_fold P 0 hpp fun x hx => by have := (hbd x hx).1; omega)
    have HMM := Lib.hid (And.intro (maxOf_mem hpp).1 (minOf_mem hpp).1)
    have HBD := Lib.hid hbd
    have HFA := Lib.hid fun k (h : k < P.length) => fold_step (f := min) (a := a0) h
    have HFB := Lib.hid fun k (h : k < P.length) => fold_step (f := max) (a := 0) h
    clear hk h1 hP hbd
    go_enter Try.func34, Try.ntmps34
    go_wp2_with fail
    refine HG.out.mono ?_
    rintro e w1 ⟨rfl, rfl⟩
    go_wp2_with fail
    refine HP.out.mono ?_
    rintro e w1 ⟨v, rfl, hown, hb⟩
    obtain ⟨A, c, rfl⟩ := hown.len
    obtain ⟨g, off, rfl, hg, hat⟩ := (IntSl.of_own hown).some hpp
    have HAT := Lib.hid hat
    clear hown hat
    go_wp2
    go_loop [6, 7, 19] (fun a m i => ∃ k : Nat, k ≤ P.length ∧ i = .int .i64 k ∧ a = .int .i64 ((P.take k).foldl min a0) ∧ m = .int .i64 ((P.take k).foldl max 0)) (fun _ _ i => P.length - (intOf i).toNat)
    case atStart => exact ⟨0, Nat.zero_le _, rfl, rfl, rfl⟩
    case round =>
      obtain ⟨k, hk, rfl, rfl, rfl⟩ := hrel
      by_cases hlt : k < P.length
      · have c1 := HAT.out k hlt
        have HA := Lib.hid (HFA.out k hlt)
        have HB := Lib.hid (HFB.out k hlt)
        obtain ⟨x, hx⟩ : ∃ x, x = P[k] := ⟨_, rfl⟩
        rw [← hx] at c1 HA HB
        obtain ⟨a, ha⟩ : ∃ a, a = (P.take k).foldl min a0 := ⟨_, rfl⟩
        obtain ⟨m, hm⟩ : ∃ m, m = (P.take k).foldl max 0 := ⟨_, rfl⟩
        rw [← ha] at HA ⊢
        rw [← hm] at HB ⊢
        clear hx ha hm
        go_wp2_with (first
          | (go_at_call 70; refine (l1Least_any a x _).mono ?_; rintro e w' ⟨rfl, rfl⟩)
          | (go_at_call 71; refine (l1Most_any m x _).mono ?_; rintro e w' ⟨rfl, rfl⟩))
        go_round
        case rel => exact ⟨k + 1, by omega, by go_num, by rw [HA.out], by rw [HB.out]⟩
        case measure => simp [intOf]; omega
      · obtain rfl : k = P.length := by omega
        rw [List.take_length, HLO.out, HHI.out]
        have b1 := HBD.out _ HMM.out.1
        have b2 := HBD.out _ HMM.out.2
        obtain ⟨a, ha⟩ : ∃ a, a = Lib.minOf P := ⟨_, rfl⟩
        obtain ⟨m, hm⟩ : ∃ m, m = Lib.maxOf P := ⟨_, rfl⟩
        have HE := Lib.hid (And.intro ha hm)
        rw [← ha] at b2 ⊢
        rw [← hm] at b1 ⊢
        clear ha hm
        go_wp2
        go_ret2
        exact ⟨ret_bb (by rw [HE.out.1, HE.out.2]) rfl, hb⟩
end Go.Proofs.Ytbocdhibimcobaa
