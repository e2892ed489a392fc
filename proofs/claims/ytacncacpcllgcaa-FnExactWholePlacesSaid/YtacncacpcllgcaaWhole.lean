/- WholePlaces of both sides. No condition. -/
import Derived.Test.YtacncacpcllgcaaPlaces
namespace Go.Proofs.Ytacncacpcllgcaa
open Go.RowKit

/-- the places of so many parts, rounded down -/
def wholeJ (x p j : Nat) : List Int := (List.range j).map fun k => ((k * x / p : Nat) : Int)
theorem wholeJ_len (x p j : Nat) : (wholeJ x p j).length = j := by simp [wholeJ]
theorem wholeJ_succ (x p j : Nat) : wholeJ x p (j + 1) = wholeJ x p j ++ [((j * x / p : Nat) : Int)] := by
  unfold wholeJ; rw [List.range_succ, List.map_append]; rfl
theorem wholeJ_at (x p n j : Nat) (h : j < n) : ((wholeJ x p n).map (Value.int .i64))[j]? = some (.int .i64 ((j * x / p : Nat) : Int)) := by
  unfold wholeJ; rw [List.map_map, List.getElem?_map, List.getElem?_range h]; rfl
def wholeL (a b : Int) : List Int := ifL2 a b fun x y => wholeJ x (partsN x y) (partsN x y + 1)
theorem whole_len (a b : Int) : (wholeL a b).length ≤ 1048576 := ifL2_len fun x y h1 h2 h3 h4 => by
  have := partsN_bd h1 h2 h3
  rw [wholeJ_len]; omega
/-- one place: the numbers of a division, opened -/
theorem whole_div {x p k : Nat} (hx : x ≤ 500) (_ : 1 ≤ p) (hk : k ≤ 500) : ∃ q : Nat, q = k * x / p ∧ q ≤ 250000 ∧ (0 : Int) ≤ (k : Int) * (x : Int) ∧ (k : Int) * (x : Int) ≤ 250000 ∧ ((k : Int) * (x : Int)) / (p : Int) = (q : Int) ∧ ((k : Int) * (x : Int)).tdiv (p : Int) = (q : Int) := by
  have h1 : k * x ≤ 500 * 500 := Nat.mul_le_mul hk hx
  have h2 := Nat.div_le_self (k * x) p
  have h3 : ((k * x : Nat) : Int) = (k : Int) * (x : Int) := Int.natCast_mul _ _
  have h4 : ((k : Int) * (x : Int)) / (p : Int) = ((k * x / p : Nat) : Int) := by rw [← h3, Int.natCast_ediv]
  exact ⟨_, rfl, by omega, by omega, by omega, h4, by rw [Int.tdiv_eq_ediv_of_nonneg (by omega), h4]⟩

set_option maxRecDepth 20000 in
set_option maxHeartbeats 2000000 in
theorem implWholePlaces_any (a0 a1 : Int) (w : World) (w0 : (Lit.int .i64 a0).wf = true) (w1' : (Lit.int .i64 a1).wf = true) :
    Calls Try.prog 31 #[.int .i64 a0, .int .i64 a1] w fun e w' => ∃ v, e = .returned (.tuple #[v, .bool (okL2 a0 a1)]) ∧ OwnInts w' w.heap.size 3 v (wholeL a0 a1) ∧ Below w.heap.size w w' := by
  obtain ⟨i0, hi, hz0, hz1, hz2⟩ := info_parts info_int
  have HF := Lib.hid (implFewestPosts_any a0 a1 w w0 w1')
  cases hok : okL2 a0 a1
  · rw [show wholeL a0 a1 = [] from ifL2_no hok _]
    rw [hok] at HF
    clear hok
    go_enter Try.func31, Try.ntmps31
    go_wp2_with (go_at_call 27; refine HF.out.mono ?_; rintro e w1 ⟨rfl, hb⟩)
    go_ret2
    exact ⟨_, rfl, OwnInts.nil _ _ _, hb⟩
  · rw [hok] at HF
    obtain ⟨h0, h1⟩ := okL2_at hok
    obtain ⟨x, rfl, x1, x2⟩ := okL_nat h0
    obtain ⟨y, rfl, y1, y2⟩ := okL_nat h1
    rw [show postsI x y = ((partsN x y : Nat) : Int) + 1 from if2_yes hok _] at HF
    rw [show wholeL x y = wholeJ x (partsN x y) (partsN x y + 1) from ifL2_yes hok _]
    have hp := partsN_bd x1 x2 y1
    obtain ⟨p, hpp⟩ : ∃ p, p = partsN x y := ⟨_, rfl⟩
    rw [← hpp] at HF hp ⊢
    obtain ⟨n, hn⟩ : ∃ n, n = p + 1 := ⟨_, rfl⟩
    rw [← hn]
    have HNP : Hid ((p : Int) = (n : Int) - 1 ∧ n = p + 1) := Lib.hid (by omega)
    rw [show (p : Int) + 1 = (n : Int) by omega] at HF
    have hn2 : 2 ≤ n := by omega
    have hn3 : n ≤ 501 := by omega
    clear hpp hok h0 h1 w0 w1' hn
    go_enter Try.func31, Try.ntmps31
    go_wp2_with fail
    refine HF.out.mono ?_
    rintro e w1 ⟨rfl, hb⟩
    have HB := Lib.hid hb
    have hbs := hb.size
    clear hb
    go_wp2_with (at_make; refine wpList_make_full _ rfl (.tmp 18) (.tmp 18) _ rfl w1.heap.size 3 i0 _ 1 Try.underlying26 hi hz0 hz1 .i64 .i64 _ _ n rfl rfl rfl rfl (by rw [hz2]; omega) (by unfold maxLen; omega) (Nat.le_refl _) ?_; intro w2 hown hgrow)
    have HFi : Hid (Filled w1 w1.heap.size 3 1 (.slice (some ⟨w1.heap.size, 0, none⟩) n n) n ((wholeJ x p n).map (Value.int .i64)) 0 w2) := Lib.hid (Filled.made hown ((Below.refl _ _).grown hgrow (Nat.le_refl _) (fun k hk => by cases hk)))
    clear hown hgrow
    go_loopw [9, 22] (fun _ i wr => ∃ j : Nat, j ≤ n ∧ i = .int .i64 j ∧ Filled w1 w1.heap.size 3 1 (.slice (some ⟨w1.heap.size, 0, none⟩) n n) n ((wholeJ x p n).map (Value.int .i64)) j wr) (fun _ i _ => n - (intOf i).toNat)
    case atStart => exact ⟨0, Nat.zero_le _, rfl, HFi.out⟩
    case round =>
      clear HFi
      obtain ⟨j, hj, rfl, hf⟩ := hrel
      have HF1 := Lib.hid hf
      clear hf
      by_cases hjt : j < n
      · obtain ⟨⟨u1, d1⟩, f1⟩ := HF1.out.cell j (by omega)
        have K1 := Lib.hid (wholeJ_at x p n j hjt)
        obtain ⟨hnp, -⟩ := HNP.out
        obtain ⟨q, hq, hq2, m0, m1, dq, tq⟩ := whole_div (x := x) (p := p) (k := j) x2 hp.1 (by omega)
        rw [← hq] at K1
        rw [hnp] at dq tq
        have y0 : (0 : Int) < (n : Int) - 1 := by omega
        have y1' : (1 : Int) ≤ (n : Int) - 1 := by omega
        have yz : ((n : Int) - 1 == 0) = false := by rw [beq_eq_false_iff_ne]; omega
        have hj0 : (0 : Int) ≤ (j : Int) := by omega
        have hj1 : (j : Int) < (n : Int) := by omega
        clear hq hnp
        go_wp2
        go_roundw
        case rel => exact ⟨j + 1, by omega, by go_num, HF1.out.step (by omega) (Nat.le_refl _) K1.out⟩
        case measure => simp [intOf]; omega
      · obtain rfl : j = n := by omega
        have HA := Lib.hid (Filled.all (by rw [Nat.mul_one]; exact HF1.out) (by rw [List.length_map, wholeJ_len, Nat.mul_one]))
        have HV : Hid (OwnInts wr w.heap.size 3 (.slice (some ⟨w1.heap.size, 0, none⟩) j j) (wholeJ x p j)) := Lib.hid (by
          refine OwnInts.mono ?_ hbs
          unfold OwnInts; rw [wholeJ_len]; exact HA.out.1)
        go_wp2
        go_ret2
        exact ⟨_, rfl, HV.out, below_next HB.out HA.out.2⟩

set_option maxHeartbeats 1000000 in
theorem specWholePlaces_no (a0 a1 : Int) (w : World)  (hok : (okL a0 && okL a1) = false) :
    Calls Try.prog 32 #[.int .i64 a0, .int .i64 a1] w fun e w' => e = .returned (.tuple #[.slice none 0 0, .bool false]) ∧ Below w.heap.size w w' := by
  have H0 := Lib.hid (poLong_any a0 w)
  have H1 := Lib.hid (poLong_any a1 w)
  cases h0 : okL a0
  · clear hok
    rw [h0] at H0
    clear h0 H1
    go_enter Try.func32, Try.ntmps32
    go_wp2_with fail
    refine H0.out.mono ?_
    rintro e w1 ⟨rfl, rfl⟩
    go_wp2
    go_ret2
    exact ⟨rfl, Below.refl _ _⟩
  · skip
    cases h1 : okL a1
    · clear hok
      rw [h0] at H0
      rw [h1] at H1
      clear h0 h1
      go_enter Try.func32, Try.ntmps32
      go_wp2_with fail
      refine H0.out.mono ?_
      rintro e w1 ⟨rfl, rfl⟩
      go_wp2_with fail
      refine H1.out.mono ?_
      rintro e w1 ⟨rfl, rfl⟩
      go_wp2
      go_ret2
      exact ⟨rfl, Below.refl _ _⟩
    · rw [h0, h1] at hok; simp at hok
set_option maxRecDepth 20000 in
set_option maxHeartbeats 2000000 in
theorem specWholePlaces_any (a0 a1 : Int) (w : World) (_ : (Lit.int .i64 a0).wf = true) (_ : (Lit.int .i64 a1).wf = true) :
    Calls Try.prog 32 #[.int .i64 a0, .int .i64 a1] w fun e w' => ∃ v, e = .returned (.tuple #[v, .bool (okL2 a0 a1)]) ∧ OwnInts w' w.heap.size 3 v (wholeL a0 a1) ∧ Below w.heap.size w w' := by
  obtain ⟨i0, hi, hz0, hz1, hz2⟩ := info_parts info_int
  cases hok : okL2 a0 a1
  · rw [show wholeL a0 a1 = [] from ifL2_no hok _]
    exact (specWholePlaces_no a0 a1 w hok).mono fun e w' h => ⟨_, h.1, OwnInts.nil _ _ _, h.2⟩
  · obtain ⟨h0, h1⟩ := okL2_at hok
    have HA := Lib.hid fun W => poLong_any a0 W
    have HB := Lib.hid fun W => poLong_any a1 W
    rw [h0] at HA
    rw [h1] at HB
    obtain ⟨x, rfl, x1, x2⟩ := okL_nat h0
    obtain ⟨y, rfl, y1, y2⟩ := okL_nat h1
    rw [show wholeL x y = wholeJ x (partsN x y) (partsN x y + 1) from ifL2_yes hok _]
    have HF := Lib.hid fun W => poParts_any x y W x1 x2 y1 y2
    have hp := partsN_bd x1 x2 y1
    obtain ⟨p, hpp⟩ : ∃ p, p = partsN x y := ⟨_, rfl⟩
    rw [← hpp] at HF hp ⊢
    clear hpp hok h0 h1
    go_enter Try.func32, Try.ntmps32
    go_wp2_with fail
    refine (HA.out _).mono ?_
    rintro e w1 ⟨rfl, rfl⟩
    go_wp2_with fail
    refine (HB.out _).mono ?_
    rintro e w1 ⟨rfl, rfl⟩
    go_wp2_with fail
    refine (HF.out _).mono ?_
    rintro e w1 ⟨rfl, rfl⟩
    go_wp2
    go_loopw [6, 8] (fun v i wr => ∃ j : Nat, j ≤ p + 1 ∧ i = .int .i64 j ∧ OwnInts wr w.heap.size 3 v (wholeJ x p j) ∧ Below w.heap.size w wr) (fun _ i _ => p + 1 - (intOf i).toNat)
    case atStart => exact ⟨0, Nat.zero_le _, rfl, OwnInts.nil _ _ _, Below.refl _ _⟩
    case round =>
      obtain ⟨j, hj, rfl, hown, hb⟩ := hrel
      have HO := Lib.hid hown
      clear hown
      have hlen := wholeJ_len x p j
      by_cases hlt : j ≤ p
      · obtain ⟨q, hq, hq2, m0, m1, dq, tq⟩ := whole_div (x := x) (p := p) (k := j) x2 hp.1 (by omega)
        have HN : Hid (wholeJ x p (j + 1) = wholeJ x p j ++ [(q : Int)]) := Lib.hid (by rw [wholeJ_succ, hq])
        have hbs := hb.size
        have y0 : (0 : Int) < (p : Int) := by omega
        have y1' : (1 : Int) ≤ (p : Int) := by omega
        have yz : ((p : Int) == 0) = false := by rw [beq_eq_false_iff_ne]; omega
        clear hq
        go_wp2_with (at_builtin; refine wpList_append_own _ rfl (.tmp 25) (.tmp 31) _ rfl w.heap.size 3 i0 _ 1 8 Try.underlying26 hi hz0 hz1 hz2 rfl (by decide) _ (wholeJ x p j).length ((wholeJ x p j).map (Value.int .i64)) rfl (World.ownsRow.alloc HO.out _) ⟨_, 0, none⟩ 1 1 [.int .i64 (q)] rfl rfl (World.news_of_block (cs := #[.int .i64 (q)]) (t := 3) (fr := (0, 0)) (heap_alloc_new _ _)) (by simp [Value.oneCell']) (by unfold maxLen; omega) (by omega) (by simp; omega) ?_; intro v' w3 hown' hgrow _)
        have HR : Hid (OwnInts w3 w.heap.size 3 v' (wholeJ x p (j + 1))) := Lib.hid (by rw [HN.out]; exact OwnInts.snoc hown')
        have HB3 : Hid (Below w.heap.size w w3) := Lib.hid ((hb.alloc hbs _).grown hgrow (by simp; omega) fun k hk => (World.ownsRow.lt HO.out k hk).1)
        clear hown' hgrow
        go_wp2
        go_roundw
        case rel => exact ⟨j + 1, by omega, by go_num, HR.out, HB3.out⟩
        case measure => simp [intOf]; omega
      · obtain rfl : j = p + 1 := by omega
        go_wp2
        go_ret2
        exact ⟨_, rfl, HO.out, hb⟩
end Go.Proofs.Ytacncacpcllgcaa
