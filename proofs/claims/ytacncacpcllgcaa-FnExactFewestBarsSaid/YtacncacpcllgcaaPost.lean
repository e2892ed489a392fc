/- Lengths and gaps: 'impl.areLengths', 'impl.fewestGaps', 'spec.poLong', 'spec.poParts', and FewestPosts and PostsAround of both sides. No condition. -/
import Derived.Test.YtacncacpcllgcaaNums
namespace Go.Proofs.Ytacncacpcllgcaa
open Go.RowKit

def okL (a : Int) : Bool := decide (1 ≤ a ∧ a ≤ 500)
def okL2 (a b : Int) : Bool := okL a && okL b
def okL3 (a b c : Int) : Bool := okL a && (okL b && okL c)
theorem okL_at {a : Int} (h : okL a = true) : 1 ≤ a ∧ a ≤ 500 := of_decide_eq_true h
theorem okL2_at {a b : Int} (h : okL2 a b = true) : okL a = true ∧ okL b = true := by
  unfold okL2 at h; rwa [Bool.and_eq_true] at h
theorem okL3_at {a b c : Int} (h : okL3 a b c = true) : okL a = true ∧ okL b = true ∧ okL c = true := by
  unfold okL3 at h; rwa [Bool.and_eq_true, Bool.and_eq_true] at h
theorem okL_nat {a : Int} (h : okL a = true) : ∃ x : Nat, a = x ∧ 1 ≤ x ∧ x ≤ 500 := ⟨a.toNat, by have := okL_at h; omega⟩
theorem okL_one (a : Int) : okNums 1 500 [a] = okL a := by unfold okNums allIn okL; simp
theorem okL_two (a b : Int) : okNums 2 500 [a, b] = okL2 a b := by unfold okNums allIn okL2 okL; simp
theorem okL_three (a b c : Int) : okNums 3 500 [a, b, c] = okL3 a b c := by unfold okNums allIn okL3 okL; simp
theorem one_sl (w : World) (l : Int) (e : TypeId) : IntSl (w.alloc (.cells #[.int .i64 l] e)) (some ⟨w.heap.size, 0, none⟩) [l] := by
  refine .inr ⟨w.heap.size, 0, rfl, by simp, fun k hk => ?_⟩
  rw [cell_of_row _ w.heap.size (0 + k) _ e (0, 0) (heap_alloc_new w _)]
  match k, hk with
  | 0, _ => rfl
theorem twoL_sl (w : World) (l r : Int) (e : TypeId) : IntSl (w.alloc (.cells #[.int .i64 l, .int .i64 r] e)) (some ⟨w.heap.size, 0, none⟩) [l, r] := by
  refine .inr ⟨w.heap.size, 0, rfl, by simp, fun k hk => ?_⟩
  rw [cell_of_row _ w.heap.size (0 + k) _ e (0, 0) (heap_alloc_new w _)]
  match k, hk with
  | 0, _ => rfl
  | 1, _ => rfl
theorem threeL_sl (w : World) (l r s : Int) (e : TypeId) : IntSl (w.alloc (.cells #[.int .i64 l, .int .i64 r, .int .i64 s] e)) (some ⟨w.heap.size, 0, none⟩) [l, r, s] := by
  refine .inr ⟨w.heap.size, 0, rfl, by simp, fun k hk => ?_⟩
  rw [cell_of_row _ w.heap.size (0 + k) _ e (0, 0) (heap_alloc_new w _)]
  match k, hk with
  | 0, _ => rfl
  | 1, _ => rfl
  | 2, _ => rfl

theorem areLengths_any (A : Option Addr) (c : Nat) (L : List Int) (w : World) (hm : L.length ≤ 1048576) (h : IntSl w A L) :
    Calls Try.prog 74 #[.slice A L.length c] w fun e w' => e = .returned (.bool (okNums L.length 500 L)) ∧ w = w' := by
  go_enter Try.func74, Try.ntmps74
  go_wp2_with (go_at_call 87; refine (areNumbers_any A c L L.length 500 _ hm h).mono ?_; rintro e w' ⟨rfl, rfl⟩)
  go_ret
  exact ⟨rfl, rfl⟩
theorem areL1_any (a : Int) (w : World) (A : Option Addr) (h : IntSl w A [a]) :
    Calls Try.prog 74 #[.slice A 1 1] w fun e w' => e = .returned (.bool (okL a)) ∧ w = w' := by
  have := areLengths_any A 1 [a] w (by simp) h
  rw [← okL_one]; exact this
theorem areL2_any (a b : Int) (w : World) (A : Option Addr) (h : IntSl w A [a, b]) :
    Calls Try.prog 74 #[.slice A 2 2] w fun e w' => e = .returned (.bool (okL2 a b)) ∧ w = w' := by
  have := areLengths_any A 2 [a, b] w (by simp) h
  rw [← okL_two]; exact this
theorem areL3_any (a b c : Int) (w : World) (A : Option Addr) (h : IntSl w A [a, b, c]) :
    Calls Try.prog 74 #[.slice A 3 3] w fun e w' => e = .returned (.bool (okL3 a b c)) ∧ w = w' := by
  have := areLengths_any A 3 [a, b, c] w (by simp) h
  rw [← okL_three]; exact this
theorem poLong_any (a : Int) (w : World) :
    Calls Try.prog 76 #[.int .i64 a] w fun e w' => e = .returned (.bool (okL a)) ∧ w = w' := by
  have H : Hid (∀ W, Calls Try.prog 102 #[.int .i64 a, .int .i64 1, .int .i64 500] W fun e w' => e = .returned (.bool (okL a)) ∧ W = w') := Lib.hid fun W => l1In_any a 1 500 W
  go_enter Try.func76, Try.ntmps76
  go_wp2_with (go_at_call 102; refine (H.out _).mono ?_; rintro e w' ⟨rfl, rfl⟩)
  go_ret
  exact ⟨rfl, rfl⟩

/-- how many parts there are between posts -/
def partsN (a b : Nat) : Nat := (a + b - 1) / b
theorem partsN_bd {a b : Nat} (ha : 1 ≤ a) (ha2 : a ≤ 500) (hb : 1 ≤ b) : 1 ≤ partsN a b ∧ partsN a b ≤ a := by
  unfold partsN
  refine ⟨(Nat.le_div_iff_mul_le hb).2 (by omega), ?_⟩
  apply Nat.le_of_lt_succ
  rw [Nat.div_lt_iff_lt_mul hb, Nat.succ_mul]
  have := Nat.mul_le_mul ha hb
  have := Nat.le_mul_of_pos_right a hb
  omega
set_option maxHeartbeats 400000 in
theorem fewestGaps_any (a b : Nat) (w : World) (ha : 1 ≤ a) (ha2 : a ≤ 500) (hb : 1 ≤ b) (hb2 : b ≤ 500) :
    Calls Try.prog 77 #[.int .i64 a, .int .i64 b] w fun e w' => e = .returned (.int .i64 (partsN a b : Nat)) ∧ w = w' := by
  have HD : Hid (((partsN a b : Nat) : Int) = ((a : Int) + (b : Int) - 1) / (b : Int)) := Lib.hid (by unfold partsN; rw [Int.natCast_ediv]; congr 1; omega)
  have hq := (partsN_bd ha ha2 hb).2
  obtain ⟨q, hqq⟩ : ∃ q, q = partsN a b := ⟨_, rfl⟩
  rw [← hqq] at HD hq ⊢
  have x0 : (0 : Int) ≤ (a : Int) + (b : Int) - 1 := by omega
  have dq : ((a : Int) + (b : Int) - 1) / (b : Int) = (q : Int) := HD.out.symm
  have tq : ((a : Int) + (b : Int) - 1).tdiv (b : Int) = (q : Int) := by rw [Int.tdiv_eq_ediv_of_nonneg x0, dq]
  have y0 : (0 : Int) < (b : Int) := by omega
  have y1 : (1 : Int) ≤ (b : Int) := by omega
  have yz : ((b : Int) == 0) = false := by rw [beq_eq_false_iff_ne]; omega
  clear hqq HD
  go_enter Try.func77, Try.ntmps77
  go_wp2
  go_ret
  exact ⟨rfl, rfl⟩
set_option maxHeartbeats 400000 in
theorem poParts_any (a b : Nat) (w : World) (ha : 1 ≤ a) (ha2 : a ≤ 500) (hb : 1 ≤ b) (hb2 : b ≤ 500) :
    Calls Try.prog 78 #[.int .i64 a, .int .i64 b] w fun e w' => e = .returned (.int .i64 (partsN a b : Nat)) ∧ w = w' := by
  have HD : Hid (((partsN a b : Nat) : Int) = ((a : Int) + (b : Int) - 1) / (b : Int)) := Lib.hid (by unfold partsN; rw [Int.natCast_ediv]; congr 1; omega)
  have hq := (partsN_bd ha ha2 hb).2
  obtain ⟨q, hqq⟩ : ∃ q, q = partsN a b := ⟨_, rfl⟩
  rw [← hqq] at HD hq ⊢
  have x0 : (0 : Int) ≤ (a : Int) + (b : Int) - 1 := by omega
  have dq : ((a : Int) + (b : Int) - 1) / (b : Int) = (q : Int) := HD.out.symm
  have tq : ((a : Int) + (b : Int) - 1).tdiv (b : Int) = (q : Int) := by rw [Int.tdiv_eq_ediv_of_nonneg x0, dq]
  have y0 : (0 : Int) < (b : Int) := by omega
  have y1 : (1 : Int) ≤ (b : Int) := by omega
  have yz : ((b : Int) == 0) = false := by rw [beq_eq_false_iff_ne]; omega
  clear hqq HD
  go_enter Try.func78, Try.ntmps78
  go_wp2
  go_ret
  exact ⟨rfl, rfl⟩

/-- the answer of a function of two lengths, and of three -/
def if2 (a b : Int) (f : Nat → Nat → Int) : Int := if okL2 a b = true then f a.toNat b.toNat else 0
def if3 (a b c : Int) (f : Nat → Nat → Nat → Int) : Int := if okL3 a b c = true then f a.toNat b.toNat c.toNat else 0
theorem if2_no {a b : Int} (h : okL2 a b = false) (f : Nat → Nat → Int) : if2 a b f = 0 := by unfold if2; rw [h]; rfl
theorem if3_no {a b c : Int} (h : okL3 a b c = false) (f : Nat → Nat → Nat → Int) : if3 a b c f = 0 := by unfold if3; rw [h]; rfl
theorem if2_yes {x y : Nat} (h : okL2 x y = true) (f : Nat → Nat → Int) : if2 x y f = f x y := by unfold if2; rw [if_pos h, Int.toNat_natCast, Int.toNat_natCast]
theorem if3_yes {x y z : Nat} (h : okL3 x y z = true) (f : Nat → Nat → Nat → Int) : if3 x y z f = f x y z := by unfold if3; rw [if_pos h, Int.toNat_natCast, Int.toNat_natCast, Int.toNat_natCast]
def postsI (a b : Int) : Int := if2 a b fun x y => ((partsN x y : Nat) : Int) + 1
def aroundI (a b c : Int) : Int := if3 a b c fun x y z => 2 * (((partsN x z : Nat) : Int) + ((partsN y z : Nat) : Int))

set_option maxHeartbeats 1000000 in
theorem implFewestPosts_any (a0 a1 : Int) (w : World) (_ : (Lit.int .i64 a0).wf = true) (_ : (Lit.int .i64 a1).wf = true) :
    Calls Try.prog 27 #[.int .i64 a0, .int .i64 a1] w fun e w' => e = .returned (.tuple #[.int .i64 (postsI a0 a1), .bool (okL2 a0 a1)]) ∧ Below w.heap.size w w' := by
  have HA := Lib.hid fun W A h => areL2_any a0 a1 W A h
  have H2 := Lib.hid (twoL_sl w a0 a1 3)
  have HB := Lib.hid (below_new w (.cells #[.int .i64 a0, .int .i64 a1] 3))
  cases hok : okL2 a0 a1
  · rw [show postsI a0 a1 = 0 from if2_no hok _]
    rw [hok] at HA
    clear hok
    go_enter Try.func27, Try.ntmps27
    go_wp2_with (go_at_call 74; refine (HA.out _ _ H2.out).mono ?_; rintro e w1 ⟨rfl, rfl⟩)
    go_ret2
    exact ⟨rfl, HB.out⟩
  · rw [hok] at HA
    obtain ⟨h0, h1⟩ := okL2_at hok
    obtain ⟨x, rfl, x1, x2⟩ := okL_nat h0
    obtain ⟨y, rfl, y1, y2⟩ := okL_nat h1
    rw [show postsI x y = ((partsN x y : Nat) : Int) + 1 from if2_yes hok _]
    have HF := Lib.hid fun W => fewestGaps_any x y W x1 x2 y1 y2
    have hp := partsN_bd x1 x2 y1
    obtain ⟨p, hpp⟩ : ∃ p, p = partsN x y := ⟨_, rfl⟩
    rw [← hpp] at HF hp ⊢
    clear hpp hok h0 h1
    go_enter Try.func27, Try.ntmps27
    go_wp2_with (first
      | (go_at_call 74; refine (HA.out _ _ H2.out).mono ?_; rintro e w1 ⟨rfl, rfl⟩)
      | (go_at_call 77; refine (HF.out _).mono ?_; rintro e w1 ⟨rfl, rfl⟩))
    go_ret2
    exact ⟨rfl, HB.out⟩

set_option maxHeartbeats 1000000 in
theorem specFewestPosts_no (a0 a1 : Int) (w : World)  (hok : (okL a0 && okL a1) = false) :
    Calls Try.prog 28 #[.int .i64 a0, .int .i64 a1] w fun e w' => e = .returned (.tuple #[.int .i64 0, .bool false]) ∧ Below w.heap.size w w' := by
  have H0 := Lib.hid (poLong_any a0 w)
  have H1 := Lib.hid (poLong_any a1 w)
  cases h0 : okL a0
  · clear hok
    rw [h0] at H0
    clear h0 H1
    go_enter Try.func28, Try.ntmps28
    go_wp2_with fail
    refine H0.out.mono ?_
    rintro e w1 ⟨rfl, rfl⟩
    go_wp2
    go_ret2
    exact ⟨rfl, Below.refl _ _⟩
  · skip
    cases h1 : okL a1
    · clear hok
      rw [h0] at H0
      rw [h1] at H1
      clear h0 h1
      go_enter Try.func28, Try.ntmps28
      go_wp2_with fail
      refine H0.out.mono ?_
      rintro e w1 ⟨rfl, rfl⟩
      go_wp2_with fail
      refine H1.out.mono ?_
      rintro e w1 ⟨rfl, rfl⟩
      go_wp2
      go_ret2
      exact ⟨rfl, Below.refl _ _⟩
    · rw [h0, h1] at hok; simp at hok
set_option maxHeartbeats 1000000 in
theorem specPostsAround_no (a0 a1 a2 : Int) (w : World)  (hok : (okL a0 && (okL a1 && okL a2)) = false) :
    Calls Try.prog 43 #[.int .i64 a0, .int .i64 a1, .int .i64 a2] w fun e w' => e = .returned (.tuple #[.int .i64 0, .bool false]) ∧ Below w.heap.size w w' := by
  have H0 := Lib.hid (poLong_any a0 w)
  have H1 := Lib.hid (poLong_any a1 w)
  have H2 := Lib.hid (poLong_any a2 w)
  cases h0 : okL a0
  · clear hok
    rw [h0] at H0
    clear h0 H1 H2
    go_enter Try.func43, Try.ntmps43
    go_wp2_with fail
    refine H0.out.mono ?_
    rintro e w1 ⟨rfl, rfl⟩
    go_wp2
    go_ret2
    exact ⟨rfl, Below.refl _ _⟩
  · skip
    cases h1 : okL a1
    · clear hok
      rw [h0] at H0
      rw [h1] at H1
      clear h0 h1 H2
      go_enter Try.func43, Try.ntmps43
      go_wp2_with fail
      refine H0.out.mono ?_
      rintro e w1 ⟨rfl, rfl⟩
      go_wp2_with fail
      refine H1.out.mono ?_
      rintro e w1 ⟨rfl, rfl⟩
      go_wp2
      go_ret2
      exact ⟨rfl, Below.refl _ _⟩
    · skip
      cases h2 : okL a2
      · clear hok
        rw [h0] at H0
        rw [h1] at H1
        rw [h2] at H2
        clear h0 h1 h2
        go_enter Try.func43, Try.ntmps43
        go_wp2_with fail
        refine H0.out.mono ?_
        rintro e w1 ⟨rfl, rfl⟩
        go_wp2_with fail
        refine H1.out.mono ?_
        rintro e w1 ⟨rfl, rfl⟩
        go_wp2_with fail
        refine H2.out.mono ?_
        rintro e w1 ⟨rfl, rfl⟩
        go_wp2
        go_ret2
        exact ⟨rfl, Below.refl _ _⟩
      · rw [h0, h1, h2] at hok; simp at hok
set_option maxHeartbeats 1000000 in
theorem specFewestPosts_any (a0 a1 : Int) (w : World) (_ : (Lit.int .i64 a0).wf = true) (_ : (Lit.int .i64 a1).wf = true) :
    Calls Try.prog 28 #[.int .i64 a0, .int .i64 a1] w fun e w' => e = .returned (.tuple #[.int .i64 (postsI a0 a1), .bool (okL2 a0 a1)]) ∧ Below w.heap.size w w' := by
  cases hok : okL2 a0 a1
  · rw [show postsI a0 a1 = 0 from if2_no hok _]
    exact specFewestPosts_no a0 a1 w hok
  · obtain ⟨h0, h1⟩ := okL2_at hok
    have HA := Lib.hid fun W => poLong_any a0 W
    have HB := Lib.hid fun W => poLong_any a1 W
    rw [h0] at HA
    rw [h1] at HB
    obtain ⟨x, rfl, x1, x2⟩ := okL_nat h0
    obtain ⟨y, rfl, y1, y2⟩ := okL_nat h1
    rw [show postsI x y = ((partsN x y : Nat) : Int) + 1 from if2_yes hok _]
    have HF := Lib.hid fun W => poParts_any x y W x1 x2 y1 y2
    have hp := partsN_bd x1 x2 y1
    obtain ⟨p, hpp⟩ : ∃ p, p = partsN x y := ⟨_, rfl⟩
    rw [← hpp] at HF hp ⊢
    clear hpp hok h0 h1
    go_enter Try.func28, Try.ntmps28
    go_wp2_with fail
    refine (HA.out _).mono ?_
    rintro e w1 ⟨rfl, rfl⟩
    go_wp2_with fail
    refine (HB.out _).mono ?_
    rintro e w1 ⟨rfl, rfl⟩
    go_wp2_with fail
    refine (HF.out _).mono ?_
    rintro e w1 ⟨rfl, rfl⟩
    go_wp2
    go_ret2
    exact ⟨rfl, Below.refl _ _⟩

set_option maxHeartbeats 1000000 in
theorem implPostsAround_any (a0 a1 a2 : Int) (w : World) (_ : (Lit.int .i64 a0).wf = true) (_ : (Lit.int .i64 a1).wf = true) (_ : (Lit.int .i64 a2).wf = true) :
    Calls Try.prog 37 #[.int .i64 a0, .int .i64 a1, .int .i64 a2] w fun e w' => e = .returned (.tuple #[.int .i64 (aroundI a0 a1 a2), .bool (okL3 a0 a1 a2)]) ∧ Below w.heap.size w w' := by
  have HA := Lib.hid fun W A h => areL3_any a0 a1 a2 W A h
  have H2 := Lib.hid (threeL_sl w a0 a1 a2 3)
  have HB := Lib.hid (below_new w (.cells #[.int .i64 a0, .int .i64 a1, .int .i64 a2] 3))
  cases hok : okL3 a0 a1 a2
  · rw [show aroundI a0 a1 a2 = 0 from if3_no hok _]
    rw [hok] at HA
    clear hok
    go_enter Try.func37, Try.ntmps37
    go_wp2_with (go_at_call 74; refine (HA.out _ _ H2.out).mono ?_; rintro e w1 ⟨rfl, rfl⟩)
    go_ret2
    exact ⟨rfl, HB.out⟩
  · rw [hok] at HA
    obtain ⟨h0, h1, h2⟩ := okL3_at hok
    obtain ⟨x, rfl, x1, x2⟩ := okL_nat h0
    obtain ⟨y, rfl, y1, y2⟩ := okL_nat h1
    obtain ⟨z, rfl, z1, z2⟩ := okL_nat h2
    rw [show aroundI x y z = 2 * (((partsN x z : Nat) : Int) + ((partsN y z : Nat) : Int)) from if3_yes hok _]
    have HF := Lib.hid fun W => fewestGaps_any x z W x1 x2 z1 z2
    have HG := Lib.hid fun W => fewestGaps_any y z W y1 y2 z1 z2
    have hp := partsN_bd x1 x2 z1
    have hq := partsN_bd y1 y2 z1
    obtain ⟨p, hpp⟩ : ∃ p, p = partsN x z := ⟨_, rfl⟩
    obtain ⟨q, hqq⟩ : ∃ p, p = partsN y z := ⟨_, rfl⟩
    rw [← hpp] at HF hp ⊢
    rw [← hqq] at HG hq ⊢
    clear hpp hqq hok h0 h1 h2
    go_enter Try.func37, Try.ntmps37
    go_wp2_with fail
    refine (HA.out _ _ H2.out).mono ?_
    rintro e w1 ⟨rfl, rfl⟩
    go_wp2_with fail
    refine (HF.out _).mono ?_
    rintro e w1 ⟨rfl, rfl⟩
    go_wp2_with fail
    refine (HG.out _).mono ?_
    rintro e w1 ⟨rfl, rfl⟩
    go_wp2
    go_ret2
    exact ⟨rfl, HB.out⟩
set_option maxHeartbeats 1000000 in
theorem specPostsAround_any (a0 a1 a2 : Int) (w : World) (_ : (Lit.int .i64 a0).wf = true) (_ : (Lit.int .i64 a1).wf = true) (_ : (Lit.int .i64 a2).wf = true) :
    Calls Try.prog 43 #[.int .i64 a0, .int .i64 a1, .int .i64 a2] w fun e w' => e = .returned (.tuple #[.int .i64 (aroundI a0 a1 a2), .bool (okL3 a0 a1 a2)]) ∧ Below w.heap.size w w' := by
  cases hok : okL3 a0 a1 a2
  · rw [show aroundI a0 a1 a2 = 0 from if3_no hok _]
    exact specPostsAround_no a0 a1 a2 w hok
  · obtain ⟨h0, h1, h2⟩ := okL3_at hok
    have HA := Lib.hid fun W => poLong_any a0 W
    have HB := Lib.hid fun W => poLong_any a1 W
    have HC := Lib.hid fun W => poLong_any a2 W
    rw [h0] at HA
    rw [h1] at HB
    rw [h2] at HC
    obtain ⟨x, rfl, x1, x2⟩ := okL_nat h0
    obtain ⟨y, rfl, y1, y2⟩ := okL_nat h1
    obtain ⟨z, rfl, z1, z2⟩ := okL_nat h2
    rw [show aroundI x y z = 2 * (((partsN x z : Nat) : Int) + ((partsN y z : Nat) : Int)) from if3_yes hok _]
    have HF := Lib.hid fun W => poParts_any x z W x1 x2 z1 z2
    have HG := Lib.hid fun W => poParts_any y z W y1 y2 z1 z2
    have hp := partsN_bd x1 x2 z1
    have hq := partsN_bd y1 y2 z1
    obtain ⟨p, hpp⟩ : ∃ p, p = partsN x z := ⟨_, rfl⟩
    obtain ⟨q, hqq⟩ : ∃ p, p = partsN y z := ⟨_, rfl⟩
    rw [← hpp] at HF hp ⊢
    rw [← hqq] at HG hq ⊢
    clear hpp hqq hok h0 h1 h2
    rw [Int.mul_add]
    go_enter Try.func43, Try.ntmps43
    go_wp2_with fail
    refine (HA.out _).mono ?_
    rintro e w1 ⟨rfl, rfl⟩
    go_wp2_with fail
    refine (HB.out _).mono ?_
    rintro e w1 ⟨rfl, rfl⟩
    go_wp2_with fail
    refine (HC.out _).mono ?_
    rintro e w1 ⟨rfl, rfl⟩
    go_wp2_with fail
    refine (HF.out _).mono ?_
    rintro e w1 ⟨rfl, rfl⟩
    go_wp2_with fail
    refine (HG.out _).mono ?_
    rintro e w1 ⟨rfl, rfl⟩
    go_wp2
    go_ret2
    exact ⟨rfl, Below.refl _ _⟩
end Go.Proofs.Ytacncacpcllgcaa
