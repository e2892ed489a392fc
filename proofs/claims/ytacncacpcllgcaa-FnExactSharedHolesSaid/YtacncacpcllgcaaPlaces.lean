/- PlacesOfPosts of both sides. No condition. -/
import Derived.Test.YtacncacpcllgcaaPost
import Derived.Test.YtacncacpcllgcaaHoleMath
namespace Go.Proofs.Ytacncacpcllgcaa
open Go.RowKit

set_option maxRecDepth 20000 in
set_option maxHeartbeats 2000000 in
theorem multiples_any (m g : Nat) (w : World) (hm : m ≤ 500) (hg : 1 ≤ g) (hg2 : g ≤ 250000) :
    Calls Try.prog 75 #[.int .i64 m, .int .i64 g] w fun e w' => ∃ v, e = .returned v ∧ OwnInts w' w.heap.size 3 v (mulsL g (m / g + 1)) ∧ Below w.heap.size w w' := by
  obtain ⟨i0, hi, hz0, hz1, hz2⟩ := info_parts info_int
  go_enter Try.func75, Try.ntmps75
  go_wp2
  go_loopw [5, 6] (fun v i wr => ∃ j x : Nat, i = .int .i64 x ∧ x ≤ 250500 ∧ Hid (x = g * j ∧ (j = 0 ∨ g * (j - 1) ≤ m)) ∧ OwnInts wr w.heap.size 3 v (mulsL g j) ∧ Below w.heap.size w wr) (fun _ i _ => m + 1 - (intOf i).toNat)
  case atStart => exact ⟨0, 0, rfl, by omega, Lib.hid ⟨rfl, .inl rfl⟩, OwnInts.nil _ _ _, Below.refl _ _⟩
  case round =>
    obtain ⟨j, x, rfl, hx5, hx, hown, hb⟩ := hrel
    have HO := Lib.hid hown
    clear hown
    by_cases hlt : x ≤ m
    · have hlen := mulsL_len g j
      have hjx : j ≤ x := by have := hx.out.1; have := Nat.le_mul_of_pos_left j hg; omega
      have HN : Hid (mulsL g (j + 1) = mulsL g j ++ [(x : Int)]) := Lib.hid (by rw [mulsL_succ, hx.out.1])
      have HX : Hid (x + g = g * (j + 1) ∧ (j + 1 = 0 ∨ g * (j + 1 - 1) ≤ m)) := Lib.hid ⟨by rw [hx.out.1, Nat.mul_succ], .inr (by rw [Nat.add_sub_cancel, ← hx.out.1]; exact hlt)⟩
      have hbs := hb.size
      go_wp2_with (at_builtin; refine wpList_append_own _ rfl (.tmp 13) (.tmp 15) _ rfl w.heap.size 3 i0 _ 1 8 Try.underlying26 hi hz0 hz1 hz2 rfl (by decide) _ (mulsL g j).length ((mulsL g j).map (Value.int .i64)) rfl (World.ownsRow.alloc HO.out _) ⟨_, 0, none⟩ 1 1 [.int .i64 (x)] rfl rfl (World.news_of_block (cs := #[.int .i64 (x)]) (t := 3) (fr := (0, 0)) (heap_alloc_new _ _)) (by simp [Value.oneCell']) (by unfold maxLen; omega) (by omega) (by simp; omega) ?_; intro v' w3 hown' hgrow _)
      have HR : Hid (OwnInts w3 w.heap.size 3 v' (mulsL g (j + 1))) := Lib.hid (by rw [HN.out]; exact OwnInts.snoc hown')
      have HB3 : Hid (Below w.heap.size w w3) := Lib.hid ((hb.alloc hbs _).grown hgrow (by simp; omega) fun k hk => (World.ownsRow.lt HO.out k hk).1)
      clear hown' hgrow
      go_wp2
      go_roundw
      case rel => exact ⟨j + 1, x + g, by go_num, by omega, HX, HR.out, HB3.out⟩
      case measure => simp [intOf]; omega
    · have HE : Hid (j = m / g + 1) := Lib.hid (muls_end hg hx.out.2 (by rw [← hx.out.1]; exact hlt))
      go_wp2
      go_ret
      exact ⟨_, rfl, by rw [← HE.out]; exact HO.out, hb⟩

/-- the list that a function of two lengths answers with -/
def ifL2 (a b : Int) (f : Nat → Nat → List Int) : List Int := if okL2 a b = true then f a.toNat b.toNat else []
theorem ifL2_no {a b : Int} (h : okL2 a b = false) (f : Nat → Nat → List Int) : ifL2 a b f = [] := by unfold ifL2; rw [h]; rfl
theorem ifL2_yes {x y : Nat} (h : okL2 x y = true) (f : Nat → Nat → List Int) : ifL2 x y f = f x y := by unfold ifL2; rw [if_pos h, Int.toNat_natCast, Int.toNat_natCast]
theorem ifL2_len {a b : Int} {f : Nat → Nat → List Int} (h : ∀ x y : Nat, 1 ≤ x → x ≤ 500 → 1 ≤ y → y ≤ 500 → (f x y).length ≤ 1048576) : (ifL2 a b f).length ≤ 1048576 := by
  unfold ifL2
  split
  · next hk =>
    obtain ⟨h0, h1⟩ := okL2_at hk
    have := okL_at h0
    have := okL_at h1
    exact h _ _ (by omega) (by omega) (by omega) (by omega)
  · exact Nat.zero_le _
def placesL (a b : Int) : List Int := ifL2 a b fun x y => mulsL y ((x - 1) / y + 1) ++ [(x : Int)]
theorem places_len (a b : Int) : (placesL a b).length ≤ 1048576 := ifL2_len fun x y _ h _ _ => by
  have := Nat.div_le_self (x - 1) y
  rw [List.length_append, mulsL_len, List.length_singleton]; omega

set_option maxRecDepth 20000 in
set_option maxHeartbeats 2000000 in
theorem implPlacesOfPosts_any (a0 a1 : Int) (w : World) (_ : (Lit.int .i64 a0).wf = true) (_ : (Lit.int .i64 a1).wf = true) :
    Calls Try.prog 25 #[.int .i64 a0, .int .i64 a1] w fun e w' => ∃ v, e = .returned (.tuple #[v, .bool (okL2 a0 a1)]) ∧ OwnInts w' w.heap.size 3 v (placesL a0 a1) ∧ Below w.heap.size w w' := by
  obtain ⟨i0, hi, hz0, hz1, hz2⟩ := info_parts info_int
  have HA := Lib.hid fun W A h => areL2_any a0 a1 W A h
  have H2 := Lib.hid (twoL_sl w a0 a1 3)
  have HB := Lib.hid (below_new w (.cells #[.int .i64 a0, .int .i64 a1] 3))
  cases hok : okL2 a0 a1
  · rw [show placesL a0 a1 = [] from ifL2_no hok _]
    rw [hok] at HA
    clear hok
    go_enter Try.func25, Try.ntmps25
    go_wp2_with (go_at_call 74; refine (HA.out _ _ H2.out).mono ?_; rintro e w1 ⟨rfl, rfl⟩)
    go_ret2
    exact ⟨_, rfl, OwnInts.nil _ _ _, HB.out⟩
  · rw [hok] at HA
    obtain ⟨h0, h1⟩ := okL2_at hok
    obtain ⟨x, rfl, x1, x2⟩ := okL_nat h0
    obtain ⟨y, rfl, y1, y2⟩ := okL_nat h1
    rw [show placesL x y = mulsL y ((x - 1) / y + 1) ++ [(x : Int)] from ifL2_yes hok _]
    have HF := Lib.hid fun W => multiples_any (x - 1) y W (by omega) y1 (by omega)
    rw [show (((x - 1 : Nat) : Nat) : Int) = (x : Int) - 1 by omega] at HF
    have hlen := mulsL_len y ((x - 1) / y + 1)
    have hle := Nat.div_le_self (x - 1) y
    obtain ⟨Q, hQ⟩ : ∃ Q, Q = mulsL y ((x - 1) / y + 1) := ⟨_, rfl⟩
    rw [← hQ] at HF hlen ⊢
    have hql : Q.length ≤ 501 := by omega
    clear hQ hok h0 h1 hlen hle
    go_enter Try.func25, Try.ntmps25
    go_wp2_with fail
    refine (HA.out _ _ H2.out).mono ?_
    rintro e w1 ⟨rfl, rfl⟩
    go_wp2_with fail
    refine (HF.out _).mono ?_
    rintro e w1 ⟨v, rfl, hown, hb⟩
    have HO := Lib.hid (hown.mono HB.out.size)
    have HB1 := Lib.hid (below_nextN HB.out HB.out.size hb)
    have HS := HB1.out.size
    clear hown hb
    go_wp2_with (at_builtin; refine wpList_append_own _ rfl (.tmp 14) (.tmp 16) _ rfl w.heap.size 3 i0 _ 1 8 Try.underlying26 hi hz0 hz1 hz2 rfl (by decide) _ (Q).length ((Q).map (Value.int .i64)) rfl (World.ownsRow.alloc HO.out _) ⟨_, 0, none⟩ 1 1 [.int .i64 (x)] rfl rfl (World.news_of_block (cs := #[.int .i64 (x)]) (t := 3) (fr := (0, 0)) (heap_alloc_new _ _)) (by simp [Value.oneCell']) (by unfold maxLen; omega) (by omega) (by simp; omega) ?_; intro v' w3 hown' hgrow _)
    have HR : Hid (OwnInts w3 w.heap.size 3 v' (Q ++ [(x : Int)])) := Lib.hid (OwnInts.snoc hown')
    have HB3 : Hid (Below w.heap.size w w3) := Lib.hid ((HB1.out.alloc HS _).grown hgrow (by simp; omega) fun k hk => (World.ownsRow.lt HO.out k hk).1)
    clear hown' hgrow
    go_wp2
    go_ret2
    exact ⟨_, rfl, HR.out, HB3.out⟩

set_option maxHeartbeats 1000000 in
theorem specPlacesOfPosts_no (a0 a1 : Int) (w : World)  (hok : (okL a0 && okL a1) = false) :
    Calls Try.prog 26 #[.int .i64 a0, .int .i64 a1] w fun e w' => e = .returned (.tuple #[.slice none 0 0, .bool false]) ∧ Below w.heap.size w w' := by
  have H0 := Lib.hid (poLong_any a0 w)
  have H1 := Lib.hid (poLong_any a1 w)
  cases h0 : okL a0
  · clear hok
    rw [h0] at H0
    clear h0 H1
    go_enter Try.func26, Try.ntmps26
    go_wp2_with fail
    refine H0.out.mono ?_
    rintro e w1 ⟨rfl, rfl⟩
    go_wp2
    go_ret2
    exact ⟨rfl, Below.refl _ _⟩
  · skip
    cases h1 : okL a1
    · clear hok
      rw [h0] at H0
      rw [h1] at H1
      clear h0 h1
      go_enter Try.func26, Try.ntmps26
      go_wp2_with fail
      refine H0.out.mono ?_
      rintro e w1 ⟨rfl, rfl⟩
      go_wp2_with fail
      refine H1.out.mono ?_
      rintro e w1 ⟨rfl, rfl⟩
      go_wp2
      go_ret2
      exact ⟨rfl, Below.refl _ _⟩
    · rw [h0, h1] at hok; simp at hok
set_option maxRecDepth 20000 in
set_option maxHeartbeats 2000000 in
theorem specPlacesOfPosts_any (a0 a1 : Int) (w : World) (_ : (Lit.int .i64 a0).wf = true) (_ : (Lit.int .i64 a1).wf = true) :
    Calls Try.prog 26 #[.int .i64 a0, .int .i64 a1] w fun e w' => ∃ v, e = .returned (.tuple #[v, .bool (okL2 a0 a1)]) ∧ OwnInts w' w.heap.size 3 v (placesL a0 a1) ∧ Below w.heap.size w w' := by
  obtain ⟨i0, hi, hz0, hz1, hz2⟩ := info_parts info_int
  cases hok : okL2 a0 a1
  · rw [show placesL a0 a1 = [] from ifL2_no hok _]
    exact (specPlacesOfPosts_no a0 a1 w hok).mono fun e w' h => ⟨_, h.1, OwnInts.nil _ _ _, h.2⟩
  · obtain ⟨h0, h1⟩ := okL2_at hok
    have HA := Lib.hid fun W => poLong_any a0 W
    have HB := Lib.hid fun W => poLong_any a1 W
    rw [h0] at HA
    rw [h1] at HB
    obtain ⟨m, rfl, x1, x2⟩ := okL_nat h0
    obtain ⟨g, rfl, hg, hg2⟩ := okL_nat h1
    rw [show placesL m g = mulsL g ((m - 1) / g + 1) ++ [(m : Int)] from ifL2_yes hok _]
    clear hok h0 h1
    go_enter Try.func26, Try.ntmps26
    go_wp2_with fail
    refine (HA.out _).mono ?_
    rintro e w1 ⟨rfl, rfl⟩
    go_wp2_with fail
    refine (HB.out _).mono ?_
    rintro e w1 ⟨rfl, rfl⟩
    go_wp2
    go_loopw [6, 7] (fun v i wr => ∃ j x : Nat, i = .int .i64 x ∧ x ≤ 250500 ∧ j ≤ 501 ∧ Hid (x = g * j ∧ (j = 0 ∨ g * (j - 1) ≤ m - 1)) ∧ OwnInts wr w.heap.size 3 v (mulsL g j) ∧ Below w.heap.size w wr) (fun _ i _ => m + 1 - (intOf i).toNat)
    case atStart => exact ⟨0, 0, rfl, by omega, by omega, Lib.hid ⟨rfl, .inl rfl⟩, OwnInts.nil _ _ _, Below.refl _ _⟩
    case round =>
      obtain ⟨j, x, rfl, hx5, hj5, hx, hown, hb⟩ := hrel
      have HO := Lib.hid hown
      clear hown
      have hlen := mulsL_len g j
      by_cases hlt : x < m
      · have hjx : j ≤ x := by have := hx.out.1; have := Nat.le_mul_of_pos_left j hg; omega
        have HN : Hid (mulsL g (j + 1) = mulsL g j ++ [(x : Int)]) := Lib.hid (by rw [mulsL_succ, hx.out.1])
        have HX : Hid (x + g = g * (j + 1) ∧ (j + 1 = 0 ∨ g * (j + 1 - 1) ≤ m - 1)) := Lib.hid ⟨by rw [hx.out.1, Nat.mul_succ], .inr (by rw [Nat.add_sub_cancel, ← hx.out.1]; omega)⟩
        have hbs := hb.size
        go_wp2_with (at_builtin; refine wpList_append_own _ rfl (.tmp 22) (.tmp 24) _ rfl w.heap.size 3 i0 _ 1 8 Try.underlying26 hi hz0 hz1 hz2 rfl (by decide) _ (mulsL g j).length ((mulsL g j).map (Value.int .i64)) rfl (World.ownsRow.alloc HO.out _) ⟨_, 0, none⟩ 1 1 [.int .i64 (x)] rfl rfl (World.news_of_block (cs := #[.int .i64 (x)]) (t := 3) (fr := (0, 0)) (heap_alloc_new _ _)) (by simp [Value.oneCell']) (by unfold maxLen; omega) (by omega) (by simp; omega) ?_; intro v' w3 hown' hgrow _)
        have HR : Hid (OwnInts w3 w.heap.size 3 v' (mulsL g (j + 1))) := Lib.hid (by rw [HN.out]; exact OwnInts.snoc hown')
        have HB3 : Hid (Below w.heap.size w w3) := Lib.hid ((hb.alloc hbs _).grown hgrow (by simp; omega) fun k hk => (World.ownsRow.lt HO.out k hk).1)
        clear hown' hgrow
        go_wp2
        go_roundw
        case rel => exact ⟨j + 1, x + g, by go_num, by omega, by omega, HX, HR.out, HB3.out⟩
        case measure => simp [intOf]; omega
      · have HE : Hid (j = (m - 1) / g + 1) := Lib.hid (muls_end hg hx.out.2 (by rw [← hx.out.1]; omega))
        have hbs := hb.size
        go_wp2_with (at_builtin; refine wpList_append_own _ rfl (.tmp 26) (.tmp 28) _ rfl w.heap.size 3 i0 _ 1 8 Try.underlying26 hi hz0 hz1 hz2 rfl (by decide) _ (mulsL g j).length ((mulsL g j).map (Value.int .i64)) rfl (World.ownsRow.alloc HO.out _) ⟨_, 0, none⟩ 1 1 [.int .i64 (m)] rfl rfl (World.news_of_block (cs := #[.int .i64 (m)]) (t := 3) (fr := (0, 0)) (heap_alloc_new _ _)) (by simp [Value.oneCell']) (by unfold maxLen; omega) (by omega) (by simp; omega) ?_; intro v' w3 hown' hgrow _)
        have HR : Hid (OwnInts w3 w.heap.size 3 v' (mulsL g ((m - 1) / g + 1) ++ [(m : Int)])) := Lib.hid (by rw [← HE.out]; exact OwnInts.snoc hown')
        have HB3 : Hid (Below w.heap.size w w3) := Lib.hid ((hb.alloc hbs _).grown hgrow (by simp; omega) fun k hk => (World.ownsRow.lt HO.out k hk).1)
        clear hown' hgrow
        go_wp2
        go_ret2
        exact ⟨_, rfl, HR.out, HB3.out⟩
end Go.Proofs.Ytacncacpcllgcaa
