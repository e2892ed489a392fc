/- SharedHoles and CountHoles of both sides. No condition. -/
import Derived.Test.YtacncacpcllgcaaPlaces
import Derived.Test.YtacncacpcllgcaaLow
namespace Go.Proofs.Ytacncacpcllgcaa
open Go.RowKit

/-- the list that a function of three lengths answers with -/
def ifL3 (a b c : Int) (f : Nat → Nat → Nat → List Int) : List Int := if okL3 a b c = true then f a.toNat b.toNat c.toNat else []
theorem ifL3_no {a b c : Int} (h : okL3 a b c = false) (f : Nat → Nat → Nat → List Int) : ifL3 a b c f = [] := by unfold ifL3; rw [h]; rfl
theorem ifL3_yes {x y z : Nat} (h : okL3 x y z = true) (f : Nat → Nat → Nat → List Int) : ifL3 x y z f = f x y z := by unfold ifL3; rw [if_pos h, Int.toNat_natCast, Int.toNat_natCast, Int.toNat_natCast]
def sharedL (a b c : Int) : List Int := ifL3 a b c fun n x y => bothL (n + 1) x y
def holesI (a b c : Int) : Int := if3 a b c fun n x y => ((holesN n x y : Nat) : Int)
theorem shared_len (a b c : Int) : (sharedL a b c).length ≤ 1048576 := by
  unfold sharedL ifL3
  split
  · next hk =>
    have := okL_at (okL3_at hk).1
    exact Nat.le_trans (bothL_len _ _ _) (by omega)
  · exact Nat.zero_le _

set_option maxHeartbeats 400000 in
theorem commonMultiple_any (a b : Nat) (w : World) (ha : 1 ≤ a) (ha2 : a ≤ 500) (hb : 1 ≤ b) (hb2 : b ≤ 500) :
    Calls Try.prog 84 #[.int .i64 a, .int .i64 b] w fun e w' => e = .returned (.int .i64 (Nat.lcm a b : Nat)) ∧ ∃ d, w' = w.drewN d := by
  have HC := Lib.hid fun W => commonDivisor_any a b W (by omega) (by omega)
  have hg := (low_parts (a := a) hb).1
  have HA : Hid ((lowA a b : Int) = (a : Int) / (Nat.gcd a b : Int)) := Lib.hid (by unfold lowA; rw [Int.natCast_ediv])
  have HM : Hid (Nat.lcm a b = lowA a b * b) := Lib.hid (by
    unfold lowA Nat.lcm
    rw [Nat.div_mul_right_comm (Nat.gcd_dvd_left a b)])
  have hla := (low_le (a := a) (b := b)).1
  obtain ⟨g, hgg⟩ : ∃ g, g = Nat.gcd a b := ⟨_, rfl⟩
  rw [← hgg] at HC hg HA
  obtain ⟨p, hp⟩ : ∃ p, p = lowA a b := ⟨_, rfl⟩
  rw [← hp] at HA hla HM
  rw [HM.out]
  have hpb : p * b ≤ 500 * 500 := Nat.mul_le_mul (by omega) hb2
  have hm0 : (0 : Int) ≤ (p : Int) * (b : Int) := by rw [← Int.natCast_mul]; omega
  have hm1 : (p : Int) * (b : Int) ≤ 250000 := by rw [← Int.natCast_mul]; omega
  clear hgg hp HM hpb
  have y0 : (0 : Int) < (g : Int) := by omega
  have y1 : (1 : Int) ≤ (g : Int) := by omega
  have x0 : (0 : Int) ≤ (a : Int) := by omega
  have yz : ((g : Int) == 0) = false := by rw [beq_eq_false_iff_ne]; omega
  have ta : (a : Int).tdiv (g : Int) = (p : Int) := by rw [HA.out, Int.tdiv_eq_ediv_of_nonneg x0]
  have da : (a : Int) / (g : Int) = (p : Int) := HA.out.symm
  clear HA
  go_enter Try.func84, Try.ntmps84
  go_wp2_with (go_at_call 81; refine (HC.out _).mono ?_; rintro e w1 ⟨rfl, d, rfl⟩)
  go_ret
  exact ⟨ret_int (Int.natCast_mul _ _).symm, _, rfl⟩

set_option maxRecDepth 20000 in
set_option maxHeartbeats 2000000 in
theorem implSharedHoles_any (a0 a1 a2 : Int) (w : World) (_ : (Lit.int .i64 a0).wf = true) (_ : (Lit.int .i64 a1).wf = true) (_ : (Lit.int .i64 a2).wf = true) :
    Calls Try.prog 39 #[.int .i64 a0, .int .i64 a1, .int .i64 a2] w fun e w' => ∃ v, e = .returned (.tuple #[v, .bool (okL3 a0 a1 a2)]) ∧ OwnInts w' w.heap.size 3 v (sharedL a0 a1 a2) ∧ Below w.heap.size w w' := by
  have HA := Lib.hid fun W A h => areL3_any a0 a1 a2 W A h
  have H2 := Lib.hid (threeL_sl w a0 a1 a2 3)
  have HB := Lib.hid (below_new w (.cells #[.int .i64 a0, .int .i64 a1, .int .i64 a2] 3))
  cases hok : okL3 a0 a1 a2
  · rw [show sharedL a0 a1 a2 = [] from ifL3_no hok _]
    rw [hok] at HA
    clear hok
    go_enter Try.func39, Try.ntmps39
    go_wp2_with (go_at_call 74; refine (HA.out _ _ H2.out).mono ?_; rintro e w1 ⟨rfl, rfl⟩)
    go_ret2
    exact ⟨_, rfl, OwnInts.nil _ _ _, HB.out⟩
  · rw [hok] at HA
    obtain ⟨h0, h1, h2⟩ := okL3_at hok
    obtain ⟨n, rfl, x1, x2⟩ := okL_nat h0
    obtain ⟨a, rfl, y1, y2⟩ := okL_nat h1
    obtain ⟨b, rfl, z1, z2⟩ := okL_nat h2
    rw [show sharedL n a b = bothL (n + 1) a b from ifL3_yes hok _, both_muls y1 z1]
    have HC := Lib.hid fun W => commonMultiple_any a b W y1 y2 z1 z2
    have hl := lcm_pos' y1 z1
    have hlb : Nat.lcm a b ≤ 250000 := Nat.le_trans (Nat.le_of_dvd (Nat.mul_pos y1 z1) (Nat.lcm_dvd (Nat.dvd_mul_right _ _) (Nat.dvd_mul_left _ _))) (Nat.mul_le_mul y2 z2)
    obtain ⟨l, hll⟩ : ∃ l, l = Nat.lcm a b := ⟨_, rfl⟩
    rw [← hll] at HC hl hlb ⊢
    have HF := Lib.hid fun W => multiples_any n l W x2 hl hlb
    obtain ⟨Q, hQ⟩ : ∃ Q, Q = mulsL l (n / l + 1) := ⟨_, rfl⟩
    rw [← hQ] at HF ⊢
    clear hQ hok h0 h1 h2 hll
    go_enter Try.func39, Try.ntmps39
    go_wp2_with fail
    refine (HA.out _ _ H2.out).mono ?_
    rintro e w1 ⟨rfl, rfl⟩
    go_wp2_with fail
    refine (HC.out _).mono ?_
    rintro e w1 ⟨rfl, d, rfl⟩
    have HB2 := Lib.hid (below_drewN HB.out d)
    go_wp2_with fail
    refine (HF.out _).mono ?_
    rintro e w1 ⟨v, rfl, hown, hb⟩
    have HO := Lib.hid (hown.mono HB2.out.size)
    have HB3 := Lib.hid (below_nextN HB2.out HB2.out.size hb)
    clear hown hb
    go_wp2
    go_ret2
    exact ⟨_, rfl, HO.out, HB3.out⟩

set_option maxRecDepth 20000 in
set_option maxHeartbeats 2000000 in
theorem implCountHoles_any (a0 a1 a2 : Int) (w : World) (_ : (Lit.int .i64 a0).wf = true) (_ : (Lit.int .i64 a1).wf = true) (_ : (Lit.int .i64 a2).wf = true) :
    Calls Try.prog 41 #[.int .i64 a0, .int .i64 a1, .int .i64 a2] w fun e w' => e = .returned (.tuple #[.int .i64 (holesI a0 a1 a2), .bool (okL3 a0 a1 a2)]) ∧ Below w.heap.size w w' := by
  have HA := Lib.hid fun W A h => areL3_any a0 a1 a2 W A h
  have H2 := Lib.hid (threeL_sl w a0 a1 a2 3)
  have HB := Lib.hid (below_new w (.cells #[.int .i64 a0, .int .i64 a1, .int .i64 a2] 3))
  cases hok : okL3 a0 a1 a2
  · rw [show holesI a0 a1 a2 = 0 from if3_no hok _]
    rw [hok] at HA
    clear hok
    go_enter Try.func41, Try.ntmps41
    go_wp2_with (go_at_call 74; refine (HA.out _ _ H2.out).mono ?_; rintro e w1 ⟨rfl, rfl⟩)
    go_ret2
    exact ⟨rfl, HB.out⟩
  · rw [hok] at HA
    obtain ⟨h0, h1, h2⟩ := okL3_at hok
    obtain ⟨n, rfl, x1, x2⟩ := okL_nat h0
    obtain ⟨a, rfl, y1, y2⟩ := okL_nat h1
    obtain ⟨b, rfl, z1, z2⟩ := okL_nat h2
    rw [show holesI n a b = ((holesN n a b : Nat) : Int) from if3_yes hok _]
    have HC := Lib.hid fun W => commonMultiple_any a b W y1 y2 z1 z2
    have hl := lcm_pos' y1 z1
    have hcnt := any_count y1 z1 n
    have HH : Hid (((holesN n a b : Nat) : Int) = 1 + ((n / a : Nat) : Int) + ((n / b : Nat) : Int) - ((n / Nat.lcm a b : Nat) : Int)) := Lib.hid (by unfold holesN; omega)
    have q1 := Nat.div_le_self n a
    have q2 := Nat.div_le_self n b
    have q3 := Nat.div_le_self n (Nat.lcm a b)
    obtain ⟨l, hll⟩ : ∃ l, l = Nat.lcm a b := ⟨_, rfl⟩
    rw [← hll] at HC hl q3 HH
    have x0 : (0 : Int) ≤ (n : Int) := by omega
    have dA : (n : Int) / (a : Int) = ((n / a : Nat) : Int) := (Int.natCast_ediv n a).symm
    have dB : (n : Int) / (b : Int) = ((n / b : Nat) : Int) := (Int.natCast_ediv n b).symm
    have dL : (n : Int) / (l : Int) = ((n / l : Nat) : Int) := (Int.natCast_ediv n l).symm
    have tA : (n : Int).tdiv (a : Int) = ((n / a : Nat) : Int) := by rw [Int.tdiv_eq_ediv_of_nonneg x0, dA]
    have tB : (n : Int).tdiv (b : Int) = ((n / b : Nat) : Int) := by rw [Int.tdiv_eq_ediv_of_nonneg x0, dB]
    have tL : (n : Int).tdiv (l : Int) = ((n / l : Nat) : Int) := by rw [Int.tdiv_eq_ediv_of_nonneg x0, dL]
    obtain ⟨p, hp⟩ : ∃ p, p = n / a := ⟨_, rfl⟩
    obtain ⟨q, hq⟩ : ∃ p, p = n / b := ⟨_, rfl⟩
    obtain ⟨r, hr⟩ : ∃ p, p = n / l := ⟨_, rfl⟩
    rw [← hp] at dA tA q1 HH
    rw [← hq] at dB tB q2 HH
    rw [← hr] at dL tL q3 HH
    obtain ⟨res, hres⟩ : ∃ r : Int, r = ((holesN n a b : Nat) : Int) := ⟨_, rfl⟩
    rw [← hres] at HH ⊢
    have ya0 : (0 : Int) < (a : Int) := by omega
    have yb0 : (0 : Int) < (b : Int) := by omega
    have yl0 : (0 : Int) < (l : Int) := by omega
    have ya1 : (1 : Int) ≤ (a : Int) := by omega
    have yb1 : (1 : Int) ≤ (b : Int) := by omega
    have yl1 : (1 : Int) ≤ (l : Int) := by omega
    have yaz : ((a : Int) == 0) = false := by rw [beq_eq_false_iff_ne]; omega
    have ybz : ((b : Int) == 0) = false := by rw [beq_eq_false_iff_ne]; omega
    have ylz : ((l : Int) == 0) = false := by rw [beq_eq_false_iff_ne]; omega
    have k1 : IntKind.i64.wrap (1 + (p : Int)) = 1 + (p : Int) := by rw [IntKind.wrap_i64]; omega
    have k2 : IntKind.i64.wrap (1 + (p : Int) + (q : Int)) = 1 + (p : Int) + (q : Int) := by rw [IntKind.wrap_i64]; omega
    have k3 : IntKind.i64.wrap (1 + (p : Int) + (q : Int) - (r : Int)) = 1 + (p : Int) + (q : Int) - (r : Int) := by rw [IntKind.wrap_i64]; omega
    have kp : IntKind.i64.wrap (p : Int) = (p : Int) := by rw [IntKind.wrap_i64]; omega
    have kq : IntKind.i64.wrap (q : Int) = (q : Int) := by rw [IntKind.wrap_i64]; omega
    have kr : IntKind.i64.wrap (r : Int) = (r : Int) := by rw [IntKind.wrap_i64]; omega
    clear hok h0 h1 h2 hll hcnt hp hq hr hres
    go_enter Try.func41, Try.ntmps41
    go_wp2_with fail
    refine (HA.out _ _ H2.out).mono ?_
    rintro e w1 ⟨rfl, rfl⟩
    go_wp2
    go_quiet (first | (go_at_call 84; exact (HC.out _).mono fun _ _ h => ⟨h.1, h.2.elim fun _ hd => ⟨_, hd.trans (World.drewN_drewN _ _ _)⟩⟩))
    go_wp2
    go_ret2
    exact ⟨ret_ib HH.out.symm rfl, below_drewN HB.out _⟩

set_option maxRecDepth 20000 in
set_option maxHeartbeats 4000000 in
theorem poHoles_t (n a b : Nat) (w : World) (hn : n ≤ 500) (ha : 1 ≤ a) (ha2 : a ≤ 500) (hb1 : 1 ≤ b) (hb2 : b ≤ 500) :
    Calls Try.prog 85 #[.int .i64 n, .int .i64 a, .int .i64 b, .bool true] w fun e w' => ∃ v, e = .returned v ∧ OwnInts w' w.heap.size 3 v (bothL (n + 1) a b) ∧ Below w.heap.size w w' := by
  obtain ⟨i0, hi, hz0, hz1, hz2⟩ := info_parts info_int
  go_enter Try.func85, Try.ntmps85
  go_wp2
  go_loopw [9, 10, 11, 12] (fun v i _ _ wr => ∃ x : Nat, x ≤ n + 1 ∧ i = .int .i64 x ∧ OwnInts wr w.heap.size 3 v (bothL x a b) ∧ Below w.heap.size w wr) (fun _ i _ _ _ => n + 1 - (intOf i).toNat)
  case atStart => exact ⟨0, Nat.zero_le _, rfl, OwnInts.nil _ _ _, Below.refl _ _⟩
  case round =>
    obtain ⟨x, hx, rfl, hown, hb⟩ := hrel
    have HO := Lib.hid hown
    have hbs := hb.size
    clear hown
    have hlen := bothL_len x a b
    have x0 : (0 : Int) ≤ (x : Int) := by omega
    have ya0 : (0 : Int) < (a : Int) := by omega
    have yb0 : (0 : Int) < (b : Int) := by omega
    have ya1 : (1 : Int) ≤ (a : Int) := by omega
    have yb1 : (1 : Int) ≤ (b : Int) := by omega
    have yaz : ((a : Int) == 0) = false := by rw [beq_eq_false_iff_ne]; omega
    have ybz : ((b : Int) == 0) = false := by rw [beq_eq_false_iff_ne]; omega
    by_cases hlt : x ≤ n
    · skip
      by_cases hA : x % a = 0
      · by_cases hB : x % b = 0
        · skip
          have e1 : ((x : Int) % (a : Int) == 0) = true := by rw [beq_iff_eq]; omega
          have e2 : ((x : Int) % (b : Int) == 0) = true := by rw [beq_iff_eq]; omega
          have HN : Hid (bothL (x + 1) a b = bothL x a b ++ [(x : Int)]) := Lib.hid (by rw [bothL_succ, if_pos ⟨hA, hB⟩])
          clear hA hB
          go_wp2
          go_quiet (fail)
          have HOD := Lib.hid (own_below HO.out (below_drewN (Below.refl _ _) nq))
          go_wp2_with (at_builtin; refine wpList_append_own _ rfl (.tmp 40) (.tmp 42) _ rfl w.heap.size 3 i0 _ 1 8 Try.underlying26 hi hz0 hz1 hz2 rfl (by decide) _ (bothL x a b).length ((bothL x a b).map (Value.int .i64)) rfl (World.ownsRow.alloc HOD.out _) ⟨_, 0, none⟩ 1 1 [.int .i64 (x)] rfl rfl (World.news_of_block (cs := #[.int .i64 (x)]) (t := 3) (fr := (0, 0)) (heap_alloc_new _ _)) (by simp [Value.oneCell']) (by unfold maxLen; omega) (by omega) (by simp; omega) ?_; intro v' w3 hown' hgrow _)
          have HR : Hid (OwnInts w3 w.heap.size 3 v' (bothL (x + 1) a b)) := Lib.hid (by rw [HN.out]; exact OwnInts.snoc hown')
          have HB3 : Hid (Below w.heap.size w w3) := Lib.hid (((below_drewN hb nq).alloc hbs _).grown hgrow (by simp; omega) fun k hk => (World.ownsRow.lt HO.out k hk).1)
          clear hown' hgrow
          go_wp2
          go_roundw
          case rel => exact ⟨x + 1, by omega, by go_num, HR.out, HB3.out⟩
          case measure => simp [intOf]; omega
        · skip
          have e1 : ((x : Int) % (a : Int) == 0) = true := by rw [beq_iff_eq]; omega
          have e2 : ((x : Int) % (b : Int) == 0) = false := by rw [beq_eq_false_iff_ne]; omega
          have HN : Hid (bothL (x + 1) a b = bothL x a b) := Lib.hid (by rw [bothL_succ, if_neg (fun h => hB h.2), List.append_nil])
          clear hA hB
          go_wp2
          go_quiet (fail)
          have HOD := Lib.hid (own_below HO.out (below_drewN (Below.refl _ _) nq))
          go_wp2
          go_roundw
          case rel => exact ⟨x + 1, by omega, by go_num, by rw [HN.out]; exact HOD.out, below_drewN hb nq⟩
          case measure => simp [intOf]; omega
      · by_cases hB : x % b = 0
        · skip
          have e1 : ((x : Int) % (a : Int) == 0) = false := by rw [beq_eq_false_iff_ne]; omega
          have e2 : ((x : Int) % (b : Int) == 0) = true := by rw [beq_iff_eq]; omega
          have HN : Hid (bothL (x + 1) a b = bothL x a b) := Lib.hid (by rw [bothL_succ, if_neg (fun h => hA h.1), List.append_nil])
          clear hA hB
          go_wp2
          go_quiet (fail)
          have HOD := Lib.hid (own_below HO.out (below_drewN (Below.refl _ _) nq))
          go_wp2
          go_roundw
          case rel => exact ⟨x + 1, by omega, by go_num, by rw [HN.out]; exact HOD.out, below_drewN hb nq⟩
          case measure => simp [intOf]; omega
        · skip
          have e1 : ((x : Int) % (a : Int) == 0) = false := by rw [beq_eq_false_iff_ne]; omega
          have e2 : ((x : Int) % (b : Int) == 0) = false := by rw [beq_eq_false_iff_ne]; omega
          have HN : Hid (bothL (x + 1) a b = bothL x a b) := Lib.hid (by rw [bothL_succ, if_neg (fun h => hA h.1), List.append_nil])
          clear hA hB
          go_wp2
          go_quiet (fail)
          have HOD := Lib.hid (own_below HO.out (below_drewN (Below.refl _ _) nq))
          go_wp2
          go_roundw
          case rel => exact ⟨x + 1, by omega, by go_num, by rw [HN.out]; exact HOD.out, below_drewN hb nq⟩
          case measure => simp [intOf]; omega
    · obtain rfl : x = n + 1 := by omega
      go_wp2
      go_ret
      exact ⟨_, rfl, HO.out, hb⟩

set_option maxRecDepth 20000 in
set_option maxHeartbeats 4000000 in
theorem poHoles_f (n a b : Nat) (w : World) (hn : n ≤ 500) (ha : 1 ≤ a) (ha2 : a ≤ 500) (hb1 : 1 ≤ b) (hb2 : b ≤ 500) :
    Calls Try.prog 85 #[.int .i64 n, .int .i64 a, .int .i64 b, .bool false] w fun e w' => ∃ v, e = .returned v ∧ OwnInts w' w.heap.size 3 v (anyN (n + 1) a b) ∧ Below w.heap.size w w' := by
  obtain ⟨i0, hi, hz0, hz1, hz2⟩ := info_parts info_int
  go_enter Try.func85, Try.ntmps85
  go_wp2
  go_loopw [9, 10, 11, 12] (fun v i _ _ wr => ∃ x : Nat, x ≤ n + 1 ∧ i = .int .i64 x ∧ OwnInts wr w.heap.size 3 v (anyN x a b) ∧ Below w.heap.size w wr) (fun _ i _ _ _ => n + 1 - (intOf i).toNat)
  case atStart => exact ⟨0, Nat.zero_le _, rfl, OwnInts.nil _ _ _, Below.refl _ _⟩
  case round =>
    obtain ⟨x, hx, rfl, hown, hb⟩ := hrel
    have HO := Lib.hid hown
    have hbs := hb.size
    clear hown
    have hlen := anyN_len x a b
    have x0 : (0 : Int) ≤ (x : Int) := by omega
    have ya0 : (0 : Int) < (a : Int) := by omega
    have yb0 : (0 : Int) < (b : Int) := by omega
    have ya1 : (1 : Int) ≤ (a : Int) := by omega
    have yb1 : (1 : Int) ≤ (b : Int) := by omega
    have yaz : ((a : Int) == 0) = false := by rw [beq_eq_false_iff_ne]; omega
    have ybz : ((b : Int) == 0) = false := by rw [beq_eq_false_iff_ne]; omega
    by_cases hlt : x ≤ n
    · skip
      by_cases hA : x % a = 0
      · by_cases hB : x % b = 0
        · skip
          have e1 : ((x : Int) % (a : Int) == 0) = true := by rw [beq_iff_eq]; omega
          have e2 : ((x : Int) % (b : Int) == 0) = true := by rw [beq_iff_eq]; omega
          have HN : Hid (anyN (x + 1) a b = anyN x a b ++ [(x : Int)]) := Lib.hid (by rw [anyN_succ, if_pos (.inl hA)])
          clear hA hB
          go_wp2
          go_quiet (fail)
          have HOD := Lib.hid (own_below HO.out (below_drewN (Below.refl _ _) nq))
          go_wp2_with (at_builtin; refine wpList_append_own _ rfl (.tmp 40) (.tmp 42) _ rfl w.heap.size 3 i0 _ 1 8 Try.underlying26 hi hz0 hz1 hz2 rfl (by decide) _ (anyN x a b).length ((anyN x a b).map (Value.int .i64)) rfl (World.ownsRow.alloc HOD.out _) ⟨_, 0, none⟩ 1 1 [.int .i64 (x)] rfl rfl (World.news_of_block (cs := #[.int .i64 (x)]) (t := 3) (fr := (0, 0)) (heap_alloc_new _ _)) (by simp [Value.oneCell']) (by unfold maxLen; omega) (by omega) (by simp; omega) ?_; intro v' w3 hown' hgrow _)
          have HR : Hid (OwnInts w3 w.heap.size 3 v' (anyN (x + 1) a b)) := Lib.hid (by rw [HN.out]; exact OwnInts.snoc hown')
          have HB3 : Hid (Below w.heap.size w w3) := Lib.hid (((below_drewN hb nq).alloc hbs _).grown hgrow (by simp; omega) fun k hk => (World.ownsRow.lt HO.out k hk).1)
          clear hown' hgrow
          go_wp2
          go_roundw
          case rel => exact ⟨x + 1, by omega, by go_num, HR.out, HB3.out⟩
          case measure => simp [intOf]; omega
        · skip
          have e1 : ((x : Int) % (a : Int) == 0) = true := by rw [beq_iff_eq]; omega
          have e2 : ((x : Int) % (b : Int) == 0) = false := by rw [beq_eq_false_iff_ne]; omega
          have HN : Hid (anyN (x + 1) a b = anyN x a b ++ [(x : Int)]) := Lib.hid (by rw [anyN_succ, if_pos (.inl hA)])
          clear hA hB
          go_wp2
          go_quiet (fail)
          have HOD := Lib.hid (own_below HO.out (below_drewN (Below.refl _ _) nq))
          go_wp2_with (at_builtin; refine wpList_append_own _ rfl (.tmp 40) (.tmp 42) _ rfl w.heap.size 3 i0 _ 1 8 Try.underlying26 hi hz0 hz1 hz2 rfl (by decide) _ (anyN x a b).length ((anyN x a b).map (Value.int .i64)) rfl (World.ownsRow.alloc HOD.out _) ⟨_, 0, none⟩ 1 1 [.int .i64 (x)] rfl rfl (World.news_of_block (cs := #[.int .i64 (x)]) (t := 3) (fr := (0, 0)) (heap_alloc_new _ _)) (by simp [Value.oneCell']) (by unfold maxLen; omega) (by omega) (by simp; omega) ?_; intro v' w3 hown' hgrow _)
          have HR : Hid (OwnInts w3 w.heap.size 3 v' (anyN (x + 1) a b)) := Lib.hid (by rw [HN.out]; exact OwnInts.snoc hown')
          have HB3 : Hid (Below w.heap.size w w3) := Lib.hid (((below_drewN hb nq).alloc hbs _).grown hgrow (by simp; omega) fun k hk => (World.ownsRow.lt HO.out k hk).1)
          clear hown' hgrow
          go_wp2
          go_roundw
          case rel => exact ⟨x + 1, by omega, by go_num, HR.out, HB3.out⟩
          case measure => simp [intOf]; omega
      · by_cases hB : x % b = 0
        · skip
          have e1 : ((x : Int) % (a : Int) == 0) = false := by rw [beq_eq_false_iff_ne]; omega
          have e2 : ((x : Int) % (b : Int) == 0) = true := by rw [beq_iff_eq]; omega
          have HN : Hid (anyN (x + 1) a b = anyN x a b ++ [(x : Int)]) := Lib.hid (by rw [anyN_succ, if_pos (.inr hB)])
          clear hA hB
          go_wp2
          go_quiet (fail)
          have HOD := Lib.hid (own_below HO.out (below_drewN (Below.refl _ _) nq))
          go_wp2_with (at_builtin; refine wpList_append_own _ rfl (.tmp 40) (.tmp 42) _ rfl w.heap.size 3 i0 _ 1 8 Try.underlying26 hi hz0 hz1 hz2 rfl (by decide) _ (anyN x a b).length ((anyN x a b).map (Value.int .i64)) rfl (World.ownsRow.alloc HOD.out _) ⟨_, 0, none⟩ 1 1 [.int .i64 (x)] rfl rfl (World.news_of_block (cs := #[.int .i64 (x)]) (t := 3) (fr := (0, 0)) (heap_alloc_new _ _)) (by simp [Value.oneCell']) (by unfold maxLen; omega) (by omega) (by simp; omega) ?_; intro v' w3 hown' hgrow _)
          have HR : Hid (OwnInts w3 w.heap.size 3 v' (anyN (x + 1) a b)) := Lib.hid (by rw [HN.out]; exact OwnInts.snoc hown')
          have HB3 : Hid (Below w.heap.size w w3) := Lib.hid (((below_drewN hb nq).alloc hbs _).grown hgrow (by simp; omega) fun k hk => (World.ownsRow.lt HO.out k hk).1)
          clear hown' hgrow
          go_wp2
          go_roundw
          case rel => exact ⟨x + 1, by omega, by go_num, HR.out, HB3.out⟩
          case measure => simp [intOf]; omega
        · skip
          have e1 : ((x : Int) % (a : Int) == 0) = false := by rw [beq_eq_false_iff_ne]; omega
          have e2 : ((x : Int) % (b : Int) == 0) = false := by rw [beq_eq_false_iff_ne]; omega
          have HN : Hid (anyN (x + 1) a b = anyN x a b) := Lib.hid (by rw [anyN_succ, if_neg (fun h => h.elim hA hB), List.append_nil])
          clear hA hB
          go_wp2
          go_quiet (fail)
          have HOD := Lib.hid (own_below HO.out (below_drewN (Below.refl _ _) nq))
          go_wp2
          go_roundw
          case rel => exact ⟨x + 1, by omega, by go_num, by rw [HN.out]; exact HOD.out, below_drewN hb nq⟩
          case measure => simp [intOf]; omega
    · obtain rfl : x = n + 1 := by omega
      go_wp2
      go_ret
      exact ⟨_, rfl, HO.out, hb⟩

set_option maxHeartbeats 1000000 in
theorem specSharedHoles_no (a0 a1 a2 : Int) (w : World)  (hok : (okL a0 && (okL a1 && okL a2)) = false) :
    Calls Try.prog 40 #[.int .i64 a0, .int .i64 a1, .int .i64 a2] w fun e w' => e = .returned (.tuple #[.slice none 0 0, .bool false]) ∧ Below w.heap.size w w' := by
  have H0 := Lib.hid (poLong_any a0 w)
  have H1 := Lib.hid (poLong_any a1 w)
  have H2 := Lib.hid (poLong_any a2 w)
  cases h0 : okL a0
  · clear hok
    rw [h0] at H0
    clear h0 H1 H2
    go_enter Try.func40, Try.ntmps40
    go_wp2_with fail
    refine H0.out.mono ?_
    rintro e w1 ⟨rfl, rfl⟩
    go_wp2
    go_ret2
    exact ⟨rfl, Below.refl _ _⟩
  · skip
    cases h1 : okL a1
    · clear hok
      rw [h0] at H0
      rw [h1] at H1
      clear h0 h1 H2
      go_enter Try.func40, Try.ntmps40
      go_wp2_with fail
      refine H0.out.mono ?_
      rintro e w1 ⟨rfl, rfl⟩
      go_wp2_with fail
      refine H1.out.mono ?_
      rintro e w1 ⟨rfl, rfl⟩
      go_wp2
      go_ret2
      exact ⟨rfl, Below.refl _ _⟩
    · skip
      cases h2 : okL a2
      · clear hok
        rw [h0] at H0
        rw [h1] at H1
        rw [h2] at H2
        clear h0 h1 h2
        go_enter Try.func40, Try.ntmps40
        go_wp2_with fail
        refine H0.out.mono ?_
        rintro e w1 ⟨rfl, rfl⟩
        go_wp2_with fail
        refine H1.out.mono ?_
        rintro e w1 ⟨rfl, rfl⟩
        go_wp2_with fail
        refine H2.out.mono ?_
        rintro e w1 ⟨rfl, rfl⟩
        go_wp2
        go_ret2
        exact ⟨rfl, Below.refl _ _⟩
      · rw [h0, h1, h2] at hok; simp at hok
set_option maxHeartbeats 1000000 in
theorem specCountHoles_no (a0 a1 a2 : Int) (w : World)  (hok : (okL a0 && (okL a1 && okL a2)) = false) :
    Calls Try.prog 42 #[.int .i64 a0, .int .i64 a1, .int .i64 a2] w fun e w' => e = .returned (.tuple #[.int .i64 0, .bool false]) ∧ Below w.heap.size w w' := by
  have H0 := Lib.hid (poLong_any a0 w)
  have H1 := Lib.hid (poLong_any a1 w)
  have H2 := Lib.hid (poLong_any a2 w)
  cases h0 : okL a0
  · clear hok
    rw [h0] at H0
    clear h0 H1 H2
    go_enter Try.func42, Try.ntmps42
    go_wp2_with fail
    refine H0.out.mono ?_
    rintro e w1 ⟨rfl, rfl⟩
    go_wp2
    go_ret2
    exact ⟨rfl, Below.refl _ _⟩
  · skip
    cases h1 : okL a1
    · clear hok
      rw [h0] at H0
      rw [h1] at H1
      clear h0 h1 H2
      go_enter Try.func42, Try.ntmps42
      go_wp2_with fail
      refine H0.out.mono ?_
      rintro e w1 ⟨rfl, rfl⟩
      go_wp2_with fail
      refine H1.out.mono ?_
      rintro e w1 ⟨rfl, rfl⟩
      go_wp2
      go_ret2
      exact ⟨rfl, Below.refl _ _⟩
    · skip
      cases h2 : okL a2
      · clear hok
        rw [h0] at H0
        rw [h1] at H1
        rw [h2] at H2
        clear h0 h1 h2
        go_enter Try.func42, Try.ntmps42
        go_wp2_with fail
        refine H0.out.mono ?_
        rintro e w1 ⟨rfl, rfl⟩
        go_wp2_with fail
        refine H1.out.mono ?_
        rintro e w1 ⟨rfl, rfl⟩
        go_wp2_with fail
        refine H2.out.mono ?_
        rintro e w1 ⟨rfl, rfl⟩
        go_wp2
        go_ret2
        exact ⟨rfl, Below.refl _ _⟩
      · rw [h0, h1, h2] at hok; simp at hok
set_option maxRecDepth 20000 in
set_option maxHeartbeats 2000000 in
theorem specSharedHoles_any (a0 a1 a2 : Int) (w : World) (_ : (Lit.int .i64 a0).wf = true) (_ : (Lit.int .i64 a1).wf = true) (_ : (Lit.int .i64 a2).wf = true) :
    Calls Try.prog 40 #[.int .i64 a0, .int .i64 a1, .int .i64 a2] w fun e w' => ∃ v, e = .returned (.tuple #[v, .bool (okL3 a0 a1 a2)]) ∧ OwnInts w' w.heap.size 3 v (sharedL a0 a1 a2) ∧ Below w.heap.size w w' := by
  cases hok : okL3 a0 a1 a2
  · rw [show sharedL a0 a1 a2 = [] from ifL3_no hok _]
    exact (specSharedHoles_no a0 a1 a2 w hok).mono fun e w' h => ⟨_, h.1, OwnInts.nil _ _ _, h.2⟩
  · obtain ⟨h0, h1, h2⟩ := okL3_at hok
    have HA := Lib.hid fun W => poLong_any a0 W
    have HB := Lib.hid fun W => poLong_any a1 W
    have HC := Lib.hid fun W => poLong_any a2 W
    rw [h0] at HA
    rw [h1] at HB
    rw [h2] at HC
    obtain ⟨n, rfl, x1, x2⟩ := okL_nat h0
    obtain ⟨a, rfl, y1, y2⟩ := okL_nat h1
    obtain ⟨b, rfl, z1, z2⟩ := okL_nat h2
    rw [show sharedL n a b = bothL (n + 1) a b from ifL3_yes hok _]
    have HF := Lib.hid fun W => poHoles_t n a b W x2 y1 y2 z1 z2
    obtain ⟨Q, hQ⟩ : ∃ Q, Q = bothL (n + 1) a b := ⟨_, rfl⟩
    rw [← hQ] at HF ⊢
    clear hQ hok h0 h1 h2
    go_enter Try.func40, Try.ntmps40
    go_wp2_with fail
    refine (HA.out _).mono ?_
    rintro e w1 ⟨rfl, rfl⟩
    go_wp2_with fail
    refine (HB.out _).mono ?_
    rintro e w1 ⟨rfl, rfl⟩
    go_wp2_with fail
    refine (HC.out _).mono ?_
    rintro e w1 ⟨rfl, rfl⟩
    go_wp2_with fail
    refine (HF.out _).mono ?_
    rintro e w1 ⟨v, rfl, hown, hb⟩
    go_wp2
    go_ret2
    exact ⟨_, rfl, hown, hb⟩
set_option maxRecDepth 20000 in
set_option maxHeartbeats 2000000 in
theorem specCountHoles_any (a0 a1 a2 : Int) (w : World) (_ : (Lit.int .i64 a0).wf = true) (_ : (Lit.int .i64 a1).wf = true) (_ : (Lit.int .i64 a2).wf = true) :
    Calls Try.prog 42 #[.int .i64 a0, .int .i64 a1, .int .i64 a2] w fun e w' => e = .returned (.tuple #[.int .i64 (holesI a0 a1 a2), .bool (okL3 a0 a1 a2)]) ∧ Below w.heap.size w w' := by
  cases hok : okL3 a0 a1 a2
  · rw [show holesI a0 a1 a2 = 0 from if3_no hok _]
    exact specCountHoles_no a0 a1 a2 w hok
  · obtain ⟨h0, h1, h2⟩ := okL3_at hok
    have HA := Lib.hid fun W => poLong_any a0 W
    have HB := Lib.hid fun W => poLong_any a1 W
    have HC := Lib.hid fun W => poLong_any a2 W
    rw [h0] at HA
    rw [h1] at HB
    rw [h2] at HC
    obtain ⟨n, rfl, x1, x2⟩ := okL_nat h0
    obtain ⟨a, rfl, y1, y2⟩ := okL_nat h1
    obtain ⟨b, rfl, z1, z2⟩ := okL_nat h2
    rw [show holesI n a b = ((holesN n a b : Nat) : Int) from if3_yes hok _, ← any_holes y1 z1 n]
    have HF := Lib.hid fun W => poHoles_f n a b W x2 y1 y2 z1 z2
    obtain ⟨Q, hQ⟩ : ∃ Q, Q = anyN (n + 1) a b := ⟨_, rfl⟩
    rw [← hQ] at HF ⊢
    clear hQ hok h0 h1 h2
    go_enter Try.func42, Try.ntmps42
    go_wp2_with fail
    refine (HA.out _).mono ?_
    rintro e w1 ⟨rfl, rfl⟩
    go_wp2_with fail
    refine (HB.out _).mono ?_
    rintro e w1 ⟨rfl, rfl⟩
    go_wp2_with fail
    refine (HC.out _).mono ?_
    rintro e w1 ⟨rfl, rfl⟩
    go_wp2_with fail
    refine (HF.out _).mono ?_
    rintro e w1 ⟨v, rfl, hown, hb⟩
    obtain ⟨A, c, rfl⟩ := hown.len
    clear hown
    go_wp2
    go_ret2
    exact ⟨rfl, hb⟩
end Go.Proofs.Ytacncacpcllgcaa
