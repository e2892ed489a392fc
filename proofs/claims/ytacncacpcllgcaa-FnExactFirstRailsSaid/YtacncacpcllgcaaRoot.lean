/- Roots: 'impl.wholeRoot', 'spec.poRoot'; WholeRails of both sides. No condition but the lists' lengths. -/
import Derived.Test.YtacncacpcllgcaaGround
import Derived.Test.YtacncacpcllgcaaRootMath
namespace Go.Proofs.Ytacncacpcllgcaa
open Go.RowKit

set_option maxRecDepth 20000 in
set_option maxHeartbeats 2000000 in
/-- a search over a closure that holds one variable -/
theorem search1_any (g b1 n : Nat) (p : Nat → Bool) (w : World) (hg : g = 124) (hn : n ≤ 300000)
    (hf : ∀ (i : Nat) (W : World), i < n → Below w.heap.size w W → Calls Try.prog g #[.int .i64 i, .pointer (some ⟨b1, 0, none⟩)] W fun e w' => e = .returned (.bool (p i)) ∧ Below W.heap.size W w')
    (hm : ∀ a b, a ≤ b → p a = true → p b = true) :
    Calls Try.prog 106 #[.int .i64 n, .func (.func g) #[] #[.pointer (some ⟨b1, 0, none⟩)]] w fun e w' => ∃ m : Nat, e = .returned (.int .i64 m) ∧ ((∀ t, t < m → p t = false) ∧ (∀ t, m ≤ t → t < n → p t = true) ∧ m ≤ n) ∧ Below w.heap.size w w' := by
  subst hg
  have HF := Lib.hid hf
  have HM := Lib.hid hm
  clear hf hm
  go_enter Try.func106, Try.ntmps106
  go_wp2
  go_loopw [5, 6, 7] (fun u v _ wr => ∃ lo hi : Nat, u = .int .i64 lo ∧ v = .int .i64 hi ∧ lo ≤ hi ∧ hi ≤ n ∧ Hid ((∀ t, t < lo → p t = false) ∧ ∀ t, hi ≤ t → t < n → p t = true) ∧ Below w.heap.size w wr) (fun u v _ _ => (intOf v).toNat - (intOf u).toNat)
  case atStart => exact ⟨0, n, rfl, rfl, Nat.zero_le _, Nat.le_refl _, Lib.hid ⟨fun t ht => absurd ht (Nat.not_lt_zero _), fun t h1 h2 => by omega⟩, Below.refl _ _⟩
  case round =>
    obtain ⟨lo, hi, rfl, rfl, hlh, hin, hI, hb⟩ := hrel
    have HB := Lib.hid hb
    by_cases hlt : lo < hi
    · have HC := Lib.hid (HF.out ((lo + hi) / 2) wr (by omega) hb)
      rw [show (((lo + hi) / 2 : Nat) : Int) = ((lo : Int) + (hi : Int)) / 2 by omega] at HC
      clear hb
      cases hp : p ((lo + hi) / 2)
      · rw [hp] at HC
        have HP := Lib.hid hp
        clear hp
        go_wp2_with fail
        refine HC.out.mono ?_
        rintro e w1 ⟨rfl, hb1⟩
        go_wp2
        go_roundw
        case rel => exact ⟨(lo + hi) / 2 + 1, hi, by go_num, rfl, by omega, hin, Lib.hid ⟨fun t ht => (by
            cases h : p t with
            | false => rfl
            | true => have := HM.out t ((lo + hi) / 2) (by omega) h; rw [HP.out] at this; cases this), hI.out.2⟩, below_next HB.out hb1⟩
        case measure => simp [intOf]; omega
      · rw [hp] at HC
        have HP := Lib.hid hp
        clear hp
        go_wp2_with fail
        refine HC.out.mono ?_
        rintro e w1 ⟨rfl, hb1⟩
        go_wp2
        go_roundw
        case rel => exact ⟨lo, (lo + hi) / 2, rfl, by go_num, by omega, by omega, Lib.hid ⟨hI.out.1, fun t ht _ => HM.out ((lo + hi) / 2) t ht HP.out⟩, below_next HB.out hb1⟩
        case measure => simp [intOf]; omega
    · obtain rfl : hi = lo := by omega
      have HI := Lib.hid (And.intro hI.out.1 (And.intro hI.out.2 hin))
      go_wp2
      go_ret
      exact ⟨hi, rfl, HI.out, hb⟩

set_option maxHeartbeats 1000000 in
theorem rootFn_any (b1 n i : Nat) (w : World) (_ : n ≤ 300000) (hi : i ≤ 300000) (k1 : w.cell? ⟨b1, 0, none⟩ = some (.int .i64 n)) :
    Calls Try.prog 124 #[.int .i64 i, .pointer (some ⟨b1, 0, none⟩)] w fun e w' => e = .returned (.bool (decide (n ≤ i * i))) ∧ Below w.heap.size w w' := by
  have hm : i * i ≤ 300000 * 300000 := Nat.mul_le_mul hi hi
  have e := Int.natCast_mul i i
  have m0 : (0 : Int) ≤ (i : Int) * (i : Int) := by omega
  have m1 : (i : Int) * (i : Int) ≤ 90000000000 := by omega
  have HE : Hid (decide (n ≤ i * i) = decide ((n : Int) ≤ (i : Int) * (i : Int))) := Lib.hid (by rw [decide_eq_decide]; omega)
  rw [HE.out]
  clear e hm HE
  go_enter Try.func124, Try.ntmps124
  go_wp2
  go_ret
  exact ⟨rfl, Below.refl _ _⟩

set_option maxRecDepth 20000 in
set_option maxHeartbeats 2000000 in
theorem wholeRoot_any (n : Nat) (w : World) (h1 : 1 ≤ n) (h2 : n ≤ 300000) :
    Calls Try.prog 112 #[.int .i64 n] w fun e w' => e = .returned (.tuple #[.int .i64 (upRoot n : Nat), .bool (isSq n)]) ∧ Below w.heap.size w w' := by
  obtain ⟨W1, hW1⟩ : ∃ W1, W1 = w.alloc (.cells #[.int .i64 (n : Int)] 3) := ⟨_, rfl⟩
  have hs1 : W1.heap.size = w.heap.size + 1 := by rw [hW1]; simp
  have hB1 : Below w.heap.size w W1 := by rw [hW1]; exact below_new w _
  have k1 : W1.cell? ⟨w.heap.size, 0, none⟩ = some (.int .i64 (n : Int)) := by rw [hW1, cell_of_row _ w.heap.size 0 _ _ (0, 0) (heap_alloc_new w _)]; rfl
  have HS := Lib.hid (search1_any 124 w.heap.size n (fun i => decide (n ≤ i * i)) W1 rfl h2 (fun i W' hi hW' =>
      rootFn_any w.heap.size n i W' h2 (by omega) ((hW'.cell (p := ⟨w.heap.size, 0, none⟩) (by show w.heap.size < _; omega)).trans k1))
    (fun a b hab ha => decide_eq_true (Nat.le_trans (of_decide_eq_true ha) (Nat.mul_le_mul hab hab))))
  have HE : Hid (∀ m : Nat, ((∀ t, t < m → decide (n ≤ t * t) = false) ∧ (∀ t, m ≤ t → t < n → decide (n ≤ t * t) = true) ∧ m ≤ n) → m = upRoot n) := Lib.hid fun m ⟨h3, h4, h5⟩ => by
    refine up_unique ?_ fun t ht => by have := of_decide_eq_false (h3 t ht); omega
    rcases Nat.lt_or_ge m n with h | h
    · exact of_decide_eq_true (h4 m (Nat.le_refl _) h)
    · obtain rfl : m = n := by omega
      exact Nat.le_mul_of_pos_left m h1
  have HC : Hid (∀ w3, Below W1.heap.size W1 w3 → w3.cell? ⟨w.heap.size, 0, none⟩ = some (.int .i64 (n : Int))) := Lib.hid fun w3 hb => (hb.cell (p := ⟨w.heap.size, 0, none⟩) (by show w.heap.size < _; omega)).trans k1
  have hup := up_le n
  have hmm : upRoot n * upRoot n ≤ 300000 * 300000 := Nat.mul_le_mul (by omega) (by omega)
  have e := Int.natCast_mul (upRoot n) (upRoot n)
  have m0 : (0 : Int) ≤ (upRoot n : Int) * (upRoot n : Int) := by omega
  have m1 : (upRoot n : Int) * (upRoot n : Int) ≤ 90000000000 := by omega
  have HQ : Hid (isSq n = ((upRoot n : Int) * (upRoot n : Int) == (n : Int))) := Lib.hid (by
    unfold isSq
    rw [Bool.eq_iff_iff, decide_eq_true_iff, beq_iff_eq]
    omega)
  rw [HQ.out]
  obtain ⟨r, hr⟩ : ∃ r, r = upRoot n := ⟨_, rfl⟩
  rw [← hr] at HE m0 m1 hup ⊢
  have hrb : r ≤ 300000 := by omega
  have HB1 := Lib.hid hB1
  have HS1 := Lib.hid hs1
  rw [hW1] at HS HB1 HC HS1
  clear hB1 k1 hs1 hW1 hr hmm e HQ h1 h2 hup
  go_enter Try.func112, Try.ntmps112
  go_wp2_with fail
  refine HS.out.mono ?_
  rintro e w3 ⟨m, rfl, hm, hb⟩
  have hmr := HE.out m hm
  have d1 := HC.out w3 hb
  have HB3 := Lib.hid (below_nextN HB1.out HB1.out.size hb)
  subst hmr
  clear hm hb HE HC HS1 HB1 HS
  cases hq : ((m : Int) * (m : Int) == (n : Int))
  · go_wp2
    go_quiet (fail)
    go_wp2
    go_ret2
    exact ⟨ret_ib rfl hq.symm, below_drewN HB3.out _⟩
  · go_wp2
    go_quiet (fail)
    go_wp2
    go_ret2
    exact ⟨ret_ib rfl hq.symm, below_drewN HB3.out _⟩

set_option maxHeartbeats 1000000 in
theorem poRoot_any (n : Nat) (w : World) (h2 : n ≤ 300000) :
    Calls Try.prog 111 #[.int .i64 n] w fun e w' => ∃ r : Nat, e = .returned (.int .i64 r) ∧ (r * r ≤ n ∧ n < (r + 1) * (r + 1) ∧ r ≤ n) ∧ w = w' := by
  go_enter Try.func111, Try.ntmps111
  go_wp2
  go_loop [3] (fun v => ∃ r : Nat, v = .int .i64 r ∧ Hid (r * r ≤ n) ∧ r ≤ n) (fun v => n - (intOf v).toNat)
  case atStart => exact ⟨0, rfl, Lib.hid (Nat.zero_le _), Nat.zero_le _⟩
  case round =>
    obtain ⟨r, rfl, hr, hrn⟩ := hrel
    have hm : (r + 1) * (r + 1) ≤ 300001 * 300001 := Nat.mul_le_mul (by omega) (by omega)
    have e : (((r + 1) * (r + 1) : Nat) : Int) = ((r : Int) + 1) * ((r : Int) + 1) := by rw [Int.natCast_mul, Int.natCast_add]; rfl
    have m0 : (0 : Int) ≤ ((r : Int) + 1) * ((r : Int) + 1) := by omega
    have m1 : ((r : Int) + 1) * ((r : Int) + 1) ≤ 90000600001 := by omega
    by_cases hlt : (r + 1) * (r + 1) ≤ n
    · have hle : ((r : Int) + 1) * ((r : Int) + 1) ≤ (n : Int) := by omega
      have HL := Lib.hid hlt
      have hrn1 : r + 1 ≤ n := Nat.le_trans (Nat.le_mul_of_pos_left _ (Nat.succ_pos _)) hlt
      clear hlt hm e
      go_wp2
      go_round
      case rel => exact ⟨r + 1, by go_num, HL, hrn1⟩
      case measure => simp [intOf]; omega
    · have hle : ¬ ((r : Int) + 1) * ((r : Int) + 1) ≤ (n : Int) := by omega
      have HL : Hid (r * r ≤ n ∧ n < (r + 1) * (r + 1) ∧ r ≤ n) := Lib.hid ⟨hr.out, by omega, hrn⟩
      clear hlt hm e
      go_wp2
      go_ret
      exact ⟨r, rfl, HL.out, rfl⟩
end Go.Proofs.Ytacncacpcllgcaa
