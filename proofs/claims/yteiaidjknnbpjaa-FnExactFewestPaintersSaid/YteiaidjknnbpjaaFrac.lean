/- Sums of fractions: 'spec.shAll', 'impl.pacesOf', and the sum of paces. No condition but the rates' bounds. -/
import Derived.Test.YteiaidjknnbpjaaLow
namespace Go.Proofs.Yteiaidjknnbpjaa
open Go.RowKit

/-- the first k rates multiplied, and what so many minutes bring together -/
def mulK (T : List Nat) : Nat → Nat
  | 0 => 1
  | k + 1 => mulK T k * T.getD k 1
def addK (T : List Nat) : Nat → Nat
  | 0 => 0
  | k + 1 => addK T k * T.getD k 1 + mulK T k
/-- rates as natural numbers -/
def okN (T : List Nat) : Prop := T.length ≤ 5 ∧ ∀ k, 1 ≤ T.getD k 1 ∧ T.getD k 1 ≤ 20
theorem getD1 (T : List Nat) (k : Nat) (h : k < T.length) : T.getD k 1 = T[k] := by
  rw [List.getD_eq_getElem?_getD, List.getElem?_eq_getElem h]; rfl
theorem okR_nats {L : List Int} (h : okR L = true) : ∃ T : List Nat, L = T.map (fun n : Nat => (n : Int)) ∧ okN T ∧ 1 ≤ T.length := by
  have hl := okR_len h
  have hx := okR_mem h
  have e := nats_of (S := L) fun x hx' => by have := hx x hx'; omega
  refine ⟨L.map Int.toNat, e, ⟨by rw [List.length_map]; exact hl.2, fun k => ?_⟩, by rw [List.length_map]; exact hl.1⟩
  by_cases hk : k < L.length
  · rw [getD1 _ k (by rw [List.length_map]; exact hk), List.getElem_map]
    have := hx L[k] (List.getElem_mem hk)
    omega
  · rw [List.getD_eq_getElem?_getD, List.getElem?_eq_none (by rw [List.length_map]; omega)]
    decide
theorem mulK_pos {T : List Nat} (h : okN T) : ∀ k, 0 < mulK T k
  | 0 => Nat.one_pos
  | k + 1 => Nat.mul_pos (mulK_pos h k) (h.2 k).1
theorem mulK_le {T : List Nat} (h : okN T) : ∀ k, mulK T k ≤ 20 ^ k
  | 0 => Nat.le_refl _
  | k + 1 => by rw [Nat.pow_succ]; exact Nat.mul_le_mul (mulK_le h k) (h.2 k).2
theorem addK_le {T : List Nat} (h : okN T) : ∀ k, addK T k ≤ k * 20 ^ k
  | 0 => Nat.le_refl _
  | k + 1 => by
    have h1 : addK T k * T.getD k 1 ≤ (k * 20 ^ k) * 20 := Nat.mul_le_mul (addK_le h k) (h.2 k).2
    have h2 : mulK T k ≤ 20 ^ k * 20 := Nat.le_trans (mulK_le h k) (Nat.le_mul_of_pos_right _ (by decide))
    show addK T k * T.getD k 1 + mulK T k ≤ (k + 1) * 20 ^ (k + 1)
    rw [Nat.pow_succ, Nat.add_mul, Nat.one_mul, ← Nat.mul_assoc]
    omega
theorem mulK_bd {T : List Nat} (h : okN T) {k : Nat} (hk : k ≤ 5) : mulK T k ≤ 3200000 :=
  Nat.le_trans (mulK_le h k) (Nat.le_trans (Nat.pow_le_pow_right (by decide) hk) (by decide))
theorem addK_bd {T : List Nat} (h : okN T) {k : Nat} (hk : k ≤ 5) : addK T k ≤ 16000000 :=
  Nat.le_trans (addK_le h k) (Nat.le_trans (Nat.mul_le_mul hk (Nat.pow_le_pow_right (by decide) hk)) (by decide))
theorem addK_pos {T : List Nat} (h : okN T) {k : Nat} (hk : 0 < k) : 0 < addK T k := by
  obtain ⟨j, rfl⟩ : ∃ j, k = j + 1 := ⟨k - 1, by omega⟩
  have := mulK_pos h j
  show 0 < addK T j * T.getD j 1 + mulK T j
  omega
theorem mulK_dvd {T : List Nat} : ∀ k i, i < k → T.getD i 1 ∣ mulK T k
  | k + 1, i, hi => by
    rcases Nat.lt_or_ge i k with h | h
    · exact Nat.dvd_trans (mulK_dvd k i h) (Nat.dvd_mul_right _ _)
    · obtain rfl : i = k := by omega
      exact Nat.dvd_mul_left _ _
theorem mulK_div_sum {T : List Nat} (h : okN T) : ∀ k, ((List.range k).map fun i => mulK T k / T.getD i 1).sum = addK T k
  | 0 => rfl
  | k + 1 => by
    have hr := (h.2 k).1
    have e1 : ((List.range k).map fun i => mulK T (k + 1) / T.getD i 1) = (List.range k).map fun i => (mulK T k / T.getD i 1) * T.getD k 1 :=
      List.map_congr_left fun i hi => by
        show mulK T k * T.getD k 1 / T.getD i 1 = _
        rw [Nat.mul_comm, Nat.mul_div_assoc _ (mulK_dvd k i (List.mem_range.1 hi)), Nat.mul_comm]
    have e2 : ∀ (l : List Nat) (f : Nat → Nat) (c : Nat), (l.map fun i => f i * c).sum = (l.map f).sum * c := by
      intro l f c
      induction l with
      | nil => simp
      | cons a l ih => rw [List.map_cons, List.sum_cons, ih, List.map_cons, List.sum_cons, Nat.add_mul]
    rw [List.range_succ, List.map_append, List.sum_append, e1, e2, mulK_div_sum h k]
    show addK T k * T.getD k 1 + (mulK T k * T.getD k 1 / T.getD k 1 + 0) = _
    rw [Nat.mul_div_cancel _ hr]
    rfl

set_option maxHeartbeats 1000000 in
theorem shAll_any (A : Option Addr) (c : Nat) (T : List Nat) (w : World) (hT : okN T) (h1 : 1 ≤ T.length) (h : IntSl w A (T.map fun n : Nat => (n : Int))) :
    Calls Try.prog 90 #[.slice A T.length c] w fun e w' => ∃ n d : Nat, e = .returned (.tuple #[.int .i64 n, .int .i64 d]) ∧ (n * mulK T T.length = addK T T.length * d ∧ 0 < d ∧ 0 < n ∧ d ≤ 3200000 ∧ n ≤ 16000000) ∧ Below w.heap.size w w' := by
  have hl5 := hT.1
  obtain ⟨g, off, rfl, hg, hat⟩ := h.some (by rw [List.length_map]; omega)
  have HAT := Lib.hid hat
  have HT := Lib.hid hT
  clear hat h hT
  go_enter Try.func90, Try.ntmps90
  go_wp2
  go_loopw [4, 5, 7, 10] (fun u v _ i wr => ∃ k n d : Nat, k ≤ T.length ∧ i = .int .i64 k ∧ u = .int .i64 n ∧ v = .int .i64 d ∧ (n * mulK T k = addK T k * d ∧ 0 < d ∧ d ≤ mulK T k ∧ n ≤ addK T k) ∧ Below w.heap.size w wr) (fun _ _ _ i _ => T.length - (intOf i).toNat)
  case atStart => exact ⟨0, 0, 1, Nat.zero_le _, rfl, rfl, rfl, ⟨rfl, Nat.one_pos, Nat.le_refl _, Nat.le_refl _⟩, Below.refl _ _⟩
  case round =>
    obtain ⟨k, n, d, hk, rfl, rfl, rfl, hinv, hb⟩ := hrel
    have HI := Lib.hid hinv
    clear hinv
    by_cases hlt : k < T.length
    · have c1 := HAT.out.below hb hg k (by rw [List.length_map]; omega)
      rw [List.getElem_map] at c1
      have HR := Lib.hid (getD1 T k hlt)
      have hr := HT.out.2 k
      rw [HR.out] at hr
      have hmb := mulK_bd HT.out (k := k) (by omega)
      have hab := addK_bd HT.out (k := k) (by omega)
      obtain ⟨i1, i2, i3, i4⟩ := HI.out
      obtain ⟨r, hrr⟩ : ∃ r, r = T[k] := ⟨_, rfl⟩
      rw [← hrr] at HR hr c1
      have hnr : n * r ≤ 16000000 * 20 := Nat.mul_le_mul (by omega) hr.2
      have hdr : d * r ≤ 3200000 * 20 := Nat.mul_le_mul (by omega) hr.2
      have hdp : 0 < d * r := Nat.mul_pos i2 hr.1
      have HC := Lib.hid fun W => shLow_any (n * r + d) (d * r) W (by omega) (by omega) hdp
      rw [Int.natCast_add, Int.natCast_mul, Int.natCast_mul] at HC
      have hnr' : (n : Int) * (r : Int) ≤ 320000000 := by rw [← Int.natCast_mul]; omega
      have hdr' : (d : Int) * (r : Int) ≤ 64000000 := by rw [← Int.natCast_mul]; omega
      have hn0 : (0 : Int) ≤ (n : Int) * (r : Int) := by rw [← Int.natCast_mul]; omega
      have hd0 : (0 : Int) ≤ (d : Int) * (r : Int) := by rw [← Int.natCast_mul]; omega
      have HN : Hid (lowA (n * r + d) (d * r) * mulK T (k + 1) = addK T (k + 1) * lowB (n * r + d) (d * r) ∧ 0 < lowB (n * r + d) (d * r) ∧ lowB (n * r + d) (d * r) ≤ mulK T (k + 1) ∧ lowA (n * r + d) (d * r) ≤ addK T (k + 1)) := Lib.hid (by
        have hc := low_cross (a := n * r + d) (b := d * r)
        have e1 : mulK T (k + 1) = mulK T k * r := by show mulK T k * T.getD k 1 = _; rw [HR.out]
        have e2 : addK T (k + 1) = addK T k * r + mulK T k := by show addK T k * T.getD k 1 + mulK T k = _; rw [HR.out]
        have hle := low_le (a := n * r + d) (b := d * r)
        refine ⟨?_, low_pos hdp, ?_, ?_⟩
        · have h2 : (lowA (n * r + d) (d * r) * mulK T (k + 1)) * d = (addK T (k + 1) * lowB (n * r + d) (d * r)) * d := by
            rw [e1, e2]
            have a1 : lowA (n * r + d) (d * r) * (mulK T k * r) * d = (lowA (n * r + d) (d * r) * (d * r)) * mulK T k := by simp only [Nat.mul_assoc, Nat.mul_left_comm, Nat.mul_comm]
            have a2 : (n * r + d) * lowB (n * r + d) (d * r) * mulK T k = (n * mulK T k) * r * lowB (n * r + d) (d * r) + mulK T k * d * lowB (n * r + d) (d * r) := by
              rw [Nat.add_mul, Nat.add_mul]
              simp only [Nat.mul_assoc, Nat.mul_left_comm, Nat.mul_comm]
            rw [a1, hc, a2, i1, Nat.add_mul, Nat.add_mul]
            simp only [Nat.mul_assoc, Nat.mul_left_comm, Nat.mul_comm]
          exact Nat.eq_of_mul_eq_mul_right i2 h2
        · rw [e1]; exact Nat.le_trans hle.2 (Nat.mul_le_mul_right _ i3)
        · rw [e2]; exact Nat.le_trans hle.1 (Nat.add_le_add (Nat.mul_le_mul_right _ i4) i3))
      obtain ⟨a, ha⟩ : ∃ a, a = lowA (n * r + d) (d * r) := ⟨_, rfl⟩
      obtain ⟨b, hb'⟩ : ∃ b, b = lowB (n * r + d) (d * r) := ⟨_, rfl⟩
      rw [← ha, ← hb'] at HC HN
      clear ha hb' hrr i1 HI
      go_wp2_with (go_at_call 91; refine (HC.out _).mono ?_; rintro e w1 ⟨rfl, dd, rfl⟩)
      go_roundw
      case rel => exact ⟨k + 1, a, b, by omega, by go_num, rfl, rfl, HN.out, below_drewN hb _⟩
      case measure => simp [intOf]; omega
    · obtain rfl : k = T.length := by omega
      have hmb := mulK_bd HT.out (k := T.length) (by omega)
      have hab := addK_bd HT.out (k := T.length) (by omega)
      have hap := addK_pos HT.out (k := T.length) (by omega)
      have hmp := mulK_pos HT.out T.length
      have hn : 0 < n := by
        rcases Nat.eq_zero_or_pos n with h0 | h0
        · have := HI.out.1
          rw [h0, Nat.zero_mul] at this
          have := Nat.mul_pos hap HI.out.2.1
          omega
        · exact h0
      have HF : Hid (n * mulK T T.length = addK T T.length * d ∧ 0 < d ∧ 0 < n ∧ d ≤ 3200000 ∧ n ≤ 16000000) := Lib.hid ⟨HI.out.1, HI.out.2.1, hn, Nat.le_trans HI.out.2.2.1 hmb, Nat.le_trans HI.out.2.2.2 hab⟩
      clear hmb hab hap hmp hn
      go_wp2
      go_ret2
      exact ⟨n, d, rfl, HF.out, hb⟩

theorem info_pace : (Try.prog.info? 76).map (fun i => (i.zero, i.size, i.bytes)) = some (some (.int .i64 0), 1, 8) := by kernel_rfl
def paceL (T : List Nat) : List Int := (List.range T.length).map fun i => ((mulK T T.length / T.getD i 1 : Nat) : Int)
theorem paceL_len (T : List Nat) : (paceL T).length = T.length := by simp [paceL]
theorem paceL_at (T : List Nat) (j : Nat) (h : j < T.length) : ((paceL T).map (Value.int .i64))[j]? = some (.int .i64 ((mulK T T.length / T.getD j 1 : Nat) : Int)) := by
  unfold paceL; rw [List.map_map, List.getElem?_map, List.getElem?_range h]; rfl
theorem paceL_sum {T : List Nat} (h : okN T) : (paceL T).sum = (addK T T.length : Int) := by
  rw [← mulK_div_sum h T.length, ← sum_cast]
  unfold paceL
  rw [List.map_map]; rfl
theorem paceL_mem {T : List Nat} (h : okN T) : ∀ x ∈ paceL T, 0 ≤ x ∧ x ≤ 3200000 := by
  intro x hx
  unfold paceL at hx
  obtain ⟨i, _, rfl⟩ := List.mem_map.1 hx
  have h1 := mulK_bd h (k := T.length) h.1
  have h2 := Nat.div_le_self (mulK T T.length) (T.getD i 1)
  generalize mulK T T.length / T.getD i 1 = q at h2
  omega

set_option maxRecDepth 20000 in
set_option maxHeartbeats 2000000 in
theorem pacesOf_any (A : Option Addr) (c : Nat) (T : List Nat) (w : World) (hT : okN T) (h1 : 1 ≤ T.length) (h : IntSl w A (T.map fun n : Nat => (n : Int))) :
    Calls Try.prog 86 #[.slice A T.length c] w fun e w' => e = .returned (.tuple #[.slice (some ⟨w.heap.size, 0, none⟩) T.length T.length, .int .i64 (mulK T T.length : Nat)]) ∧ OwnInts w' w.heap.size 76 (.slice (some ⟨w.heap.size, 0, none⟩) T.length T.length) (paceL T) ∧ Below w.heap.size w w' := by
  obtain ⟨i0, hi, hz0, hz1, hz2⟩ := info_parts info_pace
  have hl5 := hT.1
  obtain ⟨g, off, rfl, hg, hat⟩ := h.some (by rw [List.length_map]; omega)
  have HAT := Lib.hid hat
  have HT := Lib.hid hT
  clear hat h hT
  go_enter Try.func86, Try.ntmps86
  go_wp2
  go_loop [4, 6, 12] (fun m _ i => ∃ k : Nat, k ≤ T.length ∧ i = .int .i64 k ∧ m = .int .i64 (mulK T k : Nat)) (fun _ _ i => T.length - (intOf i).toNat)
  case atStart => exact ⟨0, Nat.zero_le _, rfl, rfl⟩
  case round =>
    obtain ⟨k, hk, rfl, rfl⟩ := hrel
    by_cases hlt : k < T.length
    · have c1 := HAT.out k (by rw [List.length_map]; omega)
      rw [List.getElem_map] at c1
      have HR := Lib.hid (getD1 T k hlt)
      have HM : Hid ((mulK T (k + 1) : Int) = (mulK T k : Int) * (T[k] : Int)) := Lib.hid (by rw [← Int.natCast_mul, ← HR.out]; rfl)
      have hmb : (mulK T (k + 1) : Int) ≤ 3200000 := by have := mulK_bd HT.out (k := k + 1) (by omega); omega
      have hm0 : (0 : Int) ≤ (mulK T (k + 1) : Int) := by omega
      rw [HM.out] at hmb hm0
      go_wp2
      go_round
      case rel => exact ⟨k + 1, by omega, by go_num, by rw [HM.out]⟩
      case measure => simp [intOf]; omega
    · obtain rfl : k = T.length := by omega
      have hmb := mulK_bd HT.out (k := T.length) (by omega)
      go_wp2_with (at_make; refine wpList_make_full _ rfl (.tmp 21) (.tmp 21) _ rfl w.heap.size 76 i0 _ 1 Try.underlying71 hi hz0 hz1 .i64 .i64 _ _ T.length rfl rfl rfl rfl (by rw [hz2]; omega) (by unfold maxLen; omega) (Nat.le_refl _) ?_; intro w1 hown hgrow)
      have HF : Hid (Filled w w.heap.size 76 1 (.slice (some ⟨w.heap.size, 0, none⟩) T.length T.length) T.length ((paceL T).map (Value.int .i64)) 0 w1) := Lib.hid (Filled.made hown ((Below.refl _ _).grown hgrow (Nat.le_refl _) (fun k hk => by cases hk)))
      clear hown hgrow
      go_loopw [8, 9, 25] (fun _ _ i wr => ∃ j : Nat, j ≤ T.length ∧ i = .int .i64 j ∧ Filled w w.heap.size 76 1 (.slice (some ⟨w.heap.size, 0, none⟩) T.length T.length) T.length ((paceL T).map (Value.int .i64)) j wr) (fun _ _ i _ => T.length - (intOf i).toNat)
      case atStart => exact ⟨0, Nat.zero_le _, rfl, HF.out⟩
      case round =>
        clear HF
        obtain ⟨j, hj, rfl, hf⟩ := hrel
        have HF1 := Lib.hid hf
        clear hf
        by_cases hjt : j < T.length
        · have c1 := HAT.out.below HF1.out.below0 hg j (by rw [List.length_map]; omega)
          rw [List.getElem_map] at c1
          obtain ⟨⟨u1, d1⟩, f1⟩ := HF1.out.cell j (by omega)
          have HR := Lib.hid (getD1 T j hjt)
          have K1 := Lib.hid (paceL_at T j hjt)
          have hr := HT.out.2 j
          rw [HR.out] at hr K1
          obtain ⟨r, hrr⟩ : ∃ r, r = T[j] := ⟨_, rfl⟩
          rw [← hrr] at hr c1 K1
          obtain ⟨M, hM⟩ : ∃ M, M = mulK T T.length := ⟨_, rfl⟩
          rw [← hM] at K1 hmb
          rw [← hM]
          have HQ : Hid (((M / r : Nat) : Int) = (M : Int).tdiv (r : Int)) := Lib.hid (by rw [Int.natCast_ediv, Int.tdiv_eq_ediv_of_nonneg (by omega)])
          have hq := Nat.div_le_self M r
          have HD : Hid (((M / r : Nat) : Int) = (M : Int) / (r : Int)) := Lib.hid (Int.natCast_ediv M r)
          obtain ⟨q, hqq⟩ : ∃ q, q = M / r := ⟨_, rfl⟩
          rw [← hqq] at HQ HD K1 hq
          have tq : (M : Int).tdiv (r : Int) = (q : Int) := HQ.out.symm
          have dq : (M : Int) / (r : Int) = (q : Int) := HD.out.symm
          clear HQ HD hqq
          have y0 : (0 : Int) < (r : Int) := by omega
          have y1 : (1 : Int) ≤ (r : Int) := by omega
          have x0 : (0 : Int) ≤ (M : Int) := by omega
          have yz : ((r : Int) == 0) = false := by rw [beq_eq_false_iff_ne]; omega
          have hj0 : (0 : Int) ≤ (j : Int) := by omega
          have hj1 : (j : Int) < (T.length : Int) := by omega
          clear hrr hM
          go_wp2
          go_roundw
          case rel => exact ⟨j + 1, by omega, by go_num, HF1.out.step (by omega) (Nat.le_refl _) K1.out⟩
          case measure => simp [intOf]; omega
        · obtain rfl : j = T.length := by omega
          have HA := Lib.hid (Filled.all (by rw [Nat.mul_one]; exact HF1.out) (by rw [List.length_map, paceL_len, Nat.mul_one]))
          have HV : Hid (OwnInts wr w.heap.size 76 (.slice (some ⟨w.heap.size, 0, none⟩) T.length T.length) (paceL T)) := Lib.hid (by unfold OwnInts; rw [paceL_len]; exact HA.out.1)
          go_wp2
          go_ret2
          exact ⟨rfl, HV.out, HA.out.2⟩

set_option maxHeartbeats 1000000 in
theorem sumPace_any (A : Option Addr) (c : Nat) (L : List Int) (M : Int) (w : World) (hl : L.length ≤ 1048576) (hM : 0 ≤ M) (hb : (L.length : Int) * M ≤ 4611686018427387904) (hx : ∀ x ∈ L, 0 ≤ x ∧ x ≤ M) (h : IntSl w A L) :
    Calls Try.prog 89 #[.slice A L.length c] w fun e w' => e = .returned (.int .i64 L.sum) ∧ w = w' := by
  rcases Nat.eq_zero_or_pos L.length with h0 | h0
  · obtain rfl : L = [] := List.eq_nil_of_length_eq_zero h0
    clear h h0 hl hx hb
    go_enter Try.func89, Try.ntmps89
    go_wp2
    refine wp_loop_rounds 1 ?_
    rw [rounds_succ]
    go_wp2
    go_ret
    exact ⟨rfl, rfl⟩
  · obtain ⟨g, off, rfl, -, hat⟩ := h.some h0
    have HAT := Lib.hid hat
    have HX := Lib.hid fun k => sum_take_bound hM hx k
    clear hat h hx
    go_enter Try.func89, Try.ntmps89
    go_wp2
    go_loop [3, 5, 8] (fun s _ i => ∃ k : Nat, k ≤ L.length ∧ i = .int .i64 k ∧ s = .int .i64 (L.take k).sum) (fun _ _ i => L.length - (intOf i).toNat)
    case atStart => exact ⟨0, Nat.zero_le _, rfl, rfl⟩
    case round =>
      obtain ⟨k, hk, rfl, rfl⟩ := hrel
      by_cases hlt : k < L.length
      · have c1 := HAT.out k hlt
        have HS := Lib.hid (sum_take_succ hlt)
        obtain ⟨b1, b2⟩ := HX.out (k + 1)
        rw [HS.out] at b1 b2
        go_wp2
        go_round
        case rel => exact ⟨k + 1, by omega, by go_num, by rw [HS.out]⟩
        case measure => simp [intOf]; omega
      · obtain rfl : k = L.length := by omega
        go_wp2
        go_ret
        exact ⟨rfl, rfl⟩
end Go.Proofs.Yteiaidjknnbpjaa
