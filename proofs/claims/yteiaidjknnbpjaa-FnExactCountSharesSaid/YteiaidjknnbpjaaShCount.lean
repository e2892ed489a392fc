/- CountShares of both sides. No condition but the lists' lengths. -/
import Derived.Test.YteiaidjknnbpjaaFirst3
namespace Go.Proofs.Yteiaidjknnbpjaa
open Go.RowKit

/-- in how many ways so many painters share boards, none of them working more than m -/
def cnt (m : Int) : List Int → Nat → Nat
  | W, 0 => if W = [] then 1 else 0
  | W, p + 1 => ((List.range (fitN m W + 1)).map fun k => cnt m (W.drop k) p).sum
theorem sum_le_nat {l : List Nat} {B : Nat} (h : ∀ x ∈ l, x ≤ B) : l.sum ≤ l.length * B := by
  induction l with
  | nil => simp
  | cons a l ih =>
    have h1 := ih fun x hx => h x (List.mem_cons_of_mem _ hx)
    have h2 := h a (List.mem_cons_self ..)
    rw [List.sum_cons, List.length_cons, Nat.add_mul, Nat.one_mul]; omega
theorem cnt_le (m : Int) : ∀ (p : Nat) (W : List Int), W.length ≤ 12 → cnt m W p ≤ 13 ^ p
  | 0, W, _ => by unfold cnt; split <;> decide
  | p + 1, W, h => by
    have hf := fitN_le m W
    rw [cnt]
    refine Nat.le_trans (sum_le_nat (B := 13 ^ p) fun x hx => ?_) ?_
    · obtain ⟨k, _, rfl⟩ := List.mem_map.1 hx
      exact cnt_le m p _ (by rw [List.length_drop]; omega)
    · rw [List.length_map, List.length_range, Nat.pow_succ, Nat.mul_comm]
      exact Nat.mul_le_mul_left _ (by omega)
theorem cnt_bd {m : Int} {W : List Int} {p : Nat} (hp : p ≤ 5) (h : W.length ≤ 12) : cnt m W p ≤ 371293 :=
  Nat.le_trans (cnt_le m p W h) (Nat.le_trans (Nat.pow_le_pow_right (by decide) hp) (by decide))
theorem zeros_sum (l : List Nat) : (l.map fun _ => 0).sum = 0 := by
  induction l with
  | nil => rfl
  | cons a l ih => rw [List.map_cons, List.sum_cons, ih]
theorem range_single : ∀ (n j : Nat) (f : Nat → Nat), j < n → (∀ i, i < n → i ≠ j → f i = 0) → ((List.range n).map f).sum = f j
  | 0, j, f, h, _ => by omega
  | n + 1, j, f, h, h0 => by
    rw [List.range_succ, List.map_append, List.sum_append]
    simp only [List.map_cons, List.map_nil, List.sum_cons, List.sum_nil, Nat.add_zero]
    by_cases e : j = n
    · subst e
      have : ((List.range j).map f).sum = 0 := by
        have : ((List.range j).map f) = (List.range j).map fun _ => 0 := List.map_congr_left fun i hi => h0 i (by have := List.mem_range.1 hi; omega) (by have := List.mem_range.1 hi; omega)
        rw [this, zeros_sum]
      omega
    · rw [range_single n j f (by omega) fun i hi hne => h0 i (by omega) hne, h0 n (by omega) (fun h => e h.symm), Nat.add_zero]
theorem cnt_one {m : Int} {W : List Int} (hW : Pos W) (hm : 0 ≤ m) : cnt m W 1 = if W.sum ≤ m then 1 else 0 := by
  have hf := fitN_le m W
  have hi := fitN_iff hW m W.length hm (Nat.le_refl _)
  rw [List.take_length] at hi
  rw [cnt]
  by_cases h : W.sum ≤ m
  · rw [if_pos h]
    have := hi.1 h
    have e : fitN m W = W.length := by omega
    rw [e, range_single (W.length + 1) W.length _ (by omega) fun i hi2 hne => ?_]
    · show (if W.drop W.length = [] then 1 else 0) = 1
      rw [List.drop_length]; rfl
    · show (if W.drop i = [] then 1 else 0) = 0
      rw [if_neg]
      intro e
      rw [List.drop_eq_nil_iff] at e
      omega
  · rw [if_neg h]
    have hlt : ¬ W.length ≤ fitN m W := fun e => h (hi.2 e)
    have : ((List.range (fitN m W + 1)).map fun k => cnt m (W.drop k) 0) = (List.range (fitN m W + 1)).map fun _ => 0 := List.map_congr_left fun i hi2 => by
      show (if W.drop i = [] then 1 else 0) = 0
      rw [if_neg]
      intro e
      rw [List.drop_eq_nil_iff] at e
      have := List.mem_range.1 hi2
      omega
    rw [this, zeros_sum]
/-- the first j ways of the sum -/
def cntJ (m : Int) (W : List Int) (p j : Nat) : Nat := ((List.range j).map fun k => cnt m (W.drop k) p).sum
theorem cntJ_succ (m : Int) (W : List Int) (p j : Nat) : cntJ m W p (j + 1) = cntJ m W p j + cnt m (W.drop j) p := by
  unfold cntJ; rw [List.range_succ, List.map_append, List.sum_append]; simp
theorem cntJ_bd {m : Int} {W : List Int} {p j : Nat} (hp : p ≤ 5) (h : W.length ≤ 12) (hj : j ≤ 14) : cntJ m W p j ≤ 5198102 := by
  unfold cntJ
  have := sum_le_nat (l := (List.range j).map fun k => cnt m (W.drop k) p) (B := 371293) fun x hx => by
    obtain ⟨k, _, rfl⟩ := List.mem_map.1 hx
    exact cnt_bd hp (by rw [List.length_drop]; omega)
  rw [List.length_map, List.length_range] at this
  omega

set_option maxRecDepth 100000 in
set_option maxHeartbeats 4000000 in
theorem shCount_any (A0 : Option Addr) (c0 : Nat) (W : List Int) (m : Nat) (hw : okW W = true) (q0 : W.length ≤ c0) (hm : m ≤ 30000) : ∀ (p f : Nat) (w : World), p + 1 ≤ 5 → f ≤ W.length → IntSl w A0 W →
    Calls Try.prog 110 #[.slice A0 W.length c0, .int .i64 f, .int .i64 ((p + 1 : Nat) : Int), .int .i64 m] w fun e w' => e = .returned (.int .i64 (cnt m (W.drop f) (p + 1) : Nat)) ∧ w = w' := by
  intro p
  induction p with
  | zero =>
    intro f w hp hf h0
    have hwl := okW_len hw
    have hWp : Pos (W.drop f) := fun x hx => (okW_mem hw x (List.mem_of_mem_drop hx)).1
    have HE := Lib.hid (cnt_one (m := (m : Int)) hWp (by omega))
    have hcut := fun W0 => cut_l A0 W.length c0 f hf W0
    have HCS : Hid (∀ W0, IntSl W0 A0 W → Calls Try.prog 92 #[.slice (subA A0 f c0) (W.length - f) (c0 - f)] W0 fun e w' => e = .returned (.int .i64 (W.drop f).sum) ∧ W0 = w') := Lib.hid fun W0 hW0 =>
      shSum_w (c := c0 - f) (List.length_drop ..) (by omega) (fun x hx => okW_mem hw x (List.mem_of_mem_drop hx)) (hW0.drop f c0 q0)
    obtain ⟨s, hs⟩ : ∃ s, s = (W.drop f).sum := ⟨_, rfl⟩
    rw [← hs] at HCS HE
    clear hs hWp
    by_cases hle : s ≤ m
    · rw [if_pos hle] at HE
      rw [HE.out]
      clear HE
      go_enter Try.func110, Try.ntmps110
      go_wp2_with (go_at_call 92; refine (HCS.out _ h0).mono ?_; rintro e w1 ⟨rfl, rfl⟩)
      go_ret
      exact ⟨rfl, rfl⟩
    · rw [if_neg hle] at HE
      rw [HE.out]
      clear HE
      go_enter Try.func110, Try.ntmps110
      go_wp2_with (go_at_call 92; refine (HCS.out _ h0).mono ?_; rintro e w1 ⟨rfl, rfl⟩)
      go_ret
      exact ⟨rfl, rfl⟩
  | succ p ih =>
    intro f w hp hf h0
    have hwl := okW_len hw
    have hWp : Pos (W.drop f) := fun x hx => (okW_mem hw x (List.mem_of_mem_drop hx)).1
    have hfl := fitN_le (m : Int) (W.drop f)
    rw [List.length_drop] at hfl
    have HFI : Hid (∀ n, f + n ≤ W.length → (((W.drop f).take n).sum ≤ m ↔ n ≤ fitN m (W.drop f))) := Lib.hid fun n hn => fitN_iff hWp m n (by omega) (by rw [List.length_drop]; omega)
    have HCS : Hid (∀ n W0, f + n ≤ W.length → IntSl W0 A0 W → Calls Try.prog 92 #[.slice (subA A0 f c0) n (c0 - f)] W0 fun e w' => e = .returned (.int .i64 ((W.drop f).take n).sum) ∧ W0 = w') := Lib.hid fun n W0 hn hW0 =>
      shSum_w (c := c0 - f) (cut_len hn) (by omega) (fun x hx => okW_mem hw x (cut_mem hx)) (hW0.cut f n c0 q0)
    have HIH := Lib.hid fun n W0 (hn : f + n ≤ W.length) h0 => ih (f + n) W0 (by omega) hn h0
    have HE : Hid (cntJ m (W.drop f) (p + 1) (fitN m (W.drop f) + 1) = cnt m (W.drop f) (p + 1 + 1)) := Lib.hid rfl
    have HST : Hid (∀ j, cntJ m (W.drop f) (p + 1) (j + 1) = cntJ m (W.drop f) (p + 1) j + cnt m (W.drop (f + j)) (p + 1)) := Lib.hid fun j => by rw [cntJ_succ, List.drop_drop]
    have HBD : Hid (∀ j, j ≤ 14 → cntJ m (W.drop f) (p + 1) j ≤ 5198102) := Lib.hid fun j hj => cntJ_bd (by omega) (by rw [List.length_drop]; omega) hj
    have hpe : ((((p + 1 + 1 : Nat) : Int)) == 1) = false := by rw [beq_eq_false_iff_ne]; omega
    have hpw : ((p + 1 + 1 : Nat) : Int) - 1 = ((p + 1 : Nat) : Int) := by omega
    obtain ⟨F, hF⟩ : ∃ F, F = fitN m (W.drop f) := ⟨_, rfl⟩
    rw [← hF] at HFI HE hfl
    obtain ⟨P, hP⟩ : ∃ P : Int, P = ((p + 1 + 1 : Nat) : Int) := ⟨_, rfl⟩
    rw [← hP] at hpe hpw
    rw [← hP, ← HE.out]
    have hPb : 2 ≤ P ∧ P ≤ 5 := by omega
    obtain ⟨Q, hQ⟩ : ∃ Q : Int, Q = ((p + 1 : Nat) : Int) := ⟨_, rfl⟩
    rw [← hQ] at HIH hpw
    clear hWp hF hP ih hQ
    go_enter Try.func110, Try.ntmps110
    go_wp2
    go_loop [9, 10] (fun s i => ∃ j : Nat, j ≤ F + 1 ∧ i = .int .i64 j ∧ s = .int .i64 (cntJ m (W.drop f) (p + 1) j : Nat)) (fun _ i => F + 1 - (intOf i).toNat)
    case atStart => exact ⟨0, Nat.zero_le _, rfl, rfl⟩
    case round =>
      obtain ⟨j, hj, rfl, rfl⟩ := hrel
      have hb1 := HBD.out j (by omega)
      by_cases hjl : f + j ≤ W.length
      · have hcut := fun W0 => cut_ln A0 W.length c0 f j (by omega) W0
        have hcl : ((f : Int) + (j : Int)) ≤ (W.length : Int) := by omega
        have HS := Lib.hid fun W0 x => HCS.out j W0 hjl x
        have HFJ := Lib.hid (HFI.out j hjl)
        obtain ⟨s, hs⟩ : ∃ s, s = ((W.drop f).take j).sum := ⟨_, rfl⟩
        rw [← hs] at HS HFJ
        clear hs
        by_cases hjF : j ≤ F
        · have hle : s ≤ m := HFJ.out.2 hjF
          have HI := Lib.hid fun W0 x => HIH.out j W0 hjl x
          have HSJ := Lib.hid (HST.out j)
          have hb2 := HBD.out (j + 1) (by omega)
          rw [HSJ.out] at hb2
          obtain ⟨x, hx⟩ : ∃ x, x = cnt m (W.drop (f + j)) (p + 1) := ⟨_, rfl⟩
          rw [← hx] at HI HSJ hb2
          clear hx
          go_wp2_with (first
            | (go_at_call 92; refine (HS.out _ h0).mono ?_; rintro e w1 ⟨rfl, rfl⟩)
            | (go_at_call 110; refine (HI.out _ h0).mono ?_; rintro e w1 ⟨rfl, rfl⟩))
          go_round
          case rel => exact ⟨j + 1, by omega, by go_num, by rw [HSJ.out]; go_num⟩
          case measure => simp [intOf]; omega
        · have hle : ¬ s ≤ m := fun h => hjF (HFJ.out.1 h)
          have HJ : Hid (j = F + 1) := Lib.hid (by omega)
          go_wp2_with (go_at_call 92; refine (HS.out _ h0).mono ?_; rintro e w1 ⟨rfl, rfl⟩)
          go_ret
          exact ⟨ret_int (by rw [HJ.out]), rfl⟩
      · have hcl : ¬ ((f : Int) + (j : Int)) ≤ (W.length : Int) := by omega
        have HJ : Hid (j = F + 1) := Lib.hid (by omega)
        go_wp2
        go_ret
        exact ⟨ret_int (by rw [HJ.out]), rfl⟩

set_option maxHeartbeats 1000000 in
theorem boardsWithin_any (A : Option Addr) (c n : Nat) (V : List Int) (m : Nat) (w : World) (hn : V.length = n) (hl : n ≤ 12) (hc : n ≤ c) (hx : ∀ x ∈ V, 1 ≤ x ∧ x ≤ 100) (h : IntSl w A V) :
    Calls Try.prog 111 #[.slice A n c, .int .i64 m] w fun e w' => e = .returned (.int .i64 (fitN m V : Nat)) ∧ w = w' := by
  have HVP : Hid (Pos V) := Lib.hid fun x hx' => (hx x hx').1
  have hfl := fitN_le (m : Int) V
  have HFI : Hid (∀ k, k ≤ n → ((V.take k).sum ≤ m ↔ k ≤ fitN m V)) := Lib.hid fun k hk => fitN_iff HVP.out m k (by omega) (by omega)
  have HCS : Hid (∀ k, k ≤ n → Calls Try.prog 88 #[.slice A k c] w fun e w' => e = .returned (.int .i64 (V.take k).sum) ∧ w = w') := Lib.hid fun k hk =>
    sumOf_w (by rw [List.length_take]; omega) (by omega) (fun x hx' => hx x (List.mem_of_mem_take hx')) (h.take k)
  obtain ⟨F, hF⟩ : ∃ F, F = fitN m V := ⟨_, rfl⟩
  rw [← hF] at HFI hfl ⊢
  clear hF hx HVP h
  go_enter Try.func111, Try.ntmps111
  go_wp2
  go_loop [5] (fun i => ∃ j : Nat, j ≤ F ∧ i = .int .i64 j) (fun i => F - (intOf i).toNat)
  case atStart => exact ⟨0, Nat.zero_le _, rfl⟩
  case round =>
    obtain ⟨j, hj, rfl⟩ := hrel
    by_cases hlt : j < n
    · have hcut := fun W0 => cut_h A n c (j + 1) (by omega) W0
      rw [Int.natCast_add] at hcut
      have HS := Lib.hid (HCS.out (j + 1) hlt)
      have HFJ := Lib.hid (HFI.out (j + 1) hlt)
      obtain ⟨s, hs⟩ : ∃ s, s = (V.take (j + 1)).sum := ⟨_, rfl⟩
      rw [← hs] at HS HFJ
      have hj1 : (j : Int) < (n : Int) := by omega
      clear hs
      by_cases hjF : j + 1 ≤ F
      · have hle : s ≤ m := HFJ.out.2 hjF
        go_wp2_with (go_at_call 88; refine HS.out.mono ?_; rintro e w1 ⟨rfl, rfl⟩)
        go_round
        case rel => exact ⟨j + 1, by omega, by go_num⟩
        case measure => simp [intOf]; omega
      · have hle : ¬ s ≤ m := fun h => hjF (HFJ.out.1 h)
        have HJ : Hid (j = F) := Lib.hid (by omega)
        go_wp2_with (go_at_call 88; refine HS.out.mono ?_; rintro e w1 ⟨rfl, rfl⟩)
        go_ret
        exact ⟨ret_int (by rw [HJ.out]), rfl⟩
    · have HJ : Hid (j = F) := Lib.hid (by omega)
      go_wp2
      go_ret
      exact ⟨ret_int (by rw [HJ.out]), rfl⟩
end Go.Proofs.Yteiaidjknnbpjaa
