/- Tops and hollows of the program: boards that are unlike those beside them. No condition but the lists' lengths. -/
import Derived.Test.YtnnhkogmppheeaaWhere
namespace Go.Proofs.Ytnnhkogmppheeaa
open Go.RowKit

/-- whether board j is unlike the board x, if that is there -/
def nbOk (R : Int → Int → Bool) (L : List Int) (j : Nat) (x : Int) : Bool := decide (¬ (0 ≤ x ∧ x < (L.length : Int))) || R (L.getD j 0) (L.getD x.toNat 0)
def upB (R : Int → Int → Bool) (L : List Int) (j : Nat) : Bool := nbOk R L j ((j : Int) - 1) && nbOk R L j ((j : Int) + 1)
def higher (a b : Int) : Bool := decide (b < a)
def lower (a b : Int) : Bool := decide (a < b)
theorem nbOk_out {R : Int → Int → Bool} {L : List Int} {j : Nat} {x : Int} (h : ¬ (0 ≤ x ∧ x < (L.length : Int))) : nbOk R L j x = true := by
  unfold nbOk; rw [decide_eq_true h]; rfl
theorem nbOk_in {R : Int → Int → Bool} {L : List Int} {j p : Nat} (hj : j < L.length) (hp : p < L.length) : nbOk R L j (p : Int) = R L[j] L[p] := by
  unfold nbOk
  rw [decide_eq_false (by omega), Int.toNat_natCast, getD_lt L j hj, getD_lt L p hp]
  rfl
/-- where the board x is -/
theorem nb_cases (n : Nat) (x : Int) : ¬ (0 ≤ x ∧ x < (n : Int)) ∨ ∃ p : Nat, x = (p : Int) ∧ p < n := by
  by_cases h : 0 ≤ x ∧ x < (n : Int)
  · exact .inr ⟨x.toNat, by omega, by omega⟩
  · exact .inl h

set_option maxHeartbeats 400000 in
theorem isBoard_any (A : Option Addr) (c : Nat) (L : List Int) (b : Int) (w : World) :
    Calls Try.prog 100 #[.slice A L.length c, .int .i64 b] w fun e w' => e = .returned (.bool (decide (0 ≤ b ∧ b < (L.length : Int)))) ∧ w = w' := by
  by_cases h1 : 0 ≤ b
  · by_cases h2 : b < (L.length : Int)
    · rw [decide_eq_true ⟨h1, h2⟩]
      go_enter Try.func100, Try.ntmps100
      go_wp2
      go_ret
      exact ⟨rfl, rfl⟩
    · rw [decide_eq_false (by omega)]
      go_enter Try.func100, Try.ntmps100
      go_wp2
      go_ret
      exact ⟨rfl, rfl⟩
  · rw [decide_eq_false (by omega)]
    go_enter Try.func100, Try.ntmps100
    go_wp2
    go_ret
    exact ⟨rfl, rfl⟩
theorem topsFn_any (a b : Int) (w : World) : Calls Try.prog 96 #[.int .i64 a, .int .i64 b] w fun e w' => e = .returned (.bool (higher a b)) ∧ w = w' := by
  unfold higher
  go_enter Try.func96, Try.ntmps96
  go_wp2
  go_ret
  exact ⟨rfl, rfl⟩
theorem hollowsFn_any (a b : Int) (w : World) : Calls Try.prog 97 #[.int .i64 a, .int .i64 b] w fun e w' => e = .returned (.bool (lower a b)) ∧ w = w' := by
  unfold lower
  go_enter Try.func97, Try.ntmps97
  go_wp2
  go_ret
  exact ⟨rfl, rfl⟩
set_option maxRecDepth 20000 in
set_option maxHeartbeats 4000000 in
theorem unlikeT_any (b1 b2 j : Nat) (A : Option Addr) (c : Nat) (L : List Int) (w : World) (hj : j < L.length) (hl : L.length ≤ 20) (k1 : w.cell? ⟨b1, 0, none⟩ = some (.slice A L.length c)) (k2 : w.cell? ⟨b2, 0, none⟩ = some (.func (.func 96) #[] #[])) (h : IntSl w A L) :
    Calls Try.prog 114 #[.int .i64 j, .pointer (some ⟨b1, 0, none⟩), .pointer (some ⟨b2, 0, none⟩)] w fun e w' => e = .returned (.bool (upB higher L j)) ∧ ∃ d, w' = w.drewN d := by
  have HIB := Lib.hid fun b W => isBoard_any A c L b W
  obtain ⟨g, off, rfl, hg, hat⟩ := h.some (by omega)
  have cj := hat j hj
  have HAT := Lib.hid hat
  have HNI := Lib.hid fun p (hp : p < L.length) => nbOk_in (R := higher) hj hp
  have HNO := Lib.hid fun (x : Int) hx => nbOk_out (R := higher) (L := L) (j := j) (x := x) hx
  have HU : Hid (upB higher L j = (nbOk higher L j ((j : Int) - 1) && nbOk higher L j ((j : Int) + 1))) := Lib.hid rfl
  obtain ⟨x, hx⟩ : ∃ x : Int, x = (j : Int) - 1 := ⟨_, rfl⟩
  obtain ⟨y, hy⟩ : ∃ y : Int, y = (j : Int) + 1 := ⟨_, rfl⟩
  rw [← hx, ← hy] at HU
  have wx : IntKind.i64.wrap ((j : Int) - 1) = x := by rw [hx, IntKind.wrap_i64]; omega
  have wy : IntKind.i64.wrap ((j : Int) + 1) = y := by rw [hy, IntKind.wrap_i64]; omega
  obtain ⟨v, hv⟩ : ∃ v, v = L[j] := ⟨_, rfl⟩
  rw [← hv] at cj HNI
  obtain ⟨u, hu⟩ : ∃ u, u = upB higher L j := ⟨_, rfl⟩
  rw [← hu] at HU ⊢
  have hi0 : ∀ W, (Instr.index 80 (.agg #[.int .i64 x, .int .i64 y]) (.int .i64 0)).run Try.prog W = .ok (.int .i64 x) W := fun W => by kernel_rfl
  have hi1 : ∀ W, (Instr.index 80 (.agg #[.int .i64 x, .int .i64 y]) (.int .i64 1)).run Try.prog W = .ok (.int .i64 y) W := fun W => by kernel_rfl
  have HXC := Lib.hid (nb_cases L.length x)
  have HYC := Lib.hid (nb_cases L.length y)
  clear hx hy hv hu h hat
  go_enter Try.func114, Try.ntmps114
  go_wp2
  go_loopw [12] (fun i wr => ∃ k d : Nat, k ≤ 2 ∧ i = .int .i64 k ∧ wr = w.drewN d ∧ Hid ((1 ≤ k → nbOk higher L j x = true) ∧ (2 ≤ k → nbOk higher L j y = true))) (fun i _ => 2 - (intOf i).toNat)
  case atStart => exact ⟨0, 0, by omega, rfl, rfl, Lib.hid ⟨fun h => by omega, fun h => by omega⟩⟩
  case round =>
    obtain ⟨k, d, hk, rfl, rfl, HK⟩ := hrel
    obtain rfl | rfl | rfl : k = 0 ∨ k = 1 ∨ k = 2 := by omega
    · rcases HXC.out with ho | ⟨p, hp, hpl⟩
      · have HN := Lib.hid (HNO.out _ ho)
        have hd : decide (0 ≤ x ∧ x < (L.length : Int)) = false := decide_eq_false ho
        have HI2 : Hid (∀ m, Calls Try.prog 100 #[.slice (some ⟨g, off, none⟩) L.length c, .int .i64 x] (w.drewN (d + m)) fun e w' => e = .returned (.bool false) ∧ ∃ q, w' = w.drewN (d + q)) := Lib.hid fun m => by rw [← hd]; exact (HIB.out x _).mono fun _ _ h => ⟨h.1, m, h.2.symm⟩
        clear ho hd
        go_wp2
        go_quiet (first | (go_at_call 100; with_reducible exact HI2.out _))
        go_wp2
        go_roundw
        case rel => exact ⟨1, _, by omega, by go_num, rfl, Lib.hid ⟨fun h => HN.out, fun h => (by omega)⟩⟩
        case measure => simp [intOf]
      · have cp := HAT.out p hpl
        have HN := Lib.hid (HNI.out p hpl)
        have HPL := Lib.hid hpl
        rw [← hp] at HN
        have hd : decide (0 ≤ (p : Int) ∧ (p : Int) < (L.length : Int)) = true := decide_eq_true (by omega)
        have HI2 : Hid (∀ m, Calls Try.prog 100 #[.slice (some ⟨g, off, none⟩) L.length c, .int .i64 (p : Int)] (w.drewN (d + m)) fun e w' => e = .returned (.bool true) ∧ ∃ q, w' = w.drewN (d + q)) := Lib.hid fun m => by rw [← hd]; exact (HIB.out (p : Int) _).mono fun _ _ h => ⟨h.1, m, h.2.symm⟩
        clear hd
        obtain ⟨t, ht⟩ : ∃ t : Int, t = L[p]'hpl := ⟨_, rfl⟩
        rw [← ht] at cp HN
        clear ht
        have HE := Lib.hid hp
        have hpi : (p : Int) < (L.length : Int) := by omega
        cases hr : higher v t
        · have HF : Hid (∀ m, Calls Try.prog 96 #[.int .i64 v, .int .i64 t] (w.drewN (d + m)) fun e w' => e = .returned (.bool false) ∧ ∃ q, w' = w.drewN (d + q)) := Lib.hid fun m => by rw [← hr]; exact (topsFn_any v t _).mono fun _ _ h => ⟨h.1, m, h.2.symm⟩
          have HQ : Hid (false = u) := Lib.hid (by rw [HU.out, HN.out, hr]; rfl)
          clear hr hpl
          clear HN HE HK
          subst hp
          go_wp2
          go_quiet (first
            | (go_at_call 100; with_reducible exact HI2.out _)
            | (go_at_call 96; with_reducible exact HF.out _))
          go_wp2
          go_ret
          exact ⟨ret_bool HQ.out, _, World.drewN_drewN _ _ _⟩
        · have HF : Hid (∀ m, Calls Try.prog 96 #[.int .i64 v, .int .i64 t] (w.drewN (d + m)) fun e w' => e = .returned (.bool true) ∧ ∃ q, w' = w.drewN (d + q)) := Lib.hid fun m => by rw [← hr]; exact (topsFn_any v t _).mono fun _ _ h => ⟨h.1, m, h.2.symm⟩
          have HQ : Hid (nbOk higher L j x = true) := Lib.hid (by rw [HN.out, hr])
          clear hr hpl
          clear HN HE
          subst hp
          go_wp2
          go_quiet (first
            | (go_at_call 100; with_reducible exact HI2.out _)
            | (go_at_call 96; with_reducible exact HF.out _))
          go_wp2
          go_roundw
          case rel => exact ⟨1, _, by omega, by go_num, rfl, Lib.hid ⟨fun h => HQ.out, fun h => (by omega)⟩⟩
          case measure => simp [intOf]
    · rcases HYC.out with ho | ⟨p, hp, hpl⟩
      · have HN := Lib.hid (HNO.out _ ho)
        have hd : decide (0 ≤ y ∧ y < (L.length : Int)) = false := decide_eq_false ho
        have HI2 : Hid (∀ m, Calls Try.prog 100 #[.slice (some ⟨g, off, none⟩) L.length c, .int .i64 y] (w.drewN (d + m)) fun e w' => e = .returned (.bool false) ∧ ∃ q, w' = w.drewN (d + q)) := Lib.hid fun m => by rw [← hd]; exact (HIB.out y _).mono fun _ _ h => ⟨h.1, m, h.2.symm⟩
        clear ho hd
        go_wp2
        go_quiet (first | (go_at_call 100; with_reducible exact HI2.out _))
        go_wp2
        go_roundw
        case rel => exact ⟨2, _, by omega, by go_num, rfl, Lib.hid ⟨fun h => HK.out.1 (by omega), fun h => HN.out⟩⟩
        case measure => simp [intOf]
      · have cp := HAT.out p hpl
        have HN := Lib.hid (HNI.out p hpl)
        have HPL := Lib.hid hpl
        rw [← hp] at HN
        have hd : decide (0 ≤ (p : Int) ∧ (p : Int) < (L.length : Int)) = true := decide_eq_true (by omega)
        have HI2 : Hid (∀ m, Calls Try.prog 100 #[.slice (some ⟨g, off, none⟩) L.length c, .int .i64 (p : Int)] (w.drewN (d + m)) fun e w' => e = .returned (.bool true) ∧ ∃ q, w' = w.drewN (d + q)) := Lib.hid fun m => by rw [← hd]; exact (HIB.out (p : Int) _).mono fun _ _ h => ⟨h.1, m, h.2.symm⟩
        clear hd
        obtain ⟨t, ht⟩ : ∃ t : Int, t = L[p]'hpl := ⟨_, rfl⟩
        rw [← ht] at cp HN
        clear ht
        have HE := Lib.hid hp
        have hpi : (p : Int) < (L.length : Int) := by omega
        cases hr : higher v t
        · have HF : Hid (∀ m, Calls Try.prog 96 #[.int .i64 v, .int .i64 t] (w.drewN (d + m)) fun e w' => e = .returned (.bool false) ∧ ∃ q, w' = w.drewN (d + q)) := Lib.hid fun m => by rw [← hr]; exact (topsFn_any v t _).mono fun _ _ h => ⟨h.1, m, h.2.symm⟩
          have HQ : Hid (false = u) := Lib.hid (by rw [HU.out, HN.out, hr]; rw [HK.out.1 (by omega)]; rfl)
          clear hr hpl
          clear HN HE HK
          subst hp
          go_wp2
          go_quiet (first
            | (go_at_call 100; with_reducible exact HI2.out _)
            | (go_at_call 96; with_reducible exact HF.out _))
          go_wp2
          go_ret
          exact ⟨ret_bool HQ.out, _, World.drewN_drewN _ _ _⟩
        · have HF : Hid (∀ m, Calls Try.prog 96 #[.int .i64 v, .int .i64 t] (w.drewN (d + m)) fun e w' => e = .returned (.bool true) ∧ ∃ q, w' = w.drewN (d + q)) := Lib.hid fun m => by rw [← hr]; exact (topsFn_any v t _).mono fun _ _ h => ⟨h.1, m, h.2.symm⟩
          have HQ : Hid (nbOk higher L j y = true) := Lib.hid (by rw [HN.out, hr])
          clear hr hpl
          clear HN HE
          subst hp
          go_wp2
          go_quiet (first
            | (go_at_call 100; with_reducible exact HI2.out _)
            | (go_at_call 96; with_reducible exact HF.out _))
          go_wp2
          go_roundw
          case rel => exact ⟨2, _, by omega, by go_num, rfl, Lib.hid ⟨fun h => HK.out.1 (by omega), fun h => HQ.out⟩⟩
          case measure => simp [intOf]
    · have HR : Hid (true = u) := Lib.hid (by rw [HU.out, HK.out.1 (by omega), HK.out.2 (by omega)]; rfl)
      go_wp2
      go_ret
      exact ⟨ret_bool HR.out, _, rfl⟩
set_option maxRecDepth 20000 in
set_option maxHeartbeats 4000000 in
theorem unlikeH_any (b1 b2 j : Nat) (A : Option Addr) (c : Nat) (L : List Int) (w : World) (hj : j < L.length) (hl : L.length ≤ 20) (k1 : w.cell? ⟨b1, 0, none⟩ = some (.slice A L.length c)) (k2 : w.cell? ⟨b2, 0, none⟩ = some (.func (.func 97) #[] #[])) (h : IntSl w A L) :
    Calls Try.prog 114 #[.int .i64 j, .pointer (some ⟨b1, 0, none⟩), .pointer (some ⟨b2, 0, none⟩)] w fun e w' => e = .returned (.bool (upB lower L j)) ∧ ∃ d, w' = w.drewN d := by
  have HIB := Lib.hid fun b W => isBoard_any A c L b W
  obtain ⟨g, off, rfl, hg, hat⟩ := h.some (by omega)
  have cj := hat j hj
  have HAT := Lib.hid hat
  have HNI := Lib.hid fun p (hp : p < L.length) => nbOk_in (R := lower) hj hp
  have HNO := Lib.hid fun (x : Int) hx => nbOk_out (R := lower) (L := L) (j := j) (x := x) hx
  have HU : Hid (upB lower L j = (nbOk lower L j ((j : Int) - 1) && nbOk lower L j ((j : Int) + 1))) := Lib.hid rfl
  obtain ⟨x, hx⟩ : ∃ x : Int, x = (j : Int) - 1 := ⟨_, rfl⟩
  obtain ⟨y, hy⟩ : ∃ y : Int, y = (j : Int) + 1 := ⟨_, rfl⟩
  rw [← hx, ← hy] at HU
  have wx : IntKind.i64.wrap ((j : Int) - 1) = x := by rw [hx, IntKind.wrap_i64]; omega
  have wy : IntKind.i64.wrap ((j : Int) + 1) = y := by rw [hy, IntKind.wrap_i64]; omega
  obtain ⟨v, hv⟩ : ∃ v, v = L[j] := ⟨_, rfl⟩
  rw [← hv] at cj HNI
  obtain ⟨u, hu⟩ : ∃ u, u = upB lower L j := ⟨_, rfl⟩
  rw [← hu] at HU ⊢
  have hi0 : ∀ W, (Instr.index 80 (.agg #[.int .i64 x, .int .i64 y]) (.int .i64 0)).run Try.prog W = .ok (.int .i64 x) W := fun W => by kernel_rfl
  have hi1 : ∀ W, (Instr.index 80 (.agg #[.int .i64 x, .int .i64 y]) (.int .i64 1)).run Try.prog W = .ok (.int .i64 y) W := fun W => by kernel_rfl
  have HXC := Lib.hid (nb_cases L.length x)
  have HYC := Lib.hid (nb_cases L.length y)
  clear hx hy hv hu h hat
  go_enter Try.func114, Try.ntmps114
  go_wp2
  go_loopw [12] (fun i wr => ∃ k d : Nat, k ≤ 2 ∧ i = .int .i64 k ∧ wr = w.drewN d ∧ Hid ((1 ≤ k → nbOk lower L j x = true) ∧ (2 ≤ k → nbOk lower L j y = true))) (fun i _ => 2 - (intOf i).toNat)
  case atStart => exact ⟨0, 0, by omega, rfl, rfl, Lib.hid ⟨fun h => by omega, fun h => by omega⟩⟩
  case round =>
    obtain ⟨k, d, hk, rfl, rfl, HK⟩ := hrel
    obtain rfl | rfl | rfl : k = 0 ∨ k = 1 ∨ k = 2 := by omega
    · rcases HXC.out with ho | ⟨p, hp, hpl⟩
      · have HN := Lib.hid (HNO.out _ ho)
        have hd : decide (0 ≤ x ∧ x < (L.length : Int)) = false := decide_eq_false ho
        have HI2 : Hid (∀ m, Calls Try.prog 100 #[.slice (some ⟨g, off, none⟩) L.length c, .int .i64 x] (w.drewN (d + m)) fun e w' => e = .returned (.bool false) ∧ ∃ q, w' = w.drewN (d + q)) := Lib.hid fun m => by rw [← hd]; exact (HIB.out x _).mono fun _ _ h => ⟨h.1, m, h.2.symm⟩
        clear ho hd
        go_wp2
        go_quiet (first | (go_at_call 100; with_reducible exact HI2.out _))
        go_wp2
        go_roundw
        case rel => exact ⟨1, _, by omega, by go_num, rfl, Lib.hid ⟨fun h => HN.out, fun h => (by omega)⟩⟩
        case measure => simp [intOf]
      · have cp := HAT.out p hpl
        have HN := Lib.hid (HNI.out p hpl)
        have HPL := Lib.hid hpl
        rw [← hp] at HN
        have hd : decide (0 ≤ (p : Int) ∧ (p : Int) < (L.length : Int)) = true := decide_eq_true (by omega)
        have HI2 : Hid (∀ m, Calls Try.prog 100 #[.slice (some ⟨g, off, none⟩) L.length c, .int .i64 (p : Int)] (w.drewN (d + m)) fun e w' => e = .returned (.bool true) ∧ ∃ q, w' = w.drewN (d + q)) := Lib.hid fun m => by rw [← hd]; exact (HIB.out (p : Int) _).mono fun _ _ h => ⟨h.1, m, h.2.symm⟩
        clear hd
        obtain ⟨t, ht⟩ : ∃ t : Int, t = L[p]'hpl := ⟨_, rfl⟩
        rw [← ht] at cp HN
        clear ht
        have HE := Lib.hid hp
        have hpi : (p : Int) < (L.length : Int) := by omega
        cases hr : lower v t
        · have HF : Hid (∀ m, Calls Try.prog 97 #[.int .i64 v, .int .i64 t] (w.drewN (d + m)) fun e w' => e = .returned (.bool false) ∧ ∃ q, w' = w.drewN (d + q)) := Lib.hid fun m => by rw [← hr]; exact (hollowsFn_any v t _).mono fun _ _ h => ⟨h.1, m, h.2.symm⟩
          have HQ : Hid (false = u) := Lib.hid (by rw [HU.out, HN.out, hr]; rfl)
          clear hr hpl
          clear HN HE HK
          subst hp
          go_wp2
          go_quiet (first
            | (go_at_call 100; with_reducible exact HI2.out _)
            | (go_at_call 97; with_reducible exact HF.out _))
          go_wp2
          go_ret
          exact ⟨ret_bool HQ.out, _, World.drewN_drewN _ _ _⟩
        · have HF : Hid (∀ m, Calls Try.prog 97 #[.int .i64 v, .int .i64 t] (w.drewN (d + m)) fun e w' => e = .returned (.bool true) ∧ ∃ q, w' = w.drewN (d + q)) := Lib.hid fun m => by rw [← hr]; exact (hollowsFn_any v t _).mono fun _ _ h => ⟨h.1, m, h.2.symm⟩
          have HQ : Hid (nbOk lower L j x = true) := Lib.hid (by rw [HN.out, hr])
          clear hr hpl
          clear HN HE
          subst hp
          go_wp2
          go_quiet (first
            | (go_at_call 100; with_reducible exact HI2.out _)
            | (go_at_call 97; with_reducible exact HF.out _))
          go_wp2
          go_roundw
          case rel => exact ⟨1, _, by omega, by go_num, rfl, Lib.hid ⟨fun h => HQ.out, fun h => (by omega)⟩⟩
          case measure => simp [intOf]
    · rcases HYC.out with ho | ⟨p, hp, hpl⟩
      · have HN := Lib.hid (HNO.out _ ho)
        have hd : decide (0 ≤ y ∧ y < (L.length : Int)) = false := decide_eq_false ho
        have HI2 : Hid (∀ m, Calls Try.prog 100 #[.slice (some ⟨g, off, none⟩) L.length c, .int .i64 y] (w.drewN (d + m)) fun e w' => e = .returned (.bool false) ∧ ∃ q, w' = w.drewN (d + q)) := Lib.hid fun m => by rw [← hd]; exact (HIB.out y _).mono fun _ _ h => ⟨h.1, m, h.2.symm⟩
        clear ho hd
        go_wp2
        go_quiet (first | (go_at_call 100; with_reducible exact HI2.out _))
        go_wp2
        go_roundw
        case rel => exact ⟨2, _, by omega, by go_num, rfl, Lib.hid ⟨fun h => HK.out.1 (by omega), fun h => HN.out⟩⟩
        case measure => simp [intOf]
      · have cp := HAT.out p hpl
        have HN := Lib.hid (HNI.out p hpl)
        have HPL := Lib.hid hpl
        rw [← hp] at HN
        have hd : decide (0 ≤ (p : Int) ∧ (p : Int) < (L.length : Int)) = true := decide_eq_true (by omega)
        have HI2 : Hid (∀ m, Calls Try.prog 100 #[.slice (some ⟨g, off, none⟩) L.length c, .int .i64 (p : Int)] (w.drewN (d + m)) fun e w' => e = .returned (.bool true) ∧ ∃ q, w' = w.drewN (d + q)) := Lib.hid fun m => by rw [← hd]; exact (HIB.out (p : Int) _).mono fun _ _ h => ⟨h.1, m, h.2.symm⟩
        clear hd
        obtain ⟨t, ht⟩ : ∃ t : Int, t = L[p]'hpl := ⟨_, rfl⟩
        rw [← ht] at cp HN
        clear ht
        have HE := Lib.hid hp
        have hpi : (p : Int) < (L.length : Int) := by omega
        cases hr : lower v t
        · have HF : Hid (∀ m, Calls Try.prog 97 #[.int .i64 v, .int .i64 t] (w.drewN (d + m)) fun e w' => e = .returned (.bool false) ∧ ∃ q, w' = w.drewN (d + q)) := Lib.hid fun m => by rw [← hr]; exact (hollowsFn_any v t _).mono fun _ _ h => ⟨h.1, m, h.2.symm⟩
          have HQ : Hid (false = u) := Lib.hid (by rw [HU.out, HN.out, hr]; rw [HK.out.1 (by omega)]; rfl)
          clear hr hpl
          clear HN HE HK
          subst hp
          go_wp2
          go_quiet (first
            | (go_at_call 100; with_reducible exact HI2.out _)
            | (go_at_call 97; with_reducible exact HF.out _))
          go_wp2
          go_ret
          exact ⟨ret_bool HQ.out, _, World.drewN_drewN _ _ _⟩
        · have HF : Hid (∀ m, Calls Try.prog 97 #[.int .i64 v, .int .i64 t] (w.drewN (d + m)) fun e w' => e = .returned (.bool true) ∧ ∃ q, w' = w.drewN (d + q)) := Lib.hid fun m => by rw [← hr]; exact (hollowsFn_any v t _).mono fun _ _ h => ⟨h.1, m, h.2.symm⟩
          have HQ : Hid (nbOk lower L j y = true) := Lib.hid (by rw [HN.out, hr])
          clear hr hpl
          clear HN HE
          subst hp
          go_wp2
          go_quiet (first
            | (go_at_call 100; with_reducible exact HI2.out _)
            | (go_at_call 97; with_reducible exact HF.out _))
          go_wp2
          go_roundw
          case rel => exact ⟨2, _, by omega, by go_num, rfl, Lib.hid ⟨fun h => HK.out.1 (by omega), fun h => HQ.out⟩⟩
          case measure => simp [intOf]
    · have HR : Hid (true = u) := Lib.hid (by rw [HU.out, HK.out.1 (by omega), HK.out.2 (by omega)]; rfl)
      go_wp2
      go_ret
      exact ⟨ret_bool HR.out, _, rfl⟩
end Go.Proofs.Ytnnhkogmppheeaa
