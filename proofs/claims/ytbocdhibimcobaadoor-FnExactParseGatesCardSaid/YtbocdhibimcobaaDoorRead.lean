/- How the model reads a number: 'spec.l1Read'. No condition but the text's length. -/
import Derived.Test.YtbocdhibimcobaaDoorNum
import Derived.Test.YtbocdhibimcobaaDoorNums
namespace Go.Proofs.YtbocdhibimcobaaDoor
open Go.RowKit

def digB (c : UInt8) : Bool := decide (48 ≤ (c.toNat : Int) ∧ (c.toNat : Int) ≤ 57)
def valL (l : List UInt8) : Int := l.foldl (fun a c => 10 * a + ((c.toNat : Int) - 48)) 0
def readL (l : List UInt8) : Int := if (1 ≤ l.length ∧ l.length ≤ 6) ∧ ¬ (l.head? = some 48 ∧ 1 < l.length) ∧ l.all digB = true then valL l else -1
theorem val_snoc (l : List UInt8) (c : UInt8) : valL (l ++ [c]) = 10 * valL l + ((c.toNat : Int) - 48) := by simp [valL]
theorem val_succ {s : ByteArray} {k : Nat} (h : k < s.size) : valL (s.data.toList.take (k + 1)) = 10 * valL (s.data.toList.take k) + ((s[k].toNat : Int) - 48) := by
  rw [List.take_succ_eq_append_getElem (by simpa using h), val_snoc]; simp; rfl
theorem dig_succ {s : ByteArray} {k : Nat} (h : k < s.size) (h1 : (s.data.toList.take k).all digB = true) (h2 : digB s[k] = true) : (s.data.toList.take (k + 1)).all digB = true := by
  have e : (s.data.toList.take (k + 1)).all digB = ((s.data.toList.take k).all digB && digB s[k]) := by
    rw [List.take_succ_eq_append_getElem (by simpa using h), List.all_append]; simp; rfl
  rw [e, h1, h2]; rfl
theorem dig_of {c : UInt8} (h : digB c = true) : 48 ≤ (c.toNat : Int) ∧ (c.toNat : Int) ≤ 57 := by unfold digB at h; exact of_decide_eq_true h
theorem val_bd {s : ByteArray} (k : Nat) (hk : k ≤ s.size) (h : (s.data.toList.take k).all digB = true) : 0 ≤ valL (s.data.toList.take k) ∧ valL (s.data.toList.take k) + 1 ≤ ((10 ^ k : Nat) : Int) := by
  induction k with
  | zero => simp [valL]
  | succ k ih =>
    have e : (s.data.toList.take (k + 1)).all digB = ((s.data.toList.take k).all digB && digB s[k]) := by
      rw [List.take_succ_eq_append_getElem (by simp; omega), List.all_append]; simp; rfl
    rw [e, Bool.and_eq_true] at h
    obtain ⟨i1, i2⟩ := ih (by omega) h.1
    obtain ⟨d1, d2⟩ := dig_of h.2
    rw [val_succ (by omega)]
    have hp : ((10 ^ (k + 1) : Nat) : Int) = 10 * ((10 ^ k : Nat) : Int) := by rw [Nat.pow_succ]; push_cast; omega
    rw [hp]
    omega
theorem val_le {s : ByteArray} (k : Nat) (hk : k ≤ s.size) (h6 : k ≤ 6) (h : (s.data.toList.take k).all digB = true) : 0 ≤ valL (s.data.toList.take k) ∧ valL (s.data.toList.take k) ≤ 999999 := by
  obtain ⟨a, b⟩ := val_bd k hk h
  have : (10 ^ k : Nat) ≤ 10 ^ 6 := Nat.pow_le_pow_right (by decide) h6
  omega
theorem read_long {s : ByteArray} (h : ¬ (1 ≤ s.size ∧ s.size ≤ 6)) : readL s.data.toList = -1 := by
  unfold readL
  rw [if_neg]
  intro hh
  exact h (by have := hh.1; simpa using this)
theorem head_of {s : ByteArray} (h : 0 < s.size) : s.data.toList.head? = some s[0] := by
  rw [List.head?_eq_getElem?, List.getElem?_eq_getElem (by simpa using h)]; simp; rfl
theorem read_zero {s : ByteArray} (h0 : 0 < s.size) (h : s[0] = 48) (h1 : 1 < s.size) : readL s.data.toList = -1 := by
  unfold readL
  rw [if_neg]
  intro hh
  exact hh.2.1 ⟨by rw [head_of h0, h], by simpa using h1⟩
theorem read_bad {s : ByteArray} {k : Nat} (h : k < s.size) (h2 : digB s[k] = false) : readL s.data.toList = -1 := by
  unfold readL
  rw [if_neg]
  intro hh
  have := List.all_eq_true.1 hh.2.2 s[k] (by show s.data[k] ∈ s.data.toList; simp)
  rw [h2] at this
  cases this
theorem read_ok {s : ByteArray} (h : 1 ≤ s.size ∧ s.size ≤ 6) (h0 : 0 < s.size) (hz : ¬ (s[0] = 48 ∧ 1 < s.size)) (hd : (s.data.toList.take s.size).all digB = true) : readL s.data.toList = valL (s.data.toList.take s.size) := by
  have e : s.data.toList.take s.size = s.data.toList := List.take_of_length_le (by simp)
  rw [e] at hd ⊢
  unfold readL
  rw [if_pos]
  refine ⟨by simpa using h, ?_, hd⟩
  rw [head_of h0]
  intro hh
  exact hz ⟨Option.some.inj hh.1, by simpa using hh.2⟩

set_option maxRecDepth 100000 in
set_option maxHeartbeats 1000000 in
/-- the reading behind the tests -/
theorem read_any (s : ByteArray) (w : World) (hs : s.size ≤ maxLen) :
    Calls Tryd.prog 36 #[.string s] w fun e w' => e = .returned (.int .i64 (readL s.data.toList)) ∧ Below w.heap.size w w' := by
  unfold maxLen at hs
  by_cases h1 : 1 ≤ s.size ∧ s.size ≤ 6
  · have hp : 0 < s.size := by omega
    have HC := Lib.hid fun W => l1In_t (s.size : Int) 1 6 W (by omega)
    by_cases hz : s[0] = 48 ∧ 1 < s.size
    · have HR := Lib.hid (read_zero hp hz.1 hz.2)
      have c1 : (s[0].toNat : Int) = 48 := by rw [hz.1]; rfl
      have c2 := hz.2
      have c3 : (1 : Int) < (s.size : Int) := by omega
      clear hz
      go_enter Tryd.func36, Tryd.ntmps36
      go_wp2_with (go_at_call 55; refine (HC.out _).mono ?_; rintro e w' ⟨rfl, rfl⟩)
      go_ret
      exact ⟨ret_int HR.out.symm, Below.refl _ _⟩
    · have hcase : ((s[0].toNat : Int) = 48 ∧ s.size = 1) ∨ ¬ (s[0].toNat : Int) = 48 := by
        by_cases h : s[0] = 48
        · exact .inl ⟨by rw [h]; rfl, by have : ¬ 1 < s.size := fun x => hz ⟨h, x⟩; omega⟩
        · refine .inr fun h' => h ?_
          apply UInt8.toNat.inj
          have : s[0].toNat = 48 := by omega
          rw [this]; rfl
      have HOK := Lib.hid fun hd => read_ok h1 hp hz hd
      have HB := Lib.hid fun k hk h => @val_le s k hk (by omega) h
      clear hz
      obtain ⟨b0, b1⟩ := h1
      rcases hcase with ⟨c1, c2⟩ | c1
      all_goals
        first
          | (have c3 : ¬ (1 : Int) < (s.size : Int) := by omega
             have c4 : (s.size : Int) ≤ 1 := by omega
             clear c2)
          | (have c4 : ((s[0].toNat : Int) == 48) = false := by rw [beq_eq_false_iff_ne]; exact c1)
        go_enter Tryd.func36, Tryd.ntmps36
        go_wp2_with (go_at_call 55; refine (HC.out _).mono ?_; rintro e w' ⟨rfl, rfl⟩)
        go_loop [3, 4] (fun n i => ∃ k : Nat, k ≤ s.size ∧ i = .int .i64 k ∧ n = .int .i64 (valL (s.data.toList.take k)) ∧ (s.data.toList.take k).all digB = true) (fun _ i => s.size - (intOf i).toNat)
        case atStart => exact ⟨0, Nat.zero_le _, rfl, rfl, rfl⟩
        case round =>
          obtain ⟨k, hk, rfl, rfl, hall⟩ := hrel
          have H := Lib.hid hall
          clear hall
          by_cases hlt : k < s.size
          · by_cases hok : digB s[k] = true
            · obtain ⟨d1, d2⟩ := dig_of hok
              have H2 := Lib.hid (dig_succ hlt H.out hok)
              have HV := Lib.hid (val_succ hlt)
              obtain ⟨v0, v1⟩ := HB.out k hk H.out
              obtain ⟨x0, x1⟩ := HB.out (k + 1) hlt H2.out
              rw [HV.out] at x0 x1
              obtain ⟨v, hv⟩ : ∃ v, v = valL (s.data.toList.take k) := ⟨_, rfl⟩
              rw [← hv] at v0 v1 x0 x1 HV ⊢
              have HQ : Hid (valL (s.data.toList.take (k + 1)) = 10 * v + ((s[k].toNat : Int) - 48)) := Lib.hid HV.out
              have z1 : IntKind.u8.wrap ((s[k].toNat : Int) - 48) = (s[k].toNat : Int) - 48 := by rw [IntKind.wrap_u8]; omega
              clear hok hv HV
              go_wp2
              go_round
              case rel => exact ⟨k + 1, by omega, by go_num, by rw [HQ.out], H2.out⟩
              case measure => simp [intOf]; omega
            · have hok' : digB s[k] = false := by simpa using hok
              have HR := Lib.hid (read_bad hlt hok')
              have hc : (s[k].toNat : Int) < 48 ∨ 48 ≤ (s[k].toNat : Int) ∧ 57 < (s[k].toNat : Int) := by
                unfold digB at hok'
                have := of_decide_eq_false hok'
                omega
              clear hok hok'
              rcases hc with hd | ⟨hd1, hd2⟩
              all_goals
                go_wp2
                go_ret
                exact ⟨ret_int HR.out.symm, Below.refl _ _⟩
          · obtain rfl : k = s.size := by omega
            have HR := Lib.hid (HOK.out H.out)
            go_wp2
            go_ret
            exact ⟨ret_int HR.out.symm, Below.refl _ _⟩
  · have HR := Lib.hid (read_long h1)
    have HC := Lib.hid fun W => l1In_f (s.size : Int) 1 6 W (by omega)
    clear h1
    go_enter Tryd.func36, Tryd.ntmps36
    go_wp2_with (go_at_call 55; refine (HC.out _).mono ?_; rintro e w' ⟨rfl, rfl⟩)
    go_ret
    exact ⟨ret_int HR.out.symm, Below.refl _ _⟩
end Go.Proofs.YtbocdhibimcobaaDoor
