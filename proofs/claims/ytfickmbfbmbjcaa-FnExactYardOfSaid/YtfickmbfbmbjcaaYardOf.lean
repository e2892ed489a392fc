/- YardOf of both sides. No condition but the list's length. -/
import Derived.Test.YtfickmbfbmbjcaaInc
import Derived.Test.YtfickmbfbmbjcaaMend
namespace Go.Proofs.Ytfickmbfbmbjcaa
open Go.RowKit

/-- the yard of so many boards whose broken ones are told -/
def yByte (L : List Int) (k : Nat) : UInt8 := if (k : Int) ∈ L then 120 else 111
def yardS (L : List Int) (n : Nat) : ByteArray := ⟨((List.range n).map (yByte L)).toArray⟩
theorem yardS_list (L : List Int) (n : Nat) : (yardS L n).data.toList = (List.range n).map (yByte L) := by simp [yardS]
theorem yardS_size (L : List Int) (n : Nat) : (yardS L n).size = n := by
  show ((List.range n).map (yByte L)).toArray.size = n
  simp
theorem yardS_x {L : List Int} {n : Nat} (h : (n : Int) ∈ L) : yardS L n ++ ⟨#[120]⟩ = yardS L (n + 1) := by
  apply bytes_ext; rw [append_list, yardS_list, yardS_list, List.range_succ, List.map_append]
  simp [yByte, h]
theorem yardS_o {L : List Int} {n : Nat} (h : ¬ (n : Int) ∈ L) : yardS L n ++ ⟨#[111]⟩ = yardS L (n + 1) := by
  apply bytes_ext; rw [append_list, yardS_list, yardS_list, List.range_succ, List.map_append]
  simp [yByte, h]
theorem yardS_nil (n : Nat) : repO n = yardS [] n := by
  apply bytes_ext; rw [repO_list, yardS_list]
  apply List.ext_getElem?
  intro i
  by_cases h : i < n
  · simp [List.getElem?_replicate, h, yByte]
  · simp [List.getElem?_replicate, h]
theorem brkS_list (s : ByteArray) (k : Nat) (h : k < s.size) : (brkS s k).data.toList = s.data.toList.set k 120 := by
  have e1 : (s.extract 0 k).data.toList = s.data.toList.take k := by simp [ByteArray.data_extract]
  have e2 : (s.extract (k + 1) s.size).data.toList = s.data.toList.drop (k + 1) := by
    rw [ByteArray.data_extract]
    simp [List.take_of_length_le]
  unfold brkS
  rw [append_list, append_list, e1, e2, List.set_eq_take_append_cons_drop, if_pos (by simpa using h)]
  simp
theorem yardS_brk {L : List Int} {n k : Nat} (h : k < n) : brkS (yardS L n) k = yardS (L ++ [(k : Int)]) n := by
  apply bytes_ext
  rw [brkS_list _ _ (by rw [yardS_size]; exact h), yardS_list, yardS_list]
  apply List.ext_getElem?
  intro i
  rw [List.getElem?_set]
  by_cases hi : k = i
  · subst hi
    simp [yByte, h]
  · have : ¬ (i : Int) = (k : Int) := by omega
    rw [if_neg hi, List.getElem?_map, List.getElem?_map]
    by_cases h2 : i < n
    · simp [h2, yByte, this]
    · simp [h2]
theorem incF_mem {n : Int} : ∀ (L : List Int) (lo : Int), incF n lo L = true → ∀ x ∈ L, lo ≤ x ∧ x < n
  | [], _, _, x, hx => absurd hx (by simp)
  | y :: L, lo, h, x, hx => by
    unfold incF at h
    rw [Bool.and_eq_true, decide_eq_true_iff] at h
    rcases List.mem_cons.1 hx with rfl | hx
    · exact h.1
    · have := incF_mem L (y + 1) h.2 x hx
      omega
theorem incF_len {n : Int} : ∀ (L : List Int) (lo : Int), incF n lo L = true → lo ≤ n → (L.length : Int) ≤ n - lo
  | [], lo, _, h => by simp; omega
  | y :: L, lo, h, hl => by
    unfold incF at h
    rw [Bool.and_eq_true, decide_eq_true_iff] at h
    have := incF_len L (y + 1) h.2 (by omega)
    rw [List.length_cons]; omega
def okYo (n : Int) (L : List Int) : Bool := decide (1 ≤ n ∧ n ≤ 30) && incF n 0 L
def yardR (n : Int) (L : List Int) : ByteArray := if okYo n L = true then yardS L n.toNat else ⟨#[]⟩
theorem yardR_no {n : Int} {L : List Int} (h : okYo n L = false) : yardR n L = ⟨#[]⟩ := by unfold yardR; rw [h]; rfl
theorem okYo_at {n : Int} {L : List Int} (h : okYo n L = true) : (1 ≤ n ∧ n ≤ 30) ∧ incF n 0 L = true := by
  unfold okYo at h
  rw [Bool.and_eq_true, decide_eq_true_iff] at h
  exact h

set_option maxHeartbeats 2000000 in
theorem specYardOf_any (a0 : Int) (A1 : Option Addr) (c1 : Nat) (L1 : List Int) (w : World) (_ : (Lit.int .i64 a0).wf = true) (l1 : L1.length ≤ 1048576) (_ : WfL L1) (_ : L1.length ≤ c1) (h1 : IntSl w A1 L1) :
    Calls Try.prog 30 #[.int .i64 a0, .slice A1 L1.length c1] w fun e w' => e = .returned (.tuple #[.string (yardR a0 L1), .bool (okYo a0 L1)]) ∧ Below w.heap.size w w' := by
  have HI := Lib.hid fun W => l1In_any a0 1 30 W
  by_cases hn : 1 ≤ a0 ∧ a0 ≤ 30
  · rw [decide_eq_true hn] at HI
    have HR := Lib.hid (l1Rising_any A1 c1 L1 (a0 - 1) w l1 (by omega) h1)
    rw [show a0 - 1 + 1 = a0 by omega] at HR
    cases hk : incF a0 0 L1
    · have hok : okYo a0 L1 = false := by unfold okYo; rw [hk, Bool.and_false]
      rw [yardR_no hok, hok]
      rw [hk] at HR
      clear hk hok h1
      go_enter Try.func30, Try.ntmps30
      go_wp2_with (first
        | (go_at_call 75; refine (HI.out _).mono ?_; rintro e w' ⟨rfl, rfl⟩)
        | (go_at_call 76; refine HR.out.mono ?_; rintro e w' ⟨rfl, rfl⟩))
      go_ret2
      exact ⟨rfl, Below.refl _ _⟩
    · have hok : okYo a0 L1 = true := by unfold okYo; rw [hk, decide_eq_true hn]; rfl
      rw [show yardR a0 L1 = yardS L1 a0.toNat by unfold yardR; rw [hok]; rfl, hok]
      rw [hk] at HR
      obtain ⟨n, rfl⟩ : ∃ n : Nat, a0 = n := ⟨a0.toNat, by omega⟩
      rw [Int.toNat_natCast]
      have HH := Lib.hid fun (k : Nat) => l1Has_any A1 c1 L1 (k : Int) w l1 h1
      clear hk hok h1
      go_enter Try.func30, Try.ntmps30
      go_wp2_with (first
        | (go_at_call 75; refine (HI.out _).mono ?_; rintro e w' ⟨rfl, rfl⟩)
        | (go_at_call 76; refine HR.out.mono ?_; rintro e w' ⟨rfl, rfl⟩))
      go_loop [6, 7] (fun o i => ∃ k : Nat, k ≤ n ∧ i = .int .i64 k ∧ o = .string (yardS L1 k)) (fun _ i => n - (intOf i).toNat)
      case atStart => exact ⟨0, Nat.zero_le _, rfl, rfl⟩
      case round =>
        obtain ⟨k, hk, rfl, rfl⟩ := hrel
        have hsz : (yardS L1 k).size ≤ 30 := by rw [yardS_size]; omega
        by_cases hlt : k < n
        · by_cases hm : (k : Int) ∈ L1
          · have HC := Lib.hid (HH.out k)
            rw [decide_eq_true hm] at HC
            have HN := Lib.hid (yardS_x hm)
            clear hm
            go_wp2_with (go_at_call 77; refine HC.out.mono ?_; rintro e w' ⟨rfl, rfl⟩)
            go_round
            case rel => exact ⟨k + 1, by omega, by go_num, by rw [HN.out]⟩
            case measure => simp [intOf]; omega
          · have HC := Lib.hid (HH.out k)
            rw [decide_eq_false hm] at HC
            have HN := Lib.hid (yardS_o hm)
            clear hm
            go_wp2_with (go_at_call 77; refine HC.out.mono ?_; rintro e w' ⟨rfl, rfl⟩)
            go_round
            case rel => exact ⟨k + 1, by omega, by go_num, by rw [HN.out]⟩
            case measure => simp [intOf]; omega
        · obtain rfl : k = n := by omega
          go_wp2
          go_ret2
          exact ⟨rfl, Below.refl _ _⟩
  · have hok : okYo a0 L1 = false := by unfold okYo; rw [decide_eq_false hn]; rfl
    rw [yardR_no hok, hok]
    rw [decide_eq_false hn] at HI
    clear hok hn h1
    go_enter Try.func30, Try.ntmps30
    go_wp2_with (go_at_call 75; refine (HI.out _).mono ?_; rintro e w' ⟨rfl, rfl⟩)
    go_ret2
    exact ⟨rfl, Below.refl _ _⟩

set_option maxHeartbeats 2000000 in
theorem implYardOf_any (a0 : Int) (A1 : Option Addr) (c1 : Nat) (L1 : List Int) (w : World) (_ : (Lit.int .i64 a0).wf = true) (l1 : L1.length ≤ 1048576) (_ : WfL L1) (_ : L1.length ≤ c1) (h1 : IntSl w A1 L1) :
    Calls Try.prog 32 #[.int .i64 a0, .slice A1 L1.length c1] w fun e w' => e = .returned (.tuple #[.string (yardR a0 L1), .bool (okYo a0 L1)]) ∧ Below w.heap.size w w' := by
  have HI := Lib.hid fun W => isYardLength_any a0 W
  by_cases hn : 1 ≤ a0 ∧ a0 ≤ 30
  · rw [decide_eq_true hn] at HI
    have HR := Lib.hid (areIncreasing_any A1 c1 L1 a0 w l1 (by omega) h1)
    cases hk : incF a0 0 L1
    · have hok : okYo a0 L1 = false := by unfold okYo; rw [hk, Bool.and_false]
      rw [yardR_no hok, hok]
      rw [hk] at HR
      clear hk hok h1
      go_enter Try.func32, Try.ntmps32
      go_wp2_with (first
        | (go_at_call 73; refine (HI.out _).mono ?_; rintro e w' ⟨rfl, rfl⟩)
        | (go_at_call 78; refine HR.out.mono ?_; rintro e w' ⟨rfl, rfl⟩))
      go_ret2
      exact ⟨rfl, Below.refl _ _⟩
    · have hok : okYo a0 L1 = true := by unfold okYo; rw [hk, decide_eq_true hn]; rfl
      rw [show yardR a0 L1 = yardS L1 a0.toNat by unfold yardR; rw [hok]; rfl, hok]
      rw [hk] at HR
      obtain ⟨n, rfl⟩ : ∃ n : Nat, a0 = n := ⟨a0.toNat, by omega⟩
      rw [Int.toNat_natCast]
      have HM := Lib.hid (incF_mem L1 0 hk)
      have hL : (L1.length : Int) ≤ 30 := by have := incF_len L1 0 hk (by omega); omega
      have HX : Hid (∀ W, Calls Try.prog 79 #[.string ⟨#[111]⟩, .int .i64 n] W fun e w' => e = .returned (.string (yardS [] n)) ∧ Below W.heap.size W w') := Lib.hid fun W => by
        have h := Try.strings_Repeat ⟨#[111]⟩ n W (by omega) (by show 1 * n ≤ _; omega)
        rw [show (⟨(Lib.repeatL ((⟨#[111]⟩ : ByteArray).data.toList) n).toArray⟩ : ByteArray) = repO n by unfold repO; rw [← repeat_o], yardS_nil] at h
        exact h
      have HW := Lib.hid fun (M : List Int) (k : Nat) (W : World) (hk : k < n) => withBroken_any (yardS M n) k W (by rw [yardS_size]; exact hk) (by rw [yardS_size]; omega)
      have hsl := h1
      clear hk hok h1
      go_enter Try.func32, Try.ntmps32
      go_wp2_with (first
        | (go_at_call 73; refine (HI.out _).mono ?_; rintro e w' ⟨rfl, rfl⟩)
        | (go_at_call 78; refine HR.out.mono ?_; rintro e w' ⟨rfl, rfl⟩)
        | (go_at_call 79; refine (HX.out _).mono ?_; rintro e w1 ⟨rfl, hb1⟩))
      go_loopw [6, 22] (fun o i wr => ∃ j : Nat, j ≤ L1.length ∧ i = .int .i64 j ∧ o = .string (yardS (L1.take j) n) ∧ Below w.heap.size w wr) (fun _ i _ => L1.length - (intOf i).toNat)
      case atStart => exact ⟨0, Nat.zero_le _, rfl, rfl, hb1⟩
      case round =>
        obtain ⟨j, hj, rfl, rfl, hb⟩ := hrel
        by_cases hlt : j < L1.length
        · obtain ⟨g, off, rfl, hg, hat⟩ := hsl.some (by omega)
          have k1 := hat j hlt
          rw [← (bcell hb).1 g (off + j) hg] at k1
          have hx := HM.out L1[j] (List.getElem_mem _)
          have HT := Lib.hid (List.take_succ_eq_append_getElem hlt)
          obtain ⟨x, hxx⟩ : ∃ x, x = L1[j] := ⟨_, rfl⟩
          rw [← hxx] at k1 hx HT
          obtain ⟨k, rfl⟩ : ∃ k : Nat, x = k := ⟨x.toNat, by omega⟩
          have hkn : k < n := by omega
          have HC := Lib.hid fun W => HW.out (L1.take j) k W hkn
          have HN : Hid (brkS (yardS (L1.take j) n) k = yardS (L1.take (j + 1)) n) := Lib.hid (by rw [yardS_brk hkn, HT.out])
          clear hat hxx hsl
          go_wp2_with (go_at_call 80; refine (HC.out _).mono ?_; rintro e w2 ⟨rfl, d, rfl⟩)
          go_roundw
          case rel => exact ⟨j + 1, by omega, by go_num, by rw [HN.out], below_drewN hb _⟩
          case measure => simp [intOf]; omega
        · obtain rfl : j = L1.length := by omega
          rw [List.take_length]
          clear hsl
          go_wp2
          go_ret2
          exact ⟨rfl, hb⟩
  · have hok : okYo a0 L1 = false := by unfold okYo; rw [decide_eq_false hn]; rfl
    rw [yardR_no hok, hok]
    rw [decide_eq_false hn] at HI
    clear hok hn h1
    go_enter Try.func32, Try.ntmps32
    go_wp2_with (go_at_call 73; refine (HI.out _).mono ?_; rintro e w' ⟨rfl, rfl⟩)
    go_ret2
    exact ⟨rfl, Below.refl _ _⟩
end Go.Proofs.Ytfickmbfbmbjcaa
