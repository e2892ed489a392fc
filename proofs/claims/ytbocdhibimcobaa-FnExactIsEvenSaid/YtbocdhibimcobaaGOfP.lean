/- GatesOfParts of both sides. No condition but the list's length. -/
import Derived.Test.YtbocdhibimcobaaEvenG
import Derived.Test.YtbocdhibimcobaaShSum
namespace Go.Proofs.Ytbocdhibimcobaa
open Go.RowKit

/-- the first j sums -/
def sumsJ (L : List Int) (j : Nat) : List Int := (List.range j).map fun k => (L.take (k + 1)).sum
theorem sumsJ_len (L : List Int) (j : Nat) : (sumsJ L j).length = j := by simp [sumsJ]
theorem sumsJ_succ (L : List Int) (j : Nat) : sumsJ L (j + 1) = sumsJ L j ++ [(L.take (j + 1)).sum] := by unfold sumsJ; rw [List.range_succ, List.map_append]; rfl
theorem sumsJ_at (L : List Int) (m j : Nat) (h : j < m) : ((sumsJ L m).map (Value.int .i64))[j]? = some (.int .i64 (L.take (j + 1)).sum) := by
  unfold sumsJ; rw [List.map_map, List.getElem?_map, List.getElem?_range h]; rfl
def okGp (L : List Int) : Bool := okNums 11 40 L && okRow L.sum
def gopL (L : List Int) : List Int := if okGp L = true then sumsJ L (L.length - 1) else []
theorem okGp_at {L : List Int} (h : okGp L = true) : okNums 11 40 L = true ∧ okRow L.sum = true := by
  unfold okGp at h
  rwa [Bool.and_eq_true] at h
theorem gopL_no {L : List Int} (h : okGp L = false) : gopL L = [] := by unfold gopL; rw [h]; rfl
theorem gopL_yes {L : List Int} (h : okGp L = true) : gopL L = sumsJ L (L.length - 1) := by unfold gopL; rw [h]; rfl
theorem gopL_len (L : List Int) : (gopL L).length ≤ 1048576 := by
  unfold gopL
  split
  · next h => have := okNums_len (okGp_at h).1; rw [sumsJ_len]; omega
  · exact Nat.zero_le _
theorem okGp_no {L : List Int} (h : okNums 11 40 L = false) : okGp L = false := by unfold okGp; rw [h]; rfl
theorem okGp_of {L : List Int} (h : okNums 11 40 L = true) : okGp L = okRow L.sum := by unfold okGp; rw [h]; rfl
theorem okNums_bd {L : List Int} (h : okNums 11 40 L = true) : ∀ x ∈ L, 0 ≤ x ∧ x ≤ 40 := fun x hx => by
  have := allIn_mem (okNums_all h) hx
  omega

set_option maxRecDepth 20000 in
set_option maxHeartbeats 4000000 in
theorem implGatesOfParts_any (A0 : Option Addr) (c0 : Nat) (L0 : List Int) (w : World) (l0 : L0.length ≤ 1048576) (_ : WfL L0) (q0 : L0.length ≤ c0) (h0 : IntSl w A0 L0) :
    Calls Try.prog 27 #[.slice A0 L0.length c0] w fun e w' => ∃ v, e = .returned (.tuple #[v, .bool (okGp L0)]) ∧ OwnInts w' w.heap.size 3 v (gopL L0) ∧ Below w.heap.size w w' := by
  obtain ⟨i0, hi, hz0, hz1, hz2⟩ := info_parts info_int
  have HA := Lib.hid (areNumbers_any A0 c0 L0 11 40 w l0 h0)
  cases hk : okNums 11 40 L0
  · have hg := okGp_no hk
    rw [gopL_no hg, hg]
    rw [hk] at HA
    clear hk hg h0
    go_enter Try.func27, Try.ntmps27
    go_wp2_with fail
    refine HA.out.mono ?_
    rintro e w1 ⟨rfl, rfl⟩
    go_wp2
    go_ret2
    exact ⟨_, rfl, OwnInts.nil _ _ _, Below.refl _ _⟩
  · have hl := okNums_len hk
    have HS := Lib.hid (sumOf_any A0 c0 L0 40 w l0 (by decide) (by omega) (okNums_bd hk) h0)
    have HR := Lib.hid fun W => isRow_any L0.sum W
    have hg := okGp_of hk
    rw [hk] at HA
    cases hr : okRow L0.sum
    · rw [hr] at hg HR
      rw [gopL_no hg, hg]
      obtain ⟨S, hS⟩ : ∃ S, S = L0.sum := ⟨_, rfl⟩
      rw [← hS] at HS HR
      clear hk hg h0 hr hS
      go_enter Try.func27, Try.ntmps27
      go_wp2_with fail
      refine HA.out.mono ?_
      rintro e w1 ⟨rfl, rfl⟩
      go_wp2_with fail
      refine HS.out.mono ?_
      rintro e w1 ⟨rfl, rfl⟩
      go_wp2_with fail
      refine (HR.out _).mono ?_
      rintro e w1 ⟨rfl, rfl⟩
      go_wp2
      go_ret2
      exact ⟨_, rfl, OwnInts.nil _ _ _, Below.refl _ _⟩
    · rw [hr] at hg HR
      rw [gopL_yes hg, hg]
      obtain ⟨S, hS⟩ : ∃ S, S = L0.sum := ⟨_, rfl⟩
      rw [← hS] at HS HR
      obtain ⟨m, hm⟩ : ∃ m, L0.length = m + 1 := ⟨L0.length - 1, by omega⟩
      have hLm : ∀ j, j < m → (L0.take (j + 1)).length = j + 1 := fun j hj => by rw [List.length_take]; omega
      have HSU : Hid (∀ (j : Nat) (W : World), j < m → Below w.heap.size w W → Calls Try.prog 63 #[.slice A0 (j + 1) c0] W fun e w' => e = .returned (.int .i64 (L0.take (j + 1)).sum) ∧ W = w') := Lib.hid fun j W hj hb => by
        have ht : IntSl W A0 (L0.take (j + 1)) := by
          obtain ⟨g, off, rfl, hg, hat⟩ := (h0.below hb).some (by omega)
          exact .inr ⟨g, off, rfl, hg, fun k hk => by rw [hat k (by have := hLm j hj; omega), List.getElem_take]⟩
        have := sumOf_any A0 c0 (L0.take (j + 1)) 40 W (by rw [hLm j hj]; omega) (by decide) (by rw [hLm j hj]; omega) (fun x hx => okNums_bd hk x (List.mem_of_mem_take hx)) ht
        rw [hLm j hj] at this
        exact this
      rw [hm] at HA HS q0 hl ⊢
      rw [Nat.add_sub_cancel]
      obtain ⟨g0, o0, rfl, -, -⟩ := h0.some (by omega)
      have HMM := Lib.hid hm
      have q1 : m + 1 ≤ c0 := q0
      clear hk hg h0 hr hS l0 hm hLm
      go_enter Try.func27, Try.ntmps27
      go_wp2_with fail
      refine HA.out.mono ?_
      rintro e w1 ⟨rfl, rfl⟩
      go_wp2_with fail
      refine HS.out.mono ?_
      rintro e w1 ⟨rfl, rfl⟩
      go_wp2_with fail
      refine (HR.out _).mono ?_
      rintro e w1 ⟨rfl, rfl⟩
      have hm10 : m ≤ 10 := by omega
      go_wp2_with (at_make; refine wpList_make_full _ rfl (.tmp 17) (.tmp 17) _ rfl w.heap.size 3 i0 _ 1 Try.underlying22 hi hz0 hz1 .i64 .i64 _ _ m rfl rfl rfl rfl (by rw [hz2]; omega) (by unfold maxLen; omega) (Nat.le_refl _) ?_; intro w2 hown hgrow)
      have HFi : Hid (Filled w w.heap.size 3 1 (.slice (some ⟨w.heap.size, 0, none⟩) m m) m ((sumsJ L0 m).map (Value.int .i64)) 0 w2) := Lib.hid (Filled.made hown ((Below.refl _ _).grown hgrow (Nat.le_refl _) (fun k hk => by cases hk)))
      clear hown hgrow
      go_loopw [21] (fun i wr => ∃ j : Nat, j ≤ m ∧ i = .int .i64 j ∧ Filled w w.heap.size 3 1 (.slice (some ⟨w.heap.size, 0, none⟩) m m) m ((sumsJ L0 m).map (Value.int .i64)) j wr) (fun i _ => m - (intOf i).toNat)
      case atStart => exact ⟨0, Nat.zero_le _, rfl, HFi.out⟩
      case round =>
        clear HFi
        obtain ⟨j, hj, rfl, hf⟩ := hrel
        have HF1 := Lib.hid hf
        clear hf
        by_cases hjt : j < m
        · obtain ⟨⟨u1, d1⟩, f1⟩ := HF1.out.cell j (by omega)
          have K1 := Lib.hid (sumsJ_at L0 m j hjt)
          have HC := Lib.hid (HSU.out j wr hjt HF1.out.below0)
          obtain ⟨x, hx⟩ : ∃ x, x = (L0.take (j + 1)).sum := ⟨_, rfl⟩
          rw [← hx] at K1 HC
          have hj0 : (0 : Int) ≤ (j : Int) := by omega
          have hj1 : (j : Int) + 1 ≤ (c0 : Int) := by omega
          have hj2 : (0 : Int) ≤ (j : Int) + 1 := by omega
          have e2 : ((j : Int) + 1).toNat = j + 1 := by omega
          clear hx
          go_wp2_with fail
          refine HC.out.mono ?_
          rintro e w3 ⟨rfl, rfl⟩
          go_wp2
          go_roundw
          case rel => exact ⟨j + 1, by omega, by go_num, HF1.out.step (by omega) (Nat.le_refl _) K1.out⟩
          case measure => simp [intOf]; omega
        · obtain rfl : j = m := by omega
          have HAL := Lib.hid (Filled.all (by rw [Nat.mul_one]; exact HF1.out) (by rw [List.length_map, sumsJ_len, Nat.mul_one]))
          have HV : Hid (OwnInts wr w.heap.size 3 (.slice (some ⟨w.heap.size, 0, none⟩) j j) (sumsJ L0 j)) := Lib.hid (by
            unfold OwnInts; rw [sumsJ_len]; exact HAL.out.1)
          go_wp2
          go_ret2
          exact ⟨_, rfl, HV.out, HAL.out.2⟩
end Go.Proofs.Ytbocdhibimcobaa
