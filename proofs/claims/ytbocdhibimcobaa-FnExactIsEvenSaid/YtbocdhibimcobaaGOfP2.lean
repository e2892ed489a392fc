/- GatesOfParts of the model, EvenGates of both sides. No condition but the list's length. -/
import Derived.Test.YtbocdhibimcobaaGOfP
namespace Go.Proofs.Ytbocdhibimcobaa
open Go.RowKit

theorem l1All_okNums {L : List Int} (h : 1 ≤ L.length ∧ L.length ≤ 11) : okNums 11 40 L = allIn 1 40 L := okNums_of h
set_option maxRecDepth 20000 in
set_option maxHeartbeats 4000000 in
theorem specGatesOfParts_any (A0 : Option Addr) (c0 : Nat) (L0 : List Int) (w : World) (l0 : L0.length ≤ 1048576) (_ : WfL L0) (q0 : L0.length ≤ c0) (h0 : IntSl w A0 L0) :
    Calls Try.prog 26 #[.slice A0 L0.length c0] w fun e w' => ∃ v, e = .returned (.tuple #[v, .bool (okGp L0)]) ∧ OwnInts w' w.heap.size 3 v (gopL L0) ∧ Below w.heap.size w w' := by
  obtain ⟨i0, hi, hz0, hz1, hz2⟩ := info_parts info_int
  by_cases hl : 1 ≤ (L0.length : Int) ∧ (L0.length : Int) ≤ 11
  · have HI := Lib.hid fun W => l1In_t (L0.length : Int) 1 11 W hl
    have hl' : 1 ≤ L0.length ∧ L0.length ≤ 11 := by omega
    have HA := Lib.hid (l1All_any A0 c0 L0 1 40 w l0 h0)
    rw [← okNums_of hl'] at HA
    cases hk : okNums 11 40 L0
    · have hg := okGp_no hk
      rw [gopL_no hg, hg]
      rw [hk] at HA
      clear hk hg h0 hl hl'
      go_enter Try.func26, Try.ntmps26
      go_wp2_with fail
      refine (HI.out _).mono ?_
      rintro e w1 ⟨rfl, rfl⟩
      go_wp2_with fail
      refine HA.out.mono ?_
      rintro e w1 ⟨rfl, rfl⟩
      go_wp2
      go_ret2
      exact ⟨_, rfl, OwnInts.nil _ _ _, Below.refl _ _⟩
    · have HS := Lib.hid (shSum_any A0 c0 L0 40 w l0 (by decide) (by omega) (okNums_bd hk) h0)
      have HR := Lib.hid fun W => gaBoards_any L0.sum W
      have hg := okGp_of hk
      rw [hk] at HA
      have HTK := Lib.hid fun j => sum_take_bound (by decide) (okNums_bd hk) j
      cases hr : okRow L0.sum
      · rw [hr] at hg HR
        rw [gopL_no hg, hg]
        obtain ⟨S, hS⟩ : ∃ S, S = L0.sum := ⟨_, rfl⟩
        rw [← hS] at HS HR
        clear hk hg h0 hr hS hl hl'
        go_enter Try.func26, Try.ntmps26
        go_wp2_with fail
        refine (HI.out _).mono ?_
        rintro e w1 ⟨rfl, rfl⟩
        go_wp2_with fail
        refine HA.out.mono ?_
        rintro e w1 ⟨rfl, rfl⟩
        go_wp2_with fail
        refine HS.out.mono ?_
        rintro e w1 ⟨rfl, rfl⟩
        go_wp2_with fail
        refine (HR.out _).mono ?_
        rintro e w1 ⟨rfl, rfl⟩
        go_wp2
        go_ret2
        exact ⟨_, rfl, OwnInts.nil _ _ _, Below.refl _ _⟩
      · rw [hr] at hg HR
        rw [gopL_yes hg, hg]
        obtain ⟨S, hS⟩ : ∃ S, S = L0.sum := ⟨_, rfl⟩
        rw [← hS] at HS HR
        obtain ⟨m, hm⟩ : ∃ m, L0.length = m + 1 := ⟨L0.length - 1, by omega⟩
        have HST := Lib.hid fun j (hj : j < L0.length) => sum_take_succ hj
        have HSL := Lib.hid h0
        rw [hm] at HI HA HS q0 hl' ⊢
        rw [Nat.add_sub_cancel]
        obtain ⟨g0, o0, rfl, -, -⟩ := h0.some (by omega)
        have HMM := Lib.hid hm
        have q1 : m + 1 ≤ c0 := q0
        have hm0 : (0 : Int) ≤ (m : Int) := by omega
        have hm1 : (m : Int) ≤ (c0 : Int) := by omega
        clear hk hg h0 hr hS l0 hm hl
        go_enter Try.func26, Try.ntmps26
        go_wp2_with fail
        refine (HI.out _).mono ?_
        rintro e w1 ⟨rfl, rfl⟩
        go_wp2_with fail
        refine HA.out.mono ?_
        rintro e w1 ⟨rfl, rfl⟩
        go_wp2_with fail
        refine HS.out.mono ?_
        rintro e w1 ⟨rfl, rfl⟩
        go_wp2_with fail
        refine (HR.out _).mono ?_
        rintro e w1 ⟨rfl, rfl⟩
        go_wp2
        go_loopw [4, 5, 29] (fun v a i wr => ∃ j : Nat, j ≤ m ∧ i = .int .i64 j ∧ a = .int .i64 (L0.take j).sum ∧ OwnInts wr w.heap.size 3 v (sumsJ L0 j) ∧ Below w.heap.size w wr) (fun _ _ i _ => m - (intOf i).toNat)
        case atStart => exact ⟨0, Nat.zero_le _, rfl, rfl, OwnInts.nil _ _ _, Below.refl _ _⟩
        case round =>
          obtain ⟨j, hj, rfl, rfl, hown, hb⟩ := hrel
          have HO := Lib.hid hown
          clear hown
          have hbs := hb.size
          have hlen := sumsJ_len L0 j
          by_cases hjt : j < m
          · have hjL : j < L0.length := by have := HMM.out; omega
            obtain ⟨g, off, hga, hg, hat⟩ := (HSL.out.below hb).some (by omega)
            injection hga with hga
            rw [hga] at *
            have c1 := hat j hjL
            have HN := Lib.hid (sumsJ_succ L0 j)
            have hst := HST.out j hjL
            have b1 := HTK.out (j + 1)
            have b0 := HTK.out j
            rw [hst] at HN b1
            obtain ⟨x, hx⟩ : ∃ x, x = L0[j] := ⟨_, rfl⟩
            obtain ⟨y, hy⟩ : ∃ y, y = (L0.take j).sum := ⟨_, rfl⟩
            rw [← hx] at c1 HN b1 hst
            rw [← hy] at HN b1 hst b0 ⊢
            have HST2 := Lib.hid hst
            have hL40 : (L0.length : Int) * 40 ≤ 440 := by have := HMM.out; omega
            have b2 : y + x ≤ 440 := by omega
            have b3 : 0 ≤ y + x := b1.1
            have b4 : y ≤ 440 := by omega
            have b5 := b0.1
            clear hx hy hat hst b1 b0 hga hL40
            go_wp2_with (at_builtin; refine wpList_append_own _ rfl (.tmp 36) (.tmp 38) _ rfl w.heap.size 3 i0 _ 1 8 Try.underlying22 hi hz0 hz1 hz2 rfl (by decide) _ (sumsJ L0 j).length ((sumsJ L0 j).map (Value.int .i64)) rfl (World.ownsRow.alloc HO.out _) ⟨_, 0, none⟩ 1 1 [.int .i64 (y + x)] rfl rfl (World.news_of_block (cs := #[.int .i64 (y + x)]) (t := 3) (fr := (0, 0)) (by first | exact heap_alloc_new _ _ | exact heap_new_set _ _ _ _ _)) (by simp [Value.oneCell']) (by unfold maxLen; omega) (by omega) (by simp; omega) ?_; intro v' w3 hown' hgrow _)
            have HRR : Hid (OwnInts w3 w.heap.size 3 v' (sumsJ L0 (j + 1))) := Lib.hid (by rw [HN.out]; exact OwnInts.snoc hown')
            have HB3 : Hid (Below w.heap.size w w3) := Lib.hid ((hb.alloc hbs _).grown hgrow (by simp; omega) fun k hk => (World.ownsRow.lt HO.out k hk).1)
            clear hown' hgrow
            go_wp2
            go_roundw
            case rel => exact ⟨j + 1, by omega, by go_num, by rw [HST2.out], HRR.out, HB3.out⟩
            case measure => simp [intOf]; omega
          · obtain rfl : j = m := by omega
            go_wp2
            go_ret2
            exact ⟨_, rfl, HO.out, hb⟩
  · have HI := Lib.hid fun W => l1In_f (L0.length : Int) 1 11 W hl
    have hg : okGp L0 = false := okGp_no (okNums_long (by omega))
    rw [gopL_no hg, hg]
    clear h0 hg hl
    go_enter Try.func26, Try.ntmps26
    go_wp2_with fail
    refine (HI.out _).mono ?_
    rintro e w1 ⟨rfl, rfl⟩
    go_wp2
    go_ret2
    exact ⟨_, rfl, OwnInts.nil _ _ _, Below.refl _ _⟩
end Go.Proofs.Ytbocdhibimcobaa
