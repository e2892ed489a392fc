/- CountListed of both sides. No condition but the lists' lengths. -/
import Derived.Test.YteefkgnojdgehaaListFn
import Derived.Test.YteefkgnojdgehaaFreeT
namespace Go.Proofs.Yteefkgnojdgehaa
open Go.RowKit

theorem sW_out {Bl : Nat → List Nat} (h : OkBl Bl) (n d : Nat) {t u : Nat} (ht : t ∉ keys5) (hu : u ∉ keys5) : sW Bl n (d + 1) t = sW Bl n (d + 1) u := by
  rw [sW_succ, sW_succ]
  refine sumL_congr fun z hz => ?_
  have hk := h.keys _ z hz
  rw [if_neg (fun e => ht (by rw [← e]; exact hk)), if_neg (fun e => hu (by rw [← e]; exact hk))]
theorem chp_zero {LL : List ByteArray} (h : OkLs LL) : chpL (zeroB (lettB LL)) LL.length = (sW (lettB LL) LL.length LL.length 0, 0) := by
  obtain ⟨d, hd⟩ : ∃ d, LL.length = d + 1 := ⟨LL.length - 1, by have := h.n1; omega⟩
  have e : chpL (zeroB (lettB LL)) LL.length = rst (zeroB (lettB LL)) LL.length LL.length 46 := by
    unfold chpL rst; rw [if_neg (by omega)]
  rw [e, rst_zero h.bl]
  congr 1
  rw [hd]
  exact sW_out h.bl (d + 1) d (by decide) (by decide)
def clsR (LL : List ByteArray) : Int := if okLs LL = true then sW (lettB LL) LL.length LL.length 0 else 0
theorem cls_no {LL : List ByteArray} (h : okLs LL = false) : clsR LL = 0 := by unfold clsR; rw [h]; rfl
theorem cls_yes {LL : List ByteArray} (h : okLs LL = true) : clsR LL = sW (lettB LL) LL.length LL.length 0 := by unfold clsR; rw [if_pos h]
theorem sizes_of {LL : List ByteArray} (g : LL.length + szB LL ≤ 1048576) : ∀ j (hj : j < LL.length), LL[j].size ≤ 1048576 := fun j hj => by
  have := szB_mem (List.getElem_mem hj); omega
theorem field_ways (x y : Int) (W : World) : (Instr.field 54 (.agg #[.int .i64 x, .int .i64 y]) 0).run Try.prog W = .ok (.int .i64 x) W := by kernel_rfl
set_option maxRecDepth 100000 in
set_option maxHeartbeats 4000000 in
theorem specCountListed_any (A : Option Addr) (cap : Nat) (LL : List ByteArray) (w : World) (g : LL.length + szB LL ≤ 1048576) (_ : ∀ s ∈ LL, s.size ≤ maxLen) (_ : LL.length ≤ cap) (h : StrSl w A LL) :
    Calls Try.prog 17 #[.slice A LL.length cap] w fun e w' => e = .returned (.tuple #[.int .i64 (clsR LL), .bool (okLs LL)]) ∧ Below w.heap.size w w' := by
  have HL := Lib.hid (coLists_any A cap LL w (by omega) (sizes_of g) h)
  cases ho : okLs LL with
  | false =>
    have HE := Lib.hid (cls_no ho)
    rw [ho] at HL
    clear h ho
    go_enter Try.func17, Try.ntmps17
    go_wp2_with (go_at_call 44; refine HL.out.mono ?_; rintro e w' ⟨rfl, hb⟩; have HB := Lib.hid hb; clear hb)
    go_ret2
    exact ⟨ret_ib HE.out.symm rfl, HB.out⟩
  | true =>
    have HE := Lib.hid (cls_yes ho)
    have HC := Lib.hid fun W (hb : Below w.heap.size w W) => coListed_any A cap 0 LL W (okLs_ok ho) (h.below hb)
    rw [ho] at HL
    clear h ho
    go_enter Try.func17, Try.ntmps17
    go_wp2_with (first
      | (go_at_call 44; refine HL.out.mono ?_; rintro e w1 ⟨rfl, hb⟩; have HB := Lib.hid hb; clear hb)
      | (go_at_call 45; refine (HC.out _ HB.out).mono ?_; rintro e w2 ⟨rfl, hb⟩; have HB2 := Lib.hid (below_nextN HB.out HB.out.size hb); clear hb))
    go_ret2
    exact ⟨ret_ib HE.out.symm rfl, HB2.out⟩
set_option maxRecDepth 100000 in
set_option maxHeartbeats 4000000 in
theorem implCountListed_any (A : Option Addr) (cap : Nat) (LL : List ByteArray) (w : World) (g : LL.length + szB LL ≤ 1048576) (_ : ∀ s ∈ LL, s.size ≤ maxLen) (_ : LL.length ≤ cap) (h : StrSl w A LL) :
    Calls Try.prog 19 #[.slice A LL.length cap] w fun e w' => e = .returned (.tuple #[.int .i64 (clsR LL), .bool (okLs LL)]) ∧ Below w.heap.size w w' := by
  have HL := Lib.hid (areLists_any A cap LL w (by omega) (sizes_of g) h)
  cases ho : okLs LL with
  | false =>
    have HE := Lib.hid (cls_no ho)
    rw [ho] at HL
    clear h ho
    go_enter Try.func19, Try.ntmps19
    go_wp2_with (go_at_call 46; refine HL.out.mono ?_; rintro e w' ⟨rfl, hb⟩; have HB := Lib.hid hb; clear hb)
    go_ret2
    exact ⟨ret_ib HE.out.symm rfl, HB.out⟩
  | true =>
    have hok := okLs_ok ho
    obtain ⟨d, hd⟩ : ∃ d, LL.length = d + 1 := ⟨LL.length - 1, by have := hok.n1; omega⟩
    have HE : Hid (talV (chpL (zeroB (lettB LL)) LL.length) = .agg #[.int .i64 (clsR LL), .int .i64 0]) := Lib.hid (by rw [chp_zero hok, cls_yes ho]; rfl)
    have HF := Lib.hid fun W (hb : Below w.heap.size w W) => freeTints_any A cap LL W hok.n1 hok.n20 (fun j hj => (hok.let_ j hj).n5) (h.below hb)
    have HC : Hid (∀ A m W, Brds W A LL.length (zeroB (lettB LL)) m → Calls Try.prog 47 #[.slice A LL.length LL.length, .bool false] W fun e w' => e = .returned (.agg #[.int .i64 (clsR LL), .int .i64 0]) ∧ Below W.heap.size W w') := Lib.hid fun A m W hB => by
      rw [← HE.out]
      rw [hd] at hB ⊢
      exact cheapestOf_line d A (d + 1) (zeroB (lettB LL)) m W (by have := hok.n20; omega) (zeroB_costly hok.bl) hB
    rw [ho] at HL
    have hfl := fun W => field_ways (clsR LL) 0 W
    clear h ho hok hd HE
    go_enter Try.func19, Try.ntmps19
    go_wp2_with (first
      | (go_at_call 46; refine HL.out.mono ?_; rintro e w1 ⟨rfl, hb⟩; have HB := Lib.hid hb; clear hb)
      | (go_at_call 48; refine (HF.out _ HB.out).mono ?_; rintro e w2 ⟨g2, m, rfl, hbr, hb⟩; have HB2 := Lib.hid (below_nextN HB.out HB.out.size hb); have HBR := Lib.hid hbr; clear hb hbr)
      | (go_at_call 47; refine (HC.out _ _ _ HBR.out).mono ?_; rintro e w3 ⟨rfl, hb⟩; have HB3 := Lib.hid (below_nextN HB2.out HB2.out.size hb); clear hb))
    go_ret2
    exact ⟨rfl, HB3.out⟩
end Go.Proofs.Yteefkgnojdgehaa
