/- 'impl.handOut': each painter in turn gets as many boards as it can paint. No condition but the numbers' bounds. -/
import Derived.Test.YteiaidjknnbpjaaHandMath
import Derived.ScopeJumps
namespace Go.Proofs.Yteiaidjknnbpjaa
open Go.RowKit

theorem work_bd {W C : List Int} {p j : Nat} (hx : ∀ x ∈ W, 1 ≤ x ∧ x ≤ 100) (hl : W.length ≤ 12) : 0 ≤ workA W C p j ∧ workA W C p j ≤ 1200 := by
  unfold workA
  have := sum_bound (L := (W.drop (posN (takenG W C) p)).take (j - posN (takenG W C) p)) (M := 100) fun x hx' => by have := hx x (cut_mem hx'); omega
  have : ((W.drop (posN (takenG W C) p)).take (j - posN (takenG W C) p)).length ≤ 12 := by rw [List.length_take, List.length_drop]; omega
  omega
theorem share_bd {W C : List Int} {p j : Nat} (hj : j ≤ 12) : 0 ≤ shareA W C p j p ∧ shareA W C p j p ≤ 12 := by
  unfold shareA
  rw [if_neg (Nat.lt_irrefl p), if_pos rfl]
  omega

/-- what is handed out, or that boards are left -/
def HandPost (W C : List Int) (w : World) (e : Ending) (w' : World) : Prop :=
  (if leftG W C = [] then e = .returned (.tuple #[.slice (some ⟨w.heap.size, 0, none⟩) C.length C.length, .bool true]) ∧ OwnInts w' w.heap.size 3 (.slice (some ⟨w.heap.size, 0, none⟩) C.length C.length) ((takenG W C).map fun n : Nat => (n : Int)) else e = .returned (.tuple #[.slice none 0 0, .bool false])) ∧ Below w.heap.size w w'

set_option maxRecDepth 100000 in
set_option maxHeartbeats 4000000 in
theorem handOut_any (A0 : Option Addr) (c0 : Nat) (W : List Int) (A1 : Option Addr) (c1 : Nat) (C : List Int) (w : World) (hW1 : 1 ≤ W.length) (hWl : W.length ≤ 12) (hWx : ∀ x ∈ W, 1 ≤ x ∧ x ≤ 100) (hC1 : 1 ≤ C.length) (hCl : C.length ≤ 12) (hCx : ∀ x ∈ C, 0 ≤ x ∧ x ≤ 30000) (h0 : IntSl w A0 W) (h1 : IntSl w A1 C) :
    Calls Try.prog 73 #[.slice A0 W.length c0, .slice A1 C.length c1] w fun e w' => HandPost W C w e w' := by
  obtain ⟨i0, hi, hz0, hz1, hz2⟩ := info_parts info_int
  obtain ⟨g0, o0, rfl, hg0, hat0⟩ := h0.some (by omega)
  obtain ⟨g1, o1, rfl, hg1, hat1⟩ := h1.some (by omega)
  have HA0 := Lib.hid hat0
  have HA1 := Lib.hid hat1
  have HPW : Hid (Pos W) := Lib.hid fun x hx => (hWx x hx).1
  have HWX := Lib.hid hWx
  have HCX := Lib.hid hCx
  clear hat0 hat1 h0 h1 hWx hCx
  go_enter Try.func73, Try.ntmps73
  go_wp2_with (at_make; refine wpList_make_full _ rfl (.tmp 12) (.tmp 12) _ rfl w.heap.size 3 i0 _ 1 Try.underlying24 hi hz0 hz1 .i64 .i64 _ _ C.length rfl rfl rfl rfl (by rw [hz2]; omega) (by unfold maxLen; omega) (Nat.le_refl _) ?_; intro w1 hown hgrow)
  have HR := Lib.hid (RowIs.congr (RowIs.made hown) (G := shareA W C 0 0) fun i _ => ((at_zero W C).2.2 i).symm)
  have HB := Lib.hid ((Below.refl w.heap.size w).grown hgrow (Nat.le_refl _) (fun k hk => by cases hk))
  have HZ := Lib.hid (at_zero W C)
  clear hown hgrow
  go_loopw [7, 8, 10, 16] (fun p k _ i wr => ∃ j q : Nat, j ≤ W.length ∧ i = .int .i64 j ∧ p = .int .i64 q ∧ k = .int .i64 (workA W C q j) ∧ At W C q j ∧ RowIs wr 3 w.heap.size w.heap.size C.length (shareA W C q j) ∧ Below w.heap.size w wr) (fun _ _ _ i _ => W.length - (intOf i).toNat)
  case atStart => exact ⟨0, 0, Nat.zero_le _, rfl, rfl, by rw [HZ.out.2.1], HZ.out.1, HR.out, HB.out⟩
  case round =>
    clear HR HB HZ
    obtain ⟨j, q, hj, rfl, rfl, rfl, hatq, hrow, hb⟩ := hrel
    have HT := Lib.hid hatq
    have HR := Lib.hid hrow
    have HB := Lib.hid hb
    clear hatq hrow hb
    by_cases hlt : j < W.length
    · have e1 := HA0.out.below HB.out hg0 j hlt
      go_wp2
      refine wp_scope_jumps 0 (fun a' w' => ∃ (p : Nat) (v20 v21 v22 v23 v24 v25 v26 v27 v28 v29 v30 v31 v32 v33 : Value), (w' = wr ∧ At W C p j ∧ workA W C p j = 0 ∧ RowIs wr 3 w.heap.size w.heap.size C.length (shareA W C p j)) ∧ a' = { tmps := #[.slice (some ⟨g0, o0, none⟩) W.length c0, .slice (some ⟨g1, o1, none⟩) C.length c1, undef, undef, u4, u5, .slice (some ⟨w.heap.size, 0, none⟩) C.length C.length, .int .i64 (p : Int), .int .i64 0, undef, .int .i64 W[j], .slice (some ⟨g1, o1, none⟩) C.length c1, .int .i64 (C.length : Int), .slice (some ⟨w.heap.size, 0, none⟩) C.length C.length, .slice (some ⟨g0, o0, none⟩) W.length c0, .int .i64 (W.length : Int), .int .i64 (j : Int), .bool true, .pointer (some ⟨g0, o0 + j, none⟩), .int .i64 W[j], v20, v21, v22, v23, v24, v25, v26, v27, v28, v29, v30, v31, v32, v33, u34, u35, u36, u37, u38, u39, u40, u41, u42, u43, undef], defers := [] }) (fun a' _ => C.length - (intOf (a'.tmps.getD 7 undef)).toNat) rfl ?_ ?_
      · by_cases hq : q < C.length
        · have c2 := HA1.out.below HB.out hg1 q hq
          have hcx := HCX.out C[q] (List.getElem_mem hq)
          have hwx := HWX.out W[j] (List.getElem_mem hlt)
          have hne : ((q : Int) == (C.length : Int)) = false := by rw [beq_eq_false_iff_ne]; omega
          have hq0 : (0 : Int) ≤ (q : Int) := by omega
          have hq1 : (q : Int) < (C.length : Int) := by omega
          have hwa : 0 ≤ workA W C q j ∧ workA W C q j ≤ 1200 := work_bd HWX.out hWl
          by_cases hf : workA W C q j + W[j] ≤ C[q]
          · have HN := Lib.hid (at_take HPW.out HT.out hlt hq hcx.1 hf)
            have HE := Lib.hid (work_next HT.out hlt)
            have d1 := HR.out.cell q hq
            have f1 := HR.out.frozen q
            have HS := Lib.hid ((HR.out.store q (shareA W C q j q + 1)).congr (G := shareA W C q (j + 1)) fun i _ => HN.out.2 i)
            have hsb := share_bd (W := W) (C := C) (p := q) (j := j) (by omega)
            have HBS := Lib.hid (below_store HB.out (Nat.le_refl w.heap.size) q (.int .i64 (shareA W C q j q + 1)))
            go_wp2
            go_step3
            go_wp2
            simp only [Exit.jump]
            go_wp2
            go_roundw
            case rel => exact ⟨j + 1, q, by omega, by go_num, rfl, by rw [HE.out], HN.out.1, HS.out, HBS.out⟩
            case measure => simp [intOf]; omega
          · have HN := Lib.hid (at_jump HPW.out HT.out hlt hq hcx.1 hf)
            go_wp2
            go_step3
            go_wp2
            go_step3
            exact ⟨rfl, q + 1, _, _, _, _, _, _, _, _, _, _, _, _, _, _, ⟨rfl, HN.out.1, HN.out.2.1, HR.out.congr fun i _ => HN.out.2.2 i⟩, rfl⟩
        · have hqe : q = C.length := by have := HT.out.hp; omega
          subst hqe
          have HF := Lib.hid (at_fail HT.out hlt)
          go_wp2
          go_step3
          go_wp2
          simp only [Exit.jump]
          go_wp2
          go_ret2
          unfold HandPost
          rw [if_neg HF.out]
          exact ⟨rfl, HB.out⟩
      · rintro a' w' ⟨p, v20, v21, v22, v23, v24, v25, v26, v27, v28, v29, v30, v31, v32, v33, ⟨rfl, h1, h2, h3⟩, rfl⟩
        have HT1 := Lib.hid h1
        have HW1 := Lib.hid h2
        have HR1 := Lib.hid h3
        clear h1 h2 h3
        by_cases hq : p < C.length
        · have e2 := HA1.out.below HB.out hg1 p hq
          have hcx := HCX.out C[p] (List.getElem_mem hq)
          have hwx := HWX.out W[j] (List.getElem_mem hlt)
          have hne : ((p : Int) == (C.length : Int)) = false := by rw [beq_eq_false_iff_ne]; omega
          have hq0 : (0 : Int) ≤ (p : Int) := by omega
          have hq1 : (p : Int) < (C.length : Int) := by omega
          by_cases hf : workA W C p j + W[j] ≤ C[p]
          · have HN := Lib.hid (at_take HPW.out HT1.out hlt hq hcx.1 hf)
            have HE := Lib.hid (work_next HT1.out hlt)
            have d1 := HR1.out.cell p hq
            have f1 := HR1.out.frozen p
            have HS := Lib.hid ((HR1.out.store p (shareA W C p j p + 1)).congr (G := shareA W C p (j + 1)) fun i _ => HN.out.2 i)
            have hsb := share_bd (W := W) (C := C) (p := p) (j := j) (by omega)
            have HBS := Lib.hid (below_store HB.out (Nat.le_refl w.heap.size) p (.int .i64 (shareA W C p j p + 1)))
            rw [HW1.out] at hf
            rw [HW1.out, Int.zero_add] at HE
            rw [Int.zero_add] at hf
            go_wp2
            simp only [Exit.jump]
            go_wp2
            go_roundw
            case rel => exact ⟨j + 1, p, by omega, by go_num, rfl, by rw [HE.out], HN.out.1, HS.out, HBS.out⟩
            case measure => simp [intOf]; omega
          · have HN := Lib.hid (at_jump HPW.out HT1.out hlt hq hcx.1 hf)
            rw [HW1.out, Int.zero_add] at hf
            go_wp2
            go_step3
            refine ⟨rfl, ⟨p + 1, _, _, _, _, _, _, _, _, _, _, _, _, _, _, ⟨rfl, HN.out.1, HN.out.2.1, HR1.out.congr fun i _ => HN.out.2.2 i⟩, rfl⟩, ?_⟩
            simp [intOf]; omega
        · have hqe : p = C.length := by have := HT1.out.hp; omega
          subst hqe
          have HF := Lib.hid (at_fail HT1.out hlt)
          go_wp2
          simp only [Exit.jump]
          go_wp2
          go_ret2
          unfold HandPost
          rw [if_neg HF.out]
          exact ⟨rfl, HB.out⟩
    · obtain rfl : j = W.length := by omega
      have HE := Lib.hid (at_end HT.out)
      have HV := Lib.hid (HR.out.congr fun i hi => HE.out.2 i hi).ints
      rw [taken_list] at HV
      go_wp2
      go_ret2
      unfold HandPost
      rw [if_pos HE.out.1]
      exact ⟨⟨rfl, HV.out⟩, HB.out⟩
end Go.Proofs.Yteiaidjknnbpjaa
