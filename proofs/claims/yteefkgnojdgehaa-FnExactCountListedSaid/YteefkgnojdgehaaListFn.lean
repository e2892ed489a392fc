/- 'impl.areLists'. No condition but the lists' lengths. -/
import Derived.Test.YteefkgnojdgehaaListOk
import Derived.Test.YteefkgnojdgehaaAreLine
namespace Go.Proofs.Yteefkgnojdgehaa
open Go.RowKit

theorem any_takeT {M : List ByteArray} {k : Nat} (hk : k < M.length) : (M.take (k + 1)).any (fun s => !okLet s) = ((M.take k).any (fun s => !okLet s) || !okLet M[k]) := by
  rw [List.take_succ_eq_append_getElem hk, List.any_append]; simp
set_option maxRecDepth 20000 in
set_option maxHeartbeats 2000000 in
theorem indexTxt_any (A : Option Addr) (c : Nat) (M : List ByteArray) (w : World) (hm : M.length ≤ 1048576) (hr : ∀ j (hj : j < M.length), M[j].size ≤ 1048576) (h : StrSl w A M) :
    Calls Try.prog 89 #[.slice A M.length c, .func (.func 74) #[] #[]] w fun e w' => (∃ x : Int, e = .returned (.int .i64 x) ∧ decide (0 ≤ x) = M.any (fun s => !okLet s)) ∧ Below w.heap.size w w' := by
  have HSL := Lib.hid h
  have HR := Lib.hid hr
  have HN := Lib.hid fun k (hk : k < M.length) => any_takeT hk
  have HY : Hid (∀ k (hk : k < M.length), okLet M[k] = false → M.any (fun s => !okLet s) = true) := Lib.hid fun k hk e => by
    rw [List.any_eq_true]; exact ⟨_, List.getElem_mem hk, by rw [e]; rfl⟩
  clear h hr
  go_enter Try.func89, Try.ntmps89
  go_wp2
  go_loopw [8] (fun i wr => ∃ k : Nat, k ≤ M.length ∧ i = .int .i64 k ∧ Hid ((M.take k).any (fun s => !okLet s) = false) ∧ Below w.heap.size w wr) (fun i _ => M.length - (intOf i).toNat)
  case atStart => exact ⟨0, Nat.zero_le _, rfl, Lib.hid (by simp), Below.refl _ _⟩
  case round =>
    obtain ⟨k, hk, rfl, hI, hb⟩ := hrel
    have HB := Lib.hid hb
    clear hb
    by_cases hlt : k < M.length
    · obtain ⟨g, off, rfl, hg, hat⟩ := HSL.out.some (by omega)
      have c1 := ((bcell HB.out).1 g (off + k) hg).trans (hat k hlt)
      have hs := HR.out k hlt
      have HNk := Lib.hid (HN.out k hlt)
      have HYk := Lib.hid (HY.out k hlt)
      obtain ⟨s, hx⟩ : ∃ s, s = M[k]'hlt := ⟨_, rfl⟩
      rw [← hx] at c1 hs HNk HYk
      have HC := Lib.hid fun W => isNoList_any s W hs
      clear hx hat
      cases ho : okLet s with
      | false =>
        rw [ho] at HC
        have HR := Lib.hid (HYk.out ho)
        clear ho
        go_wp2_with fail
        refine (HC.out _).mono ?_
        rintro e w1 ⟨rfl, hb1⟩
        have HB1 := Lib.hid (below_nextN HB.out HB.out.size hb1)
        go_wp2
        go_ret
        exact ⟨⟨_, rfl, by rw [HR.out]; exact decide_eq_true (by omega)⟩, HB1.out⟩
      | true =>
        rw [ho] at HC
        have HR : Hid ((M.take (k + 1)).any (fun s => !okLet s) = false) := Lib.hid (by rw [HNk.out, hI.out, ho]; rfl)
        clear ho
        go_wp2_with fail
        refine (HC.out _).mono ?_
        rintro e w1 ⟨rfl, hb1⟩
        have HB1 := Lib.hid (below_nextN HB.out HB.out.size hb1)
        clear hb1
        go_wp2
        go_roundw
        case rel => exact ⟨k + 1, by omega, by go_num, HR, HB1.out⟩
        case measure => simp [intOf]; omega
    · obtain rfl : k = M.length := by omega
      have HR : Hid (M.any (fun s => !okLet s) = false) := Lib.hid (by have := hI.out; rwa [List.take_length] at this)
      go_wp2
      go_ret
      exact ⟨⟨_, rfl, by rw [HR.out]; exact decide_eq_false (by omega)⟩, HB.out⟩
theorem containsTxt_any (A : Option Addr) (c : Nat) (M : List ByteArray) (w : World) (hm : M.length ≤ 1048576) (hr : ∀ j (hj : j < M.length), M[j].size ≤ 1048576) (h : StrSl w A M) :
    Calls Try.prog 73 #[.slice A M.length c, .func (.func 74) #[] #[]] w fun e w' => e = .returned (.bool (M.any fun s => !okLet s)) ∧ Below w.heap.size w w' := by
  have HI := Lib.hid (indexTxt_any A c M w hm hr h)
  clear h hr
  go_enter Try.func73, Try.ntmps73
  go_wp2_with fail
  refine HI.out.mono ?_
  rintro e w1 ⟨⟨x, rfl, hx⟩, hb⟩
  have HX := Lib.hid hx
  have HB := Lib.hid hb
  clear hx HI hb
  go_wp2
  go_ret
  exact ⟨ret_bool HX.out, HB.out⟩
set_option maxRecDepth 20000 in
set_option maxHeartbeats 2000000 in
theorem areLists_any (A : Option Addr) (cap : Nat) (LL : List ByteArray) (w : World) (hl : LL.length ≤ 1048576) (hr : ∀ j (hj : j < LL.length), LL[j].size ≤ 1048576) (h : StrSl w A LL) :
    Calls Try.prog 46 #[.slice A LL.length cap] w fun e w' => e = .returned (.bool (okLs LL)) ∧ Below w.heap.size w w' := by
  have HAL := Lib.hid fun W => areLine_any (LL.length : Int) W
  have HE : Hid (okLs LL = (okLine (LL.length : Int) && !(LL.any fun s => !okLet s))) := Lib.hid (by
    unfold okLs okLine
    congr 1
    rw [List.not_any_eq_all_not]
    congr 1
    funext s
    rw [Bool.not_not])
  have HCF := Lib.hid (containsTxt_any A cap LL w hl hr h)
  clear h hr
  cases ho : okLine (LL.length : Int) with
  | false =>
    rw [ho] at HAL HE
    clear ho HCF
    go_enter Try.func46, Try.ntmps46
    go_wp2_with (go_at_call 40; refine (HAL.out _).mono ?_; rintro e w' ⟨rfl, rfl⟩)
    go_ret
    exact ⟨ret_bool HE.out.symm, Below.refl _ _⟩
  | true =>
    rw [ho] at HAL HE
    clear ho
    go_enter Try.func46, Try.ntmps46
    go_wp2_with (first
      | (go_at_call 40; refine (HAL.out _).mono ?_; rintro e w' ⟨rfl, rfl⟩)
      | (go_at_call 73; refine HCF.out.mono ?_; rintro e w' ⟨rfl, hb⟩; have HB := Lib.hid hb; clear hb))
    go_ret
    exact ⟨ret_bool HE.out.symm, HB.out⟩
end Go.Proofs.Yteefkgnojdgehaa
