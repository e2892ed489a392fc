/- CountWithLongest of both sides. No condition. -/
import Derived.Test.YtbocdhibimcobaaGWays
namespace Go.Proofs.Ytbocdhibimcobaa
open Go.RowKit

def okCl (n m l : Int) : Bool := okMany n m && okMost l
def clR (n m l : Int) : Int := if okCl n m l = true then ((waysF l.toNat (m.toNat + 1) n.toNat : Nat) : Int) else 0
theorem clR_no {n m l : Int} (h : okCl n m l = false) : clR n m l = 0 := by unfold clR; rw [h]; rfl
theorem clR_yes {n m l : Nat} (h : okCl n m l = true) : clR n m l = ((waysF l (m + 1) n : Nat) : Int) := by unfold clR; rw [h, Int.toNat_natCast, Int.toNat_natCast, Int.toNat_natCast]; rfl
theorem okCl_at {n m l : Int} (h : okCl n m l = true) : okMany n m = true ∧ okMost l = true := by
  unfold okCl at h
  rwa [Bool.and_eq_true] at h
set_option maxHeartbeats 1000000 in
theorem specCountWithLongest_no (a0 a1 a2 : Int) (w : World)  (hok : (okMany a0 a1 && okMost a2) = false) :
    Calls Try.prog 38 #[.int .i64 a0, .int .i64 a1, .int .i64 a2] w fun e w' => e = .returned (.tuple #[.int .i64 0, .bool false]) ∧ Below w.heap.size w w' := by
  have H0 := Lib.hid (gaMany_any a0 a1 w)
  have H1 := Lib.hid (okMost_any a2 w)
  cases h0 : okMany a0 a1
  · clear hok
    rw [h0] at H0
    clear h0 H1
    go_enter Try.func38, Try.ntmps38
    go_wp2_with fail
    refine H0.out.mono ?_
    rintro e w1 ⟨rfl, rfl⟩
    go_wp2
    go_ret2
    exact ⟨rfl, Below.refl _ _⟩
  · skip
    cases h1 : okMost a2
    · clear hok
      rw [h0] at H0
      rw [h1] at H1
      clear h0 h1
      go_enter Try.func38, Try.ntmps38
      go_wp2_with fail
      refine H0.out.mono ?_
      rintro e w1 ⟨rfl, rfl⟩
      go_wp2_with fail
      refine H1.out.mono ?_
      rintro e w1 ⟨rfl, rfl⟩
      go_wp2
      go_ret2
      exact ⟨rfl, Below.refl _ _⟩
    · rw [h0, h1] at hok; simp at hok
set_option maxHeartbeats 1000000 in
theorem implCountWithLongest_no (a0 a1 a2 : Int) (w : World)  (hok : (okMany a0 a1 && okMost a2) = false) :
    Calls Try.prog 39 #[.int .i64 a0, .int .i64 a1, .int .i64 a2] w fun e w' => e = .returned (.tuple #[.int .i64 0, .bool false]) ∧ Below w.heap.size w w' := by
  have H0 := Lib.hid (isRowFor_any a0 a1 w)
  have H1 := Lib.hid (isLongest_any a2 w)
  cases h0 : okMany a0 a1
  · clear hok
    rw [h0] at H0
    clear h0 H1
    go_enter Try.func39, Try.ntmps39
    go_wp2_with fail
    refine H0.out.mono ?_
    rintro e w1 ⟨rfl, rfl⟩
    go_wp2
    go_ret2
    exact ⟨rfl, Below.refl _ _⟩
  · skip
    cases h1 : okMost a2
    · clear hok
      rw [h0] at H0
      rw [h1] at H1
      clear h0 h1
      go_enter Try.func39, Try.ntmps39
      go_wp2_with fail
      refine H0.out.mono ?_
      rintro e w1 ⟨rfl, rfl⟩
      go_wp2_with fail
      refine H1.out.mono ?_
      rintro e w1 ⟨rfl, rfl⟩
      go_wp2
      go_ret2
      exact ⟨rfl, Below.refl _ _⟩
    · rw [h0, h1] at hok; simp at hok
theorem specCountWithLongest_any (a0 a1 a2 : Int) (w : World) (_ : (Lit.int .i64 a0).wf = true) (_ : (Lit.int .i64 a1).wf = true) (_ : (Lit.int .i64 a2).wf = true) :
    Calls Try.prog 38 #[.int .i64 a0, .int .i64 a1, .int .i64 a2] w fun e w' => e = .returned (.tuple #[.int .i64 (clR a0 a1 a2), .bool (okCl a0 a1 a2)]) ∧ Below w.heap.size w w' := by
  cases hk : okCl a0 a1 a2
  · rw [clR_no hk]
    exact specCountWithLongest_no a0 a1 a2 w hk
  · obtain ⟨h1, h2⟩ := okCl_at hk
    have HM := Lib.hid (gaMany_any a0 a1 w)
    have HL := Lib.hid (okMost_any a2 w)
    obtain ⟨hn, hm⟩ := okMany_at h1
    obtain ⟨l1, l40⟩ := okMost_at h2
    obtain ⟨n, rfl⟩ : ∃ n : Nat, a0 = n := ⟨a0.toNat, by omega⟩
    obtain ⟨m, rfl⟩ : ∃ m : Nat, a1 = m := ⟨a1.toNat, by omega⟩
    obtain ⟨l, rfl⟩ : ∃ l : Nat, a2 = l := ⟨a2.toNat, by omega⟩
    rw [clR_yes hk]
    rw [h1] at HM
    rw [h2] at HL
    have HW := Lib.hid (gaWays_any n m l w (by omega) (by omega) (by omega))
    clear hk h1 h2
    go_enter Try.func38, Try.ntmps38
    go_wp2_with fail
    refine HM.out.mono ?_
    rintro e w1 ⟨rfl, rfl⟩
    go_wp2_with fail
    refine HL.out.mono ?_
    rintro e w1 ⟨rfl, rfl⟩
    go_wp2_with fail
    refine HW.out.mono ?_
    rintro e w1 ⟨rfl, hb⟩
    go_wp2
    go_ret2
    exact ⟨rfl, hb⟩

/-- the row in which the places from t on are counted anew -/
def wayT (most r t i : Nat) : Int := if i < t then wayI most r i else wayI most (r + 1) i
theorem wayT_set (most r t i : Nat) : (if i = t then wayI most (r + 1) t else wayT most r (t + 1) i) = wayT most r t i := by
  unfold wayT
  by_cases e : i = t
  · subst e; rw [if_pos rfl, if_neg (by omega)]
  · rw [if_neg e]
    by_cases h : i < t
    · rw [if_pos (by omega), if_pos h]
    · rw [if_neg (by omega), if_neg h]
theorem wayT_all {most r n i : Nat} (h : i < n + 1) : wayI most r i = wayT most r (n + 1) i := by unfold wayT; rw [if_pos h]
theorem wayT_none (most r i : Nat) : wayT most r 0 i = wayI most (r + 1) i := by unfold wayT; rw [if_neg (by omega)]
theorem sum_cast (F : Nat → Nat) (l : List Nat) : (l.map fun i => ((F i : Nat) : Int)).sum = (((l.map F).sum : Nat) : Int) := by
  induction l with
  | nil => rfl
  | cons x l ih => rw [List.map_cons, List.map_cons, List.sum_cons, List.sum_cons, ih, Int.natCast_add]

set_option maxRecDepth 100000 in
set_option maxHeartbeats 4000000 in
theorem implCountWithLongest_any (a0 a1 a2 : Int) (w : World) (_ : (Lit.int .i64 a0).wf = true) (_ : (Lit.int .i64 a1).wf = true) (_ : (Lit.int .i64 a2).wf = true) :
    Calls Try.prog 39 #[.int .i64 a0, .int .i64 a1, .int .i64 a2] w fun e w' => e = .returned (.tuple #[.int .i64 (clR a0 a1 a2), .bool (okCl a0 a1 a2)]) ∧ Below w.heap.size w w' := by
  obtain ⟨i0, hi, hz0, hz1, hz2⟩ := info_parts info_int
  cases hk : okCl a0 a1 a2
  · rw [clR_no hk]
    exact implCountWithLongest_no a0 a1 a2 w hk
  · obtain ⟨h1, h2⟩ := okCl_at hk
    have HM := Lib.hid (isRowFor_any a0 a1 w)
    have HL := Lib.hid (isLongest_any a2 w)
    obtain ⟨hn, hm⟩ := okMany_at h1
    obtain ⟨l1, l40⟩ := okMost_at h2
    obtain ⟨n, rfl⟩ : ∃ n : Nat, a0 = n := ⟨a0.toNat, by omega⟩
    obtain ⟨m, rfl⟩ : ∃ m : Nat, a1 = m := ⟨a1.toNat, by omega⟩
    obtain ⟨l, rfl⟩ : ∃ l : Nat, a2 = l := ⟨a2.toNat, by omega⟩
    rw [clR_yes hk]
    rw [h1] at HM
    rw [h2] at HL
    have n0 : (0 : Int) ≤ (n : Int) := by omega
    clear hk h1 h2
    go_enter Try.func39, Try.ntmps39
    go_wp2_with fail
    refine HM.out.mono ?_
    rintro e w1 ⟨rfl, rfl⟩
    go_wp2_with fail
    refine HL.out.mono ?_
    rintro e w1 ⟨rfl, rfl⟩
    go_wp2_with (at_make; refine wpList_make_full _ rfl (.tmp 20) (.tmp 20) _ rfl w.heap.size 3 i0 _ 1 Try.underlying22 hi hz0 hz1 .i64 .i64 _ _ (n + 1) rfl rfl rfl rfl (by rw [hz2]; omega) (by unfold maxLen; omega) (Nat.le_refl _) ?_; intro w1 hown hgrow; have HW1 := Lib.hid (RowIs.made hown); have c0 := HW1.out.cell 0 (Nat.succ_pos n); have f0 := HW1.out.frozen 0)
    have HB1 : Hid (Below w.heap.size w w1) := Lib.hid (grown_none hgrow)
    clear hown hgrow
    have HW0 : Hid (RowIs (w1.setCell ⟨w.heap.size, 0, none⟩ (.int .i64 1)) 3 w.heap.size w.heap.size (n + 1) (wayI l 0)) := Lib.hid ((HW1.out.store 0 1).congr fun i _ => wayI_zero l i)
    have HB0 := Lib.hid (below_store HB1.out (Nat.le_refl _) 0 (.int .i64 1))
    go_wp2
    go_loopw [9, 26] (fun _ v wr => ∃ r : Nat, r ≤ m + 1 ∧ v = .int .i64 (r : Int) ∧ RowIs wr 3 w.heap.size w.heap.size (n + 1) (wayI l r) ∧ Below w.heap.size w wr) (fun _ v _ => m + 1 - (intOf v).toNat)
    case atStart => exact ⟨0, Nat.zero_le _, rfl, HW0.out, HB0.out⟩
    case round =>
      clear HW0 HB0 HW1 HB1 c0 f0
      obtain ⟨r, hr, rfl, hrow, hb⟩ := hrel
      have HRO := Lib.hid (hrow.congr fun i hi => wayT_all (most := l) (r := r) (n := n) hi)
      have HRE := Lib.hid hrow
      have HBL := Lib.hid hb
      clear hrow hb
      by_cases hrm : r < m + 1
      · clear HRE
        have hdr : decide ((r : Int) < (m : Int) + 1) = true := decide_eq_true (by omega)
        go_wp2
        go_loopw [9] (fun v wr => ∃ t : Nat, t ≤ n + 1 ∧ v = .int .i64 ((t : Int) - 1) ∧ RowIs wr 3 w.heap.size w.heap.size (n + 1) (wayT l r t) ∧ Below w.heap.size w wr) (fun v _ => (intOf v + 1).toNat)
        case atStart => exact ⟨n + 1, Nat.le_refl _, by go_num, HRO.out, HBL.out⟩
        case round =>
          clear HRO HBL
          obtain ⟨t, ht, rfl, hrow, hb⟩ := hrel
          have HR := Lib.hid hrow
          have HB := Lib.hid hb
          clear hrow hb
          rcases Nat.eq_zero_or_pos t with hz | hz
          · subst hz
            have HNX := Lib.hid (HR.out.congr fun i _ => wayT_none l r i)
            go_wp2
            go_roundw
            case rel => exact ⟨r + 1, by omega, by go_num, HNX.out, HB.out⟩
            case measure => simp [intOf]; omega
          · obtain ⟨u, rfl⟩ : ∃ u, t = u + 1 := ⟨t - 1, by omega⟩
            rw [show (((u + 1 : Nat) : Int) - 1) = (u : Int) by omega]
            obtain ⟨lo, hlo⟩ : ∃ lo : Nat, u - l = lo := ⟨_, rfl⟩
            have elo : max 0 ((u : Int) - (l : Int)) = (lo : Int) := by omega
            have wul : IntKind.i64.wrap ((u : Int) - (l : Int)) = (u : Int) - (l : Int) := by rw [IntKind.wrap_i64]; omega
            have hlu : lo ≤ u := by omega
            have fz := HR.out.frozen u
            have cu := HR.out.cell u (by omega)
            obtain ⟨cuv, hcuv⟩ : ∃ x, x = wayT l r (u + 1) u := ⟨_, rfl⟩
            rw [← hcuv] at cu
            have HSM : Hid (Calls Try.prog 63 #[.slice (some ⟨w.heap.size, lo, none⟩) (u - lo) (n + 1 - lo)] wr fun e w' => e = .returned (.int .i64 (wayI l (r + 1) u)) ∧ wr = w') := Lib.hid (by
              have hs : IntSl wr (some ⟨w.heap.size, lo, none⟩) ((List.range (u - lo)).map fun i => wayI l r (lo + i)) := .inr ⟨w.heap.size, lo, rfl, HR.out.lt.2, fun k hk => by
                have hk' : k < u - lo := by simpa using hk
                rw [HR.out.cell (lo + k) (by omega)]
                unfold wayT
                rw [if_pos (by omega)]
                simp⟩
              have := sumOf_any (some ⟨w.heap.size, lo, none⟩) (n + 1 - lo) _ 10485760000000000 wr (by simp; omega) (by decide) (by simp; omega) (fun x hx => by
                obtain ⟨i, hi, rfl⟩ := List.mem_map.1 hx
                have hi' := List.mem_range.1 hi
                unfold wayI
                have h1 := waysF_le l r (lo + i) (by omega)
                have h2 : 40 ^ r ≤ 40 ^ 10 := Nat.pow_le_pow_right (by decide) (by omega)
                have h3 : 40 ^ 10 = 10485760000000000 := by decide
                omega) hs
              rw [List.length_map, List.length_range] at this
              have e : ((List.range (u - lo)).map fun i => wayI l r (lo + i)).sum = wayI l (r + 1) u := by
                unfold wayI
                rw [sum_cast (fun i => waysF l r (lo + i)), waysF_succ, hlo]
                rfl
              rw [e] at this
              exact this)
            have HST : Hid (RowIs (wr.setCell ⟨w.heap.size, u, none⟩ (.int .i64 (wayI l (r + 1) u))) 3 w.heap.size w.heap.size (n + 1) (wayT l r u) ∧ Below w.heap.size w (wr.setCell ⟨w.heap.size, u, none⟩ (.int .i64 (wayI l (r + 1) u)))) := Lib.hid ⟨(HR.out.store u _).congr fun i _ => wayT_set l r u i, below_store HB.out (Nat.le_refl _) u _⟩
            obtain ⟨z, hz2'⟩ : ∃ z, z = wayI l (r + 1) u := ⟨_, rfl⟩
            rw [← hz2'] at HSM HST
            have iu0 : (0 : Int) ≤ (u : Int) := by omega
            have iu1 : (u : Int) < (n : Int) + 1 := by omega
            have il0 : (0 : Int) ≤ (lo : Int) := by omega
            have il1 : (lo : Int) ≤ (u : Int) := by omega
            clear hlo hcuv hz2' HR HB
            go_wp2_with fail
            refine HSM.out.mono ?_
            rintro e w3 ⟨rfl, rfl⟩
            go_wp2
            go_roundw
            case rel => exact ⟨u, by omega, by go_num, HST.out.1, HST.out.2⟩
            case measure => simp [intOf]
      · obtain rfl : r = m + 1 := by omega
        have x1 := HRE.out.cell n (by omega)
        have in1 : (n : Int) < (n : Int) + 1 := by omega
        go_wp2
        go_ret2
        exact ⟨rfl, HBL.out⟩
end Go.Proofs.Ytbocdhibimcobaa
