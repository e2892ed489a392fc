/- 'impl.fewestByParts': the fewest strokes by the table. No condition but the texts' lengths. -/
import Derived.Test.YtohmodjigneldaaTxFewTab
namespace Go.Proofs.Ytohmodjigneldaa.Tx
open Go.RowKit

theorem dnF_le (c : Nat → Nat) (e : Nat) (fp : Nat → Nat) : ∀ (k best : Nat), dnF c e fp best k ≤ best
  | 0, _ => Nat.le_refl _
  | k + 1, best => by
    unfold dnF
    split
    · exact Nat.le_refl _
    · have := dnF_le c e fp k (min best (fp k + parF c k (e + 1))); omega
theorem fp_20 (c d : Nat → Nat) : ∀ e i, fpF c d e i ≤ 20
  | 0, _ => Nat.zero_le _
  | e + 1, i => by
    have ih := fp_20 c d e
    by_cases hi : i = e + 1
    · subst hi
      rw [fpF_new]
      have h := dnF_le c e (fpF c d e) (e + 1) (if d e = c e then fpF c d e e else 20)
      have h2 := ih e
      have h3 : (if d e = c e then fpF c d e e else 20) ≤ 20 := by split <;> omega
      omega
    · rw [fpF_old hi]; exact ih i
def zer21 : Array Value := (rowF 21 fun _ => 0).toArray
theorem dn_stop {c : Nat → Nat} {e best k : Nat} {fp : Nat → Nat} (h : c k = 46) : dnF c e fp best (k + 1) = best := by show (if _ then _ else _) = _; rw [if_pos h]
theorem dn_go {c : Nat → Nat} {e best k : Nat} {fp : Nat → Nat} (h : c k ≠ 46) : dnF c e fp best (k + 1) = dnF c e fp (min best (fp k + parF c k (e + 1))) k := by show (if _ then _ else _) = _; rw [if_neg h]

set_option maxRecDepth 100000 in
set_option maxHeartbeats 8000000 in
theorem fewestByParts_any (s t : ByteArray) (w : World) (h1 : 1 ≤ t.size) (h20 : t.size ≤ 20) (hst : s.size = t.size) :
    Calls Try.prog 28 #[.agg (tabA (cB t) t.size), .string s, .string t] w fun e w' => e = .returned (.int .i64 ((fpF (cB t) (cB s) t.size t.size : Nat) : Int)) ∧ Below w.heap.size w w' := by
  obtain ⟨C, hC⟩ : ∃ C, C = tabA (cB t) t.size := ⟨_, rfl⟩
  have HR0 : Hid (RowIs ((w.alloc (.cells C 42)).alloc (.cells zer21 40)) 40 w.heap.size (w.heap.size + 1) 21 (fun _ => 0)) := Lib.hid (RowIs.of_block (heap_alloc2_new w _ _) (Nat.le_succ _) (by unfold maxLen; omega))
  have HQ0 : Hid (RowIs ((w.alloc (.cells C 42)).alloc (.cells zer21 40)) 42 w.heap.size w.heap.size 441 (tbF (cB t) t.size 0)) := Lib.hid (by rw [hC]; exact RowIs.of_block (heap_alloc2_old w _ _) (Nat.le_refl _) (by unfold maxLen; omega))
  have HG0 : Hid (Below w.heap.size w ((w.alloc (.cells C 42)).alloc (.cells zer21 40))) := Lib.hid (below_next (below_new w _) (below_new _ _))
  rw [← hC]
  clear hC
  have hRn : w.heap.size ≠ w.heap.size + 1 := by omega
  have HTA : Hid (∀ r q, q ≤ t.size → r ≤ 20 → tbF (cB t) t.size 0 (r * 21 + q) = (parF (cB t) r q : Int)) := Lib.hid fun r q h2 h3 => by
    unfold tbF
    have := at_cell (a := r) (b := q) (by omega)
    rw [this.1, this.2, if_pos ⟨Nat.zero_le _, h2⟩]
  go_enter Try.func28, Try.ntmps28
  go_wp2
  go_loopw [8] (fun v wr => ∃ e : Nat, e ≤ t.size ∧ v = .int .i64 ((e + 1 : Nat) : Int) ∧ RowIs wr 40 w.heap.size (w.heap.size + 1) 21 (fun i => (fpF (cB t) (cB s) e i : Int)) ∧ RowIs wr 42 w.heap.size w.heap.size 441 (tbF (cB t) t.size 0) ∧ Below w.heap.size w wr) (fun v _ => t.size + 1 - (intOf v).toNat)
  case atStart => exact ⟨0, Nat.zero_le _, rfl, HR0.out, HQ0.out, HG0.out⟩
  case round =>
    clear HR0 HQ0 HG0
    obtain ⟨e, he, rfl, hrow, htab, hb⟩ := hrel
    have HR := Lib.hid hrow
    have HG := Lib.hid hb
    have HQ := Lib.hid htab
    clear hrow hb htab
    by_cases hlt : e < t.size
    · have ce := cB_at t e hlt
      have de := cB_at s e (by omega)
      have cp := HR.out.cell e (by omega)
      have HNEW := Lib.hid (fpF_new (cB t) (cB s) e)
      have HFB := Lib.hid (fp_20 (cB t) (cB s) e)
      have fb := fp_20 (cB t) (cB s) e e
      obtain ⟨b0, hb0⟩ : ∃ b : Nat, b = if cB s e = cB t e then fpF (cB t) (cB s) e e else 20 := ⟨_, rfl⟩
      have b20 : b0 ≤ 20 := by rw [hb0]; split <;> omega
      rw [← hb0] at HNEW
      have HB0 := Lib.hid hb0
      obtain ⟨f, hf⟩ : ∃ f, f = fpF (cB t) (cB s) e e := ⟨_, rfl⟩
      rw [← hf] at HB0 cp fb
      clear hf hb0
      have we : IntKind.i64.wrap (((e + 1 : Nat) : Int) - 1) = (e : Int) := by rw [IntKind.wrap_i64]; omega
      have hle : ((e + 1 : Nat) : Int) ≤ (t.size : Int) := by omega
      have ie0 : (0 : Int) ≤ (e : Int) := by omega
      have ie1 : (e : Int) < (t.size : Int) := by omega
      have ie2 : (e : Int) < (s.size : Int) := by omega
      have ie3 : (e : Int) < 21 := by omega
      obtain ⟨e1, he1⟩ : ∃ e1 : Nat, e1 = e + 1 := ⟨_, rfl⟩
      have HE1 := Lib.hid he1
      rw [← he1] at we hle ⊢
      have ie4 : (0 : Int) ≤ (e1 : Int) := by omega
      have ie5 : (e1 : Int) < 21 := by omega
      have hel : e1 ≤ 20 := by omega
      clear he1
      obtain ⟨D, hD⟩ : ∃ D, D = fpF (cB t) (cB s) (e + 1) (e + 1) := ⟨_, rfl⟩
      rw [← hD] at HNEW
      have HDV := Lib.hid hD.symm
      clear hD
      by_cases hc : cB s e = cB t e
      · have hq : ((s[e].toNat : Int) == (t[e].toNat : Int)) = true := by rw [← ce, ← de, hc]; simp
        have hbf : b0 = f := by have := HB0.out; rwa [if_pos hc] at this
        subst hbf
        clear hc ce de HB0
        go_wp2
        go_quiet (fail)
        go_wp2
        go_loopw [10, 9] (fun v u wx => ∃ k best dd : Nat, k ≤ e + 1 ∧ v = .int .i64 ((k : Int) - 1) ∧ u = .int .i64 (best : Int) ∧ best ≤ 20 ∧ Hid (dnF (cB t) e (fpF (cB t) (cB s) e) best k = D) ∧ wx = wr.drewN dd) (fun v _ _ => (intOf v + 1).toNat)
        case atStart => exact ⟨e + 1, b0, _, Nat.le_refl _, congrArg (Value.int .i64) (by omega), rfl, b20, Lib.hid HNEW.out.symm, rfl⟩
        case round =>
          obtain ⟨k, best, dd, hk, rfl, rfl, hbest, hD, rfl⟩ := hrel
          have HD := Lib.hid hD.out
          clear hD
          have HST : Hid (best = D → RowIs ((wr.drewN dd).setCell ⟨w.heap.size + 1, e1, none⟩ (.int .i64 (best : Int))) 40 w.heap.size (w.heap.size + 1) 21 (fun i => (fpF (cB t) (cB s) (e + 1) i : Int)) ∧ RowIs ((wr.drewN dd).setCell ⟨w.heap.size + 1, e1, none⟩ (.int .i64 (best : Int))) 42 w.heap.size w.heap.size 441 (tbF (cB t) t.size 0) ∧ Below w.heap.size w ((wr.drewN dd).setCell ⟨w.heap.size + 1, e1, none⟩ (.int .i64 (best : Int)))) := Lib.hid fun hbD => by
            refine ⟨((HR.out.drewN dd).store e1 (best : Int)).congr fun i _ => ?_, (HQ.out.drewN dd).far hRn e1 _, below_store (below_drewN HG.out dd) (Nat.le_succ _) e1 _⟩
            by_cases hi : i = e1
            · rw [if_pos hi, hi, HE1.out, HDV.out, hbD]
            · rw [if_neg hi, fpF_old (by rw [← HE1.out]; exact hi)]
          have hfz := (HR.out.drewN dd).frozen e1
          have hcl := (HR.out.drewN dd).cell e1 (by omega)
          obtain ⟨V0, hV0⟩ : ∃ V : Int, V = (fpF (cB t) (cB s) e e1 : Int) := ⟨_, rfl⟩
          rw [← hV0] at hcl
          clear hV0
          rcases Nat.eq_zero_or_pos k with hz | hz
          · subst hz
            have HBD : Hid (best = D) := Lib.hid HD.out
            have HS := Lib.hid (HST.out HBD.out)
            clear hk
            go_wp2
            go_roundw
            case rel => exact ⟨e + 1, by omega, congrArg (Value.int .i64) (by have := HE1.out; omega), HS.out.1, HS.out.2.1, HS.out.2.2⟩
            case measure => have := HE1.out; simp [intOf]; omega
          · obtain ⟨p, rfl⟩ : ∃ p, k = p + 1 := ⟨k - 1, by omega⟩
            rw [show (((p + 1 : Nat) : Int) - 1) = (p : Int) by omega]
            have ip0 : (0 : Int) ≤ (p : Int) := by omega
            have ip1 : (p : Int) < (t.size : Int) := by omega
            have ip2 : (p : Int) < 21 := by omega
            have cp2 := cB_at t p (by omega)
            by_cases hb : cB t p = 46
            · have hq2 : ((t[p].toNat : Int) != 46) = false := by rw [← cp2, hb]; rfl
              have HBD : Hid (best = D) := Lib.hid (by rw [← HD.out, dn_stop hb])
              have HS := Lib.hid (HST.out HBD.out)
              clear hb cp2 hz
              go_wp2
              go_roundw
              case rel => exact ⟨e + 1, by omega, congrArg (Value.int .i64) (by have := HE1.out; omega), HS.out.1, HS.out.2.1, HS.out.2.2⟩
              case measure => have := HE1.out; simp [intOf]; omega
            · have hq2 : ((t[p].toNat : Int) != 46) = true := by rw [← cp2, bne_iff_ne]; omega
              have l1 := HR.out.cell p (by omega)
              have l2 := HQ.out.cell (p * 21 + e1) (by omega)
              rw [HTA.out p e1 (by omega) (by omega)] at l2
              have HG2 := Lib.hid (dn_go (c := cB t) (e := e) (best := best) (k := p) (fp := fpF (cB t) (cB s) e) hb)
              rw [← HE1.out] at HG2
              have xb := HFB.out p
              have yb := parF_bd (cB t) p e1
              obtain ⟨x, hx⟩ : ∃ x, x = fpF (cB t) (cB s) e p := ⟨_, rfl⟩
              obtain ⟨y, hy⟩ : ∃ y, y = parF (cB t) p e1 := ⟨_, rfl⟩
              rw [← hx] at l1 xb HG2
              rw [← hy] at l2 yb HG2
              have wxy : IntKind.i64.wrap ((x : Int) + (y : Int)) = ((x + y : Nat) : Int) := by rw [IntKind.wrap_i64]; omega
              clear hx hy hb cp2 hz hcl hfz HST
              go_wp2
              go_quiet (fail)
              go_wp2
              go_roundw
              case rel => exact ⟨p, min best (x + y), _, by omega, by go_num, congrArg (Value.int .i64) (by omega), by omega, Lib.hid (by rw [← HD.out, HG2.out]), rfl⟩
              case measure => simp [intOf]
      · have hq : ((s[e].toNat : Int) == (t[e].toNat : Int)) = false := by rw [← ce, ← de, beq_eq_false_iff_ne]; omega
        have hbf : b0 = 20 := by have := HB0.out; rwa [if_neg hc] at this
        subst hbf
        clear hc ce de HB0 cp
        go_wp2
        go_quiet (fail)
        go_wp2
        go_loopw [10, 9] (fun v u wx => ∃ k best dd : Nat, k ≤ e + 1 ∧ v = .int .i64 ((k : Int) - 1) ∧ u = .int .i64 (best : Int) ∧ best ≤ 20 ∧ Hid (dnF (cB t) e (fpF (cB t) (cB s) e) best k = D) ∧ wx = wr.drewN dd) (fun v _ _ => (intOf v + 1).toNat)
        case atStart => exact ⟨e + 1, 20, _, Nat.le_refl _, congrArg (Value.int .i64) (by omega), rfl, b20, Lib.hid HNEW.out.symm, rfl⟩
        case round =>
          obtain ⟨k, best, dd, hk, rfl, rfl, hbest, hD, rfl⟩ := hrel
          have HD := Lib.hid hD.out
          clear hD
          have HST : Hid (best = D → RowIs ((wr.drewN dd).setCell ⟨w.heap.size + 1, e1, none⟩ (.int .i64 (best : Int))) 40 w.heap.size (w.heap.size + 1) 21 (fun i => (fpF (cB t) (cB s) (e + 1) i : Int)) ∧ RowIs ((wr.drewN dd).setCell ⟨w.heap.size + 1, e1, none⟩ (.int .i64 (best : Int))) 42 w.heap.size w.heap.size 441 (tbF (cB t) t.size 0) ∧ Below w.heap.size w ((wr.drewN dd).setCell ⟨w.heap.size + 1, e1, none⟩ (.int .i64 (best : Int)))) := Lib.hid fun hbD => by
            refine ⟨((HR.out.drewN dd).store e1 (best : Int)).congr fun i _ => ?_, (HQ.out.drewN dd).far hRn e1 _, below_store (below_drewN HG.out dd) (Nat.le_succ _) e1 _⟩
            by_cases hi : i = e1
            · rw [if_pos hi, hi, HE1.out, HDV.out, hbD]
            · rw [if_neg hi, fpF_old (by rw [← HE1.out]; exact hi)]
          have hfz := (HR.out.drewN dd).frozen e1
          have hcl := (HR.out.drewN dd).cell e1 (by omega)
          obtain ⟨V0, hV0⟩ : ∃ V : Int, V = (fpF (cB t) (cB s) e e1 : Int) := ⟨_, rfl⟩
          rw [← hV0] at hcl
          clear hV0
          rcases Nat.eq_zero_or_pos k with hz | hz
          · subst hz
            have HBD : Hid (best = D) := Lib.hid HD.out
            have HS := Lib.hid (HST.out HBD.out)
            clear hk
            go_wp2
            go_roundw
            case rel => exact ⟨e + 1, by omega, congrArg (Value.int .i64) (by have := HE1.out; omega), HS.out.1, HS.out.2.1, HS.out.2.2⟩
            case measure => have := HE1.out; simp [intOf]; omega
          · obtain ⟨p, rfl⟩ : ∃ p, k = p + 1 := ⟨k - 1, by omega⟩
            rw [show (((p + 1 : Nat) : Int) - 1) = (p : Int) by omega]
            have ip0 : (0 : Int) ≤ (p : Int) := by omega
            have ip1 : (p : Int) < (t.size : Int) := by omega
            have ip2 : (p : Int) < 21 := by omega
            have cp2 := cB_at t p (by omega)
            by_cases hb : cB t p = 46
            · have hq2 : ((t[p].toNat : Int) != 46) = false := by rw [← cp2, hb]; rfl
              have HBD : Hid (best = D) := Lib.hid (by rw [← HD.out, dn_stop hb])
              have HS := Lib.hid (HST.out HBD.out)
              clear hb cp2 hz
              go_wp2
              go_roundw
              case rel => exact ⟨e + 1, by omega, congrArg (Value.int .i64) (by have := HE1.out; omega), HS.out.1, HS.out.2.1, HS.out.2.2⟩
              case measure => have := HE1.out; simp [intOf]; omega
            · have hq2 : ((t[p].toNat : Int) != 46) = true := by rw [← cp2, bne_iff_ne]; omega
              have l1 := HR.out.cell p (by omega)
              have l2 := HQ.out.cell (p * 21 + e1) (by omega)
              rw [HTA.out p e1 (by omega) (by omega)] at l2
              have HG2 := Lib.hid (dn_go (c := cB t) (e := e) (best := best) (k := p) (fp := fpF (cB t) (cB s) e) hb)
              rw [← HE1.out] at HG2
              have xb := HFB.out p
              have yb := parF_bd (cB t) p e1
              obtain ⟨x, hx⟩ : ∃ x, x = fpF (cB t) (cB s) e p := ⟨_, rfl⟩
              obtain ⟨y, hy⟩ : ∃ y, y = parF (cB t) p e1 := ⟨_, rfl⟩
              rw [← hx] at l1 xb HG2
              rw [← hy] at l2 yb HG2
              have wxy : IntKind.i64.wrap ((x : Int) + (y : Int)) = ((x + y : Nat) : Int) := by rw [IntKind.wrap_i64]; omega
              clear hx hy hb cp2 hz hcl hfz HST
              go_wp2
              go_quiet (fail)
              go_wp2
              go_roundw
              case rel => exact ⟨p, min best (x + y), _, by omega, by go_num, congrArg (Value.int .i64) (by omega), by omega, Lib.hid (by rw [← HD.out, HG2.out]), rfl⟩
              case measure => simp [intOf]
    · obtain rfl : e = t.size := by omega
      have cl := HR.out.cell t.size (by omega)
      have it0 : (0 : Int) ≤ (t.size : Int) := by omega
      have it1 : (t.size : Int) < 21 := by omega
      go_wp2
      go_ret
      exact ⟨rfl, HG.out⟩
end Go.Proofs.Ytohmodjigneldaa.Tx
