/- 'spec.stOver': the model's fewest strokes from a fence to another one. No condition but the texts' lengths. -/
import Derived.Test.YtohmodjigneldaaTxFewWhole2
import Derived.Test.YtohmodjigneldaaTxFewPar
namespace Go.Proofs.Ytohmodjigneldaa.Tx
open Go.RowKit

theorem made_row (m : Nat) : madeCells #[Value.int .i64 0] m = (rowF m fun _ => 0).toArray := by
  apply Array.ext'
  have := toList_madeCells_one (Value.int .i64 0) m
  rw [this]
  unfold rowF
  rw [List.map_const', List.length_range]
theorem md_bd (c d : Nat → Nat) (i : Nat) : ∀ t, mdF c d i t ≤ fpF c d i (beg c i) + parF c (beg c i) (i + 1)
  | 0 => Nat.le_refl _
  | t + 1 => by
    have ih := md_bd c d i t
    by_cases h : t < beg c i
    · have e : mdF c d i (t + 1) = mdF c d i t := by show (if _ then _ else _) = _; rw [if_pos h]
      rw [e]; exact ih
    · rw [md_step (by omega)]; omega
theorem leads_succ {c d : Nat → Nat} {i : Nat} (h : leadsF c d i) (h2 : c i = 46 → d i = 46) : leadsF c d (i + 1) := fun k hk hc => by
  by_cases e : k = i
  · subst e; exact h2 hc
  · exact h k (by omega) hc
/-- what the model answers -/
def ovr (c d : Nat → Nat) (n : Nat) : Int := if (List.range n).all (fun i => decide (c i = 46 → d i = 46)) = true then (fpF c d n n : Int) else -1
theorem ovr_yes {c d : Nat → Nat} {n : Nat} (h : leadsF c d n) : ovr c d n = (fpF c d n n : Int) := by
  unfold ovr
  rw [if_pos]
  rw [List.all_eq_true]
  exact fun i hi => decide_eq_true (h i (List.mem_range.1 hi))
theorem ovr_no {c d : Nat → Nat} {n i : Nat} (hi : i < n) (h1 : c i = 46) (h2 : d i ≠ 46) : ovr c d n = -1 := by
  unfold ovr
  rw [if_neg]
  rw [List.all_eq_true]
  intro h
  exact h2 (of_decide_eq_true (h i (List.mem_range.2 hi)) h1)

set_option maxRecDepth 100000 in
set_option maxHeartbeats 8000000 in
theorem stOver_any (s t : ByteArray) (w : World) (h1 : 1 ≤ t.size) (h20 : t.size ≤ 20) (hst : s.size = t.size) (ha : ∀ k (hk : k < t.size), t[k].toNat < 128) :
    Calls Try.prog 22 #[.string s, .string t] w fun e w' => e = .returned (.int .i64 (ovr (cB t) (cB s) t.size)) ∧ Below w.heap.size w w' := by
  have HWH := Lib.hid (stWhole_any t w h1 h20 ha)
  obtain ⟨m, hm⟩ : ∃ m : Nat, m = t.size + 1 := ⟨_, rfl⟩
  have hmk := run_make_row' (P := Try.prog) 32 3 (.int .i64 0) 8 Try.underlying32 info_int rfl .i64 .i64 m (by omega) (by omega)
  have wm : IntKind.i64.wrap ((t.size : Int) + 1) = (m : Int) := by rw [IntKind.wrap_i64]; omega
  have HM := Lib.hid hm
  clear ha hm
  go_enter Try.func22, Try.ntmps22
  go_wp2_with fail
  refine HWH.out.mono ?_
  rintro e w1 ⟨V, vs, rfl, hrows, hb⟩
  obtain ⟨g, cap, rfl, -⟩ := hrows.outAt h1
  have HRW := Lib.hid hrows
  obtain ⟨top, htop⟩ : ∃ t, t = w1.heap.size := ⟨_, rfl⟩
  have HB1 := Lib.hid hb
  have HF0 : Hid (RowIs (w1.alloc (.cells (madeCells #[Value.int .i64 0] m) 3)) 3 w1.heap.size w1.heap.size m (fun i => (fpF (cB t) (cB s) 0 i : Int))) := Lib.hid (by
    rw [made_row]; exact RowIs.of_block (heap_alloc_new w1 _) (Nat.le_refl _) (by have := HM.out; unfold maxLen; omega))
  have HT0 : Hid (RowsTo (w1.alloc (.cells (madeCells #[Value.int .i64 0] m) 3)) w.heap.size w1.heap.size (.slice (some ⟨g, 0, none⟩) t.size cap) vs ((tabL t.size (wF (cB t) 0)).map intsV)) := Lib.hid (hrows.below (below_new w1 _))
  have HG0 : Hid (Below w.heap.size w (w1.alloc (.cells (madeCells #[Value.int .i64 0] m) 3))) := Lib.hid (below_next hb (below_new w1 _))
  have hwt : w.heap.size ≤ w1.heap.size := hb.size
  rw [← htop] at HF0 HT0
  have HTOP := Lib.hid htop
  have HPB := Lib.hid (parF_bd (cB t))
  have HFB := Lib.hid (fp_20 (cB t) (cB s))
  have HMB := Lib.hid (md_bd (cB t) (cB s))
  clear hrows hb HWH
  go_wp2
  rw [← htop]
  clear htop
  go_loopw [7, 8] (fun u v wr => ∃ i : Nat, i ≤ t.size ∧ v = .int .i64 (i : Int) ∧ u = .int .i64 ((beg (cB t) i : Nat) : Int) ∧ RowIs wr 3 top top m (fun k => (fpF (cB t) (cB s) i k : Int)) ∧ RowsTo wr w.heap.size top (.slice (some ⟨g, 0, none⟩) t.size cap) vs ((tabL t.size (wF (cB t) 0)).map intsV) ∧ Below w.heap.size w wr ∧ Hid (leadsF (cB t) (cB s) i)) (fun _ v _ => t.size - (intOf v).toNat)
  case atStart => exact ⟨0, Nat.zero_le _, rfl, rfl, HF0.out, HT0.out, HG0.out, Lib.hid fun i hi => absurd hi (Nat.not_lt_zero i)⟩
  case round =>
    clear HF0 HT0 HG0
    obtain ⟨i, hi, rfl, rfl, hrow, htab, hb, HLD⟩ := hrel
    have HR := Lib.hid hrow
    have HT := Lib.hid htab
    have HB := Lib.hid hb
    clear hrow htab hb
    have iii : (0 : Int) ≤ (i : Int) := by omega
    by_cases hlt : i < t.size
    · have ce : t[i].toNat = cB t i := (cB_at t i hlt).symm
      have de : s[i].toNat = cB s i := (cB_at s i (by omega)).symm
      have ii1 : (i : Int) < (t.size : Int) := by omega
      have ii2 : (i : Int) < (s.size : Int) := by omega
      have ii3 : (i : Int) < (m : Int) := by have := HM.out; omega
      have wi1 : IntKind.i64.wrap ((i : Int) + 1) = ((i + 1 : Nat) : Int) := by rw [IntKind.wrap_i64]; omega
      have ii4 : (0 : Int) ≤ ((i + 1 : Nat) : Int) := by omega
      have ii5 : ((i + 1 : Nat) : Int) < (m : Int) := by have := HM.out; omega
      have ii6 : (i : Int) + 1 < (m : Int) := by have := HM.out; omega
      have ii7 : (0 : Int) ≤ (i : Int) + 1 := by omega
      have HST : Hid (∀ (x : Int) (d : Nat), x = (fpF (cB t) (cB s) (i + 1) (i + 1) : Int) → RowIs ((wr.drewN d).setCell ⟨top, i + 1, none⟩ (.int .i64 x)) 3 top top m (fun k => (fpF (cB t) (cB s) (i + 1) k : Int)) ∧ RowsTo ((wr.drewN d).setCell ⟨top, i + 1, none⟩ (.int .i64 x)) w.heap.size top (.slice (some ⟨g, 0, none⟩) t.size cap) vs ((tabL t.size (wF (cB t) 0)).map intsV) ∧ Below w.heap.size w ((wr.drewN d).setCell ⟨top, i + 1, none⟩ (.int .i64 x))) := Lib.hid fun x d hx => by
        refine ⟨((HR.out.drewN d).store (i + 1) x).congr fun k _ => ?_, (HT.out.drewN d).below (below_store (Below.refl _ _) (Nat.le_refl top) (i + 1) _), below_store (below_drewN HB.out d) (by have := HTOP.out; omega) (i + 1) _⟩
        by_cases hk : k = i + 1
        · rw [if_pos hk, hk, hx]
        · rw [if_neg hk, fpF_old hk]
      have fz := HR.out.frozen (i + 1)
      have cz := HR.out.cell (i + 1) (by have := HM.out; omega)
      have ci := HR.out.cell i (by have := HM.out; omega)
      obtain ⟨V0, hV0⟩ : ∃ V : Int, V = (fpF (cB t) (cB s) i (i + 1) : Int) := ⟨_, rfl⟩
      rw [← hV0] at cz
      clear hV0
      have fb := HFB.out i i
      by_cases hc : cB t i = 46
      · have hq1 : ((t[i].toNat : Int) == 46) = true := by rw [ce, hc]; rfl
        by_cases hd : cB s i = 46
        · have hq2 : ((s[i].toNat : Int) != 46) = false := by rw [de, hd]; rfl
          have HBG := Lib.hid (beg_bare hc)
          have HS := Lib.hid (HST.out (fpF (cB t) (cB s) i i : Int) 0 (by rw [fp_bare hc hd]))
          have HL := Lib.hid (leads_succ HLD.out fun _ => hd)
          obtain ⟨f, hf⟩ : ∃ f, f = fpF (cB t) (cB s) i i := ⟨_, rfl⟩
          rw [← hf] at ci HS fb
          clear hf HST hc hd ce de
          go_wp2
          go_roundw
          case rel => exact ⟨i + 1, by omega, by go_num, by rw [HBG.out]; go_num, HS.out.1, HS.out.2.1, HS.out.2.2, HL⟩
          case measure => simp [intOf]; omega
        · have hq2 : ((s[i].toNat : Int) != 46) = true := by rw [de, bne_iff_ne]; omega
          have HR2 := Lib.hid (ovr_no hlt hc hd)
          clear HST hc hd ce de ci cz fz
          go_wp2
          go_ret
          exact ⟨ret_int HR2.out.symm, HB.out⟩
      · have hq1 : ((t[i].toNat : Int) == 46) = false := by rw [ce, beq_eq_false_iff_ne]; omega
        have HBG := Lib.hid (beg_not hc)
        have hbl := beg_le (cB t) i
        have HL := Lib.hid (leads_succ HLD.out fun h => absurd h hc)
        have HSAME := Lib.hid (md_same (n := i + 1) (i := i) (by omega) HL.out (Nat.lt_succ_self i) hc)
        have HMS := Lib.hid (md_start (c := cB t) (d := cB s) (i := i) (beg (cB t) i) (Nat.le_refl _))
        have HSTEP := Lib.hid fun j h => md_step (c := cB t) (d := cB s) (i := i) (t := j) h
        have HMDB := Lib.hid (HMB.out i)
        have cb := HR.out.cell (beg (cB t) i) (by have := HM.out; omega)
        have hfb2 := HFB.out i (beg (cB t) i)
        have hpb2 := HPB.out (beg (cB t) i) (i + 1)
        obtain ⟨b, hbb⟩ : ∃ b, b = beg (cB t) i := ⟨_, rfl⟩
        rw [← hbb] at HBG hbl HMS HSTEP HMDB cb hfb2 hpb2 ⊢
        obtain ⟨gb, cbb, hgb, -⟩ := HT.out.rowAt (i := b) (by omega)
        obtain ⟨g', c', he, hout⟩ := HT.out.outAt h1
        injection he with he1 he2 he3
        injection he1 with he1
        injection he1 with he1
        subst he1
        have HOUT := Lib.hid hout
        have o1 := hout b _ hgb
        have r1 := HT.out.cellAt (i := b) (q := i) (by omega) hlt hgb
        rw [wF_at hbl] at r1
        obtain ⟨x, hx⟩ : ∃ x, x = fpF (cB t) (cB s) i b := ⟨_, rfl⟩
        obtain ⟨y, hy⟩ : ∃ y, y = parF (cB t) b (i + 1) := ⟨_, rfl⟩
        rw [← hx] at cb hfb2 HMS HMDB
        rw [← hy] at r1 hpb2 HMS HMDB
        have wxy : IntKind.i64.wrap ((x : Int) + (y : Int)) = ((x + y : Nat) : Int) := by rw [IntKind.wrap_i64]; omega
        have ib0 : (0 : Int) ≤ (b : Int) := by omega
        have ib1 : (b : Int) < (t.size : Int) := by omega
        have ib2 : (b : Int) < (m : Int) := by have := HM.out; omega
        have HBB := Lib.hid hbb
        have HL1 : Hid (∀ (p q : Int) (d n : Nat), Calls Try.prog 39 #[.int .i64 p, .int .i64 q] (wr.drewN (d + n)) fun e w' => e = .returned (.int .i64 (min p q)) ∧ ∃ q, w' = wr.drewN (d + q)) := Lib.hid fun p q d n => (leastS_any p q _).mono fun _ _ h => ⟨h.1, n, h.2.symm⟩
        have HL2 : Hid (∀ a b W, Calls Try.prog 39 #[.int .i64 a, .int .i64 b] W fun e w' => e = .returned (.int .i64 (min a b)) ∧ W = w') := Lib.hid leastS_any
        clear hx hy hgb hout he2 he3 hbb hc
        go_wp2
        go_quiet (fail)
        go_wp2
        go_loopw [9, 10] (fun u v wz => ∃ j d : Nat, b ≤ j ∧ j ≤ i + 1 ∧ v = .int .i64 (j : Int) ∧ u = .int .i64 ((mdF (cB t) (cB s) i j : Nat) : Int) ∧ wz = wr.drewN d) (fun _ v _ => i + 1 - (intOf v).toNat)
        case atStart => exact ⟨b, _, Nat.le_refl _, by omega, rfl, by rw [HMS.out, Int.natCast_add], rfl⟩
        case round =>
          obtain ⟨j, d, hj1, hj2, rfl, rfl, rfl⟩ := hrel
          have hmb := HMDB.out j
          by_cases hji : j ≤ i
          · obtain ⟨gj, cj, hgj, -⟩ := HT.out.rowAt (i := j) (by omega)
            have o2 := HOUT.out j _ hgj
            have r2 := HT.out.cellAt (i := j) (q := i) (by omega) hlt hgj
            rw [wF_at hji] at r2
            have c2 := HR.out.cell j (by have := HM.out; omega)
            have HN := Lib.hid (HSTEP.out j hj1)
            have b2 := HFB.out i j
            have b3 := HPB.out j (i + 1)
            obtain ⟨x2, hx⟩ : ∃ x, x = fpF (cB t) (cB s) i j := ⟨_, rfl⟩
            obtain ⟨y2, hy⟩ : ∃ y, y = parF (cB t) j (i + 1) := ⟨_, rfl⟩
            obtain ⟨z, hz⟩ : ∃ z, z = mdF (cB t) (cB s) i j := ⟨_, rfl⟩
            rw [← hx] at c2 b2 HN
            rw [← hy] at r2 b3 HN
            rw [← hz] at HN hmb ⊢
            have wxy2 : IntKind.i64.wrap ((x2 : Int) + (y2 : Int)) = ((x2 + y2 : Nat) : Int) := by rw [IntKind.wrap_i64]; omega
            have ij0 : (0 : Int) ≤ (j : Int) := by omega
            have ij1 : (j : Int) < (t.size : Int) := by omega
            have ij2 : (j : Int) < (m : Int) := by have := HM.out; omega
            have HLL := Lib.hid (HL1.out (z : Int) ((x2 : Int) + (y2 : Int)) d)
            clear hx hy hz hgj fz cz ci o1 r1 cb HST
            go_wp2
            go_quiet (first | (go_at_call 39; with_reducible exact HLL.out _))
            go_wp2
            go_roundw
            case rel => exact ⟨j + 1, _, by omega, by omega, by go_num, congrArg (Value.int .i64) (by rw [HN.out]; omega), rfl⟩
            case measure => simp [intOf]; omega
          · obtain rfl : j = i + 1 := by omega
            obtain ⟨z, hz⟩ : ∃ z, z = mdF (cB t) (cB s) i (i + 1) := ⟨_, rfl⟩
            rw [← hz] at HSAME hmb ⊢
            obtain ⟨f, hf⟩ : ∃ f, f = fpF (cB t) (cB s) i i := ⟨_, rfl⟩
            rw [← hf] at HSAME ci fb
            clear hz hf
            by_cases hsd : cB s i = cB t i
            · have hq3 : ((s[i].toNat : Int) == (t[i].toNat : Int)) = true := by rw [ce, de, hsd]; simp
              have HV : Hid (((min z f : Nat) : Int) = (fpF (cB t) (cB s) (i + 1) (i + 1) : Int)) := Lib.hid (by have := HSAME.out; rw [if_pos hsd] at this; rw [this])
              have HS := Lib.hid fun dd => HST.out ((min z f : Nat) : Int) dd HV.out
              have emin : ((min z f : Nat) : Int) = min (z : Int) (f : Int) := by omega
              rw [emin] at HS
              clear hsd ce de emin HST
              go_wp2
              go_quiet (fail)
              go_wp2_with (go_at_call 39; refine (HL2.out _ _ _).mono ?_; rintro e w2 ⟨rfl, rfl⟩)
              go_roundw
              case rel => exact ⟨i + 1, by omega, by go_num, by rw [HBG.out], (HS.out _).1, (HS.out _).2.1, (HS.out _).2.2, HL⟩
              case measure => simp [intOf]; omega
            · have hq3 : ((s[i].toNat : Int) == (t[i].toNat : Int)) = false := by rw [ce, de, beq_eq_false_iff_ne]; omega
              have HV : Hid ((z : Int) = (fpF (cB t) (cB s) (i + 1) (i + 1) : Int)) := Lib.hid (by have := HSAME.out; rw [if_neg hsd] at this; rw [this])
              have HS := Lib.hid fun dd => HST.out (z : Int) dd HV.out
              clear hsd ce de HST
              go_wp2
              go_quiet (fail)
              go_wp2
              go_roundw
              case rel => exact ⟨i + 1, by omega, by go_num, by rw [HBG.out], (HS.out _).1, (HS.out _).2.1, (HS.out _).2.2, HL⟩
              case measure => simp [intOf]; omega
    · obtain rfl : i = t.size := by omega
      have cl := HR.out.cell t.size (by have := HM.out; omega)
      have it1 : (t.size : Int) < (m : Int) := by have := HM.out; omega
      have HR2 := Lib.hid (ovr_yes HLD.out)
      go_wp2
      go_ret
      exact ⟨ret_int HR2.out.symm, HB.out⟩
end Go.Proofs.Ytohmodjigneldaa.Tx
