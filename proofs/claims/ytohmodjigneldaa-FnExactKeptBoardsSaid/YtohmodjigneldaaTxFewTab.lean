/- 'impl.strokesOfParts': the table of the fewest strokes for each part. No condition but the text's length. -/
import Derived.Test.YtohmodjigneldaaTxRowArr
import Derived.Test.YtohmodjigneldaaTxFewMath
namespace Go.Proofs.Ytohmodjigneldaa.Tx
open Go.RowKit

/-- a byte of a text, as a number -/
def cB (s : ByteArray) (i : Nat) : Nat := (s.data.toList.getD i 0).toNat
theorem cB_at (s : ByteArray) (i : Nat) (h : i < s.size) : cB s i = s[i].toNat := by
  unfold cB
  rw [List.getD_eq_getElem?_getD, List.getElem?_eq_getElem (by simpa using h)]; rfl
/-- the table's cell i, where the rows from lo on are done -/
def tbF (c : Nat → Nat) (n lo : Nat) (i : Nat) : Int := if lo ≤ i / 21 ∧ i % 21 ≤ n then (parF c (i / 21) (i % 21) : Int) else 0
/-- the row st is done below column en -/
def tbR (c : Nat → Nat) (n st en : Nat) (i : Nat) : Int := if (st < i / 21 ∨ (i / 21 = st ∧ i % 21 < en)) ∧ i % 21 ≤ n then (parF c (i / 21) (i % 21) : Int) else 0
theorem at_cell {a b : Nat} (h : b < 21) : (a * 21 + b) / 21 = a ∧ (a * 21 + b) % 21 = b := by omega
theorem tbR_start (c : Nat → Nat) (n st i : Nat) : tbF c n (st + 1) i = tbR c n st (st + 1) i := by
  unfold tbF tbR
  by_cases h : st + 1 ≤ i / 21 ∧ i % 21 ≤ n
  · rw [if_pos h, if_pos ⟨.inl (by omega), h.2⟩]
  · rw [if_neg h]
    by_cases h2 : (st < i / 21 ∨ (i / 21 = st ∧ i % 21 < st + 1)) ∧ i % 21 ≤ n
    · rw [if_pos h2, parF_zero (by omega)]; rfl
    · rw [if_neg h2]
theorem tbR_end (c : Nat → Nat) (n st i : Nat) : tbR c n st (n + 1) i = tbF c n st i := by
  unfold tbF tbR
  by_cases h : st ≤ i / 21 ∧ i % 21 ≤ n
  · rw [if_pos h, if_pos ⟨by omega, h.2⟩]
  · rw [if_neg h, if_neg (by omega)]
theorem tbR_set {c : Nat → Nat} {n st en : Nat} (he : en ≤ n) (hn : n ≤ 20) (i : Nat) : (if i = st * 21 + en then (parF c st en : Int) else tbR c n st en i) = tbR c n st (en + 1) i := by
  unfold tbR
  by_cases h : i = st * 21 + en
  · rw [if_pos h]
    have := at_cell (a := st) (b := en) (by omega)
    rw [h, this.1, this.2, if_pos ⟨.inr ⟨rfl, by omega⟩, he⟩]
  · rw [if_neg h]
    by_cases h2 : (st < i / 21 ∨ (i / 21 = st ∧ i % 21 < en)) ∧ i % 21 ≤ n
    · rw [if_pos h2, if_pos ⟨by omega, h2.2⟩]
    · rw [if_neg h2, if_neg (by omega)]
theorem tbF_none (c : Nat → Nat) (n i : Nat) : tbF c n n i = 0 := by
  unfold tbF
  split
  · rw [parF_zero (by omega)]; rfl
  · rfl
theorem tbR_at {c : Nat → Nat} {n st en r q : Nat} (hq : q ≤ n) (hn : n ≤ 20) (h : st < r) : tbR c n st en (r * 21 + q) = (parF c r q : Int) := by
  unfold tbR
  have := at_cell (a := r) (b := q) (by omega)
  rw [this.1, this.2, if_pos ⟨.inl h, hq⟩]
theorem zeros441 : Try.zeroCells42 = (rowF 441 fun _ => 0).toArray := by kernel_rfl
def tabA (c : Nat → Nat) (n : Nat) : Array Value := (rowF 441 (tbF c n 0)).toArray
theorem info_tab : (Try.prog.info? 42).map (·.size) = some 441 := by kernel_rfl

set_option maxRecDepth 100000 in
set_option maxHeartbeats 8000000 in
theorem strokesOfParts_any (s : ByteArray) (w : World) (h1 : 1 ≤ s.size) (h20 : s.size ≤ 20) :
    Calls Try.prog 29 #[.string s] w fun e w' => e = .returned (.agg (tabA (cB s) s.size)) ∧ Below w.heap.size w w' := by
  obtain ⟨W1, hW1⟩ : ∃ W1, W1 = (w.alloc (.cells Try.zeroCells42 42)).alloc (.cells Try.zeroCells42 42) := ⟨_, rfl⟩
  have HR0 : Hid (RowIs W1 42 w.heap.size (w.heap.size + 1) 441 (fun _ => 0)) := Lib.hid (by rw [hW1, zeros441]; exact RowIs.of_block (heap_alloc2_new w _ _) (Nat.le_succ _) (by unfold maxLen; omega))
  have HQ0 : Hid (RowIs W1 42 w.heap.size w.heap.size 441 (fun _ => 0)) := Lib.hid (by rw [hW1, zeros441]; exact RowIs.of_block (heap_alloc2_old w _ _) (Nat.le_refl _) (by unfold maxLen; omega))
  have HG0 : Hid (Below w.heap.size w W1) := Lib.hid (by rw [hW1]; exact below_next (below_new w _) (below_new _ _))
  obtain ⟨n, hn⟩ : ∃ n, n = s.size := ⟨_, rfl⟩
  have wn : IntKind.i64.wrap ((s.size : Int) - 1) = (s.size : Int) - 1 := by rw [IntKind.wrap_i64]; omega
  go_enter Try.func29, Try.ntmps29
  go_wp2
  rw [← hW1]
  clear hW1
  go_loopw [4] (fun v wr => ∃ lo : Nat, lo ≤ s.size ∧ v = .int .i64 ((lo : Int) - 1) ∧ RowIs wr 42 w.heap.size (w.heap.size + 1) 441 (tbF (cB s) s.size lo) ∧ RowIs wr 42 w.heap.size w.heap.size 441 (fun _ => 0) ∧ Below w.heap.size w wr) (fun v _ => (intOf v + 1).toNat)
  case atStart => exact ⟨s.size, Nat.le_refl _, by first | rfl | go_num, HR0.out.congr (fun i _ => (tbF_none _ _ i).symm), HQ0.out, HG0.out⟩
  case round =>
    clear HR0 HQ0 HG0
    obtain ⟨lo, hlo, rfl, hrow, hres, hb⟩ := hrel
    have HR := Lib.hid hrow
    have HG := Lib.hid hb
    have HQ := Lib.hid hres
    clear hrow hb hres
    rcases Nat.eq_zero_or_pos lo with hz | hz
    · subst hz
      have HBK : Hid (wr.heap[w.heap.size + 1]? = some (.cells (tabA (cB s) s.size) 42 (0, 0))) := Lib.hid HR.out.block
      have HBQ := Lib.hid HQ.out.block
      have HIL : Hid ((Try.prog.info? 42).map (·.size) = some (tabA (cB s) s.size).size) := Lib.hid (by rw [info_tab]; simp [tabA, rowF_len])
      have HIS : Hid ((rowF 441 fun _ => 0).toArray.size = (tabA (cB s) s.size).size) := Lib.hid (by simp [tabA, rowF_len])
      have HO1 : Hid ((tabA (cB s) s.size).all (·.oneCell') = true) := Lib.hid (rowF_one 441 _)
      obtain ⟨C, hC⟩ : ∃ C, C = tabA (cB s) s.size := ⟨_, rfl⟩
      rw [← hC] at HBK HIL HIS HO1
      have HCC := Lib.hid hC
      clear HR HQ hC
      go_wp2_with (first
        | (refine wpList_load_row rfl 42 (.tmp 3) rfl (w.heap.size + 1) rfl 42 _ (0, 0) _ HBK.out Try.underlying42 rfl HIL.out ?_)
        | (refine wpList_store_row rfl 42 (.tmp 2) (.tmp 63) rfl w.heap.size _ rfl rfl 42 _ HBQ.out HIL.out HIS.out HO1.out ?_))
      refine bodyPost_ret (results_cell_row rfl _ _ w.heap.size 42 _ (0, 0) _ rfl (setRow_heap _ w.heap.size _ _ 42 (0, 0) HBQ.out) Try.underlying42 rfl HIL.out) rfl ?_
      exact ⟨congrArg (fun c => Ending.returned (.agg c)) HCC.out, below_setRow HG.out (Nat.le_refl _)⟩
    · obtain ⟨st, rfl⟩ : ∃ st, lo = st + 1 := ⟨lo - 1, by omega⟩
      rw [show (((st + 1 : Nat) : Int) - 1) = (st : Int) by omega]
      have is0 : (0 : Int) ≤ (st : Int) := by omega
      have wst : IntKind.i64.wrap ((st : Int) + 1) = (st : Int) + 1 := by rw [IntKind.wrap_i64]; omega
      have HR1 := Lib.hid (HR.out.congr (fun i _ => tbR_start (cB s) s.size st i))
      clear HR
      go_wp2
      go_loopw [5] (fun v wr2 => ∃ en : Nat, st + 1 ≤ en ∧ en ≤ s.size + 1 ∧ v = .int .i64 (en : Int) ∧ RowIs wr2 42 w.heap.size (w.heap.size + 1) 441 (tbR (cB s) s.size st en) ∧ RowIs wr2 42 w.heap.size w.heap.size 441 (fun _ => 0) ∧ Below w.heap.size w wr2) (fun v _ => s.size + 1 - (intOf v).toNat)
      case atStart => exact ⟨st + 1, Nat.le_refl _, by omega, by go_num, HR1.out, HQ.out, HG.out⟩
      case round =>
        clear HR1 HQ HG
        obtain ⟨en, he1, he2, rfl, hrow, hres, hb⟩ := hrel
        have HR := Lib.hid hrow
        have HG := Lib.hid hb
        have HQ := Lib.hid hres
        clear hrow hb hres
        by_cases hen : en ≤ s.size
        · have c1 : wr.cell? ⟨w.heap.size + 1, (st + 1) * 21 + en, none⟩ = some (.int .i64 (parF (cB s) (st + 1) en)) := by
            rw [HR.out.cell _ (by omega), tbR_at hen h20 (by omega)]
          have HB0 := Lib.hid (bst_start (cB s) st en)
          have HCL : Hid (∀ r q, st < r → r ≤ s.size → q ≤ s.size → wr.cell? ⟨w.heap.size + 1, r * 21 + q, none⟩ = some (.int .i64 (parF (cB s) r q))) := Lib.hid fun r q q1 q2 q3 => by
            rw [HR.out.cell _ (by omega), tbR_at q3 h20 q1]
          have HPB := Lib.hid (parF_bd (cB s))
          have HBB := Lib.hid fun t => bst_bd (c := cB s) (s := st) (e := en) (t := t)
          have hpb := parF_bd (cB s) (st + 1) en
          obtain ⟨p, hp⟩ : ∃ p, p = parF (cB s) (st + 1) en := ⟨_, rfl⟩
          rw [← hp] at c1 HB0 hpb
          have wp1 : IntKind.i64.wrap (1 + (p : Int)) = ((1 + p : Nat) : Int) := by rw [IntKind.wrap_i64]; omega
          have ie0 : (0 : Int) ≤ (en : Int) := by omega
          have ie1 : (en : Int) < 21 := by omega
          have is1 : (st : Int) + 1 < 21 := by omega
          have HPE := Lib.hid hp
          clear hp
          go_wp2
          go_loopw [7, 6] (fun v u wx => ∃ o d : Nat, st + 1 ≤ o ∧ o ≤ en ∧ v = .int .i64 (o : Int) ∧ u = .int .i64 ((bstF (cB s) st en o : Nat) : Int) ∧ wx = wr.drewN d) (fun v _ _ => en - (intOf v).toNat)
          case atStart => exact ⟨st + 1, 0, Nat.le_refl _, he1, by go_num, by rw [HB0.out, Int.natCast_add]; rfl, rfl⟩
          case round =>
            obtain ⟨o, d, ho1, ho2, rfl, rfl, rfl⟩ := hrel
            have hbb := HBB.out o
            by_cases hoe : o < en
            · have co : s[o].toNat = cB s o := (cB_at s o (by omega)).symm
              have cs : s[st].toNat = cB s st := (cB_at s st (by omega)).symm
              have io0 : (0 : Int) ≤ (o : Int) := by omega
              have io1 : (o : Int) < (s.size : Int) := by omega
              have ist1 : (st : Int) < (s.size : Int) := by omega
              by_cases hc : cB s o = cB s st
              · have hq : ((s[o].toNat : Int) == (s[st].toNat : Int)) = true := by rw [co, cs, hc]; simp
                have c2 := HCL.out (st + 1) o (by omega) (by omega) (by omega)
                have c3 := HCL.out o en (by omega) (by omega) (by omega)
                have b2 := HPB.out (st + 1) o
                have b3 := HPB.out o en
                have HN := Lib.hid (bst_yes (c := cB s) (s := st) (e := en) (t := o) (by omega) hc)
                obtain ⟨x, hx⟩ : ∃ x, x = parF (cB s) (st + 1) o := ⟨_, rfl⟩
                obtain ⟨y, hy⟩ : ∃ y, y = parF (cB s) o en := ⟨_, rfl⟩
                obtain ⟨z, hz⟩ : ∃ z, z = bstF (cB s) st en o := ⟨_, rfl⟩
                rw [← hx] at c2 b2 HN
                rw [← hy] at c3 b3 HN
                rw [← hz] at hbb HN ⊢
                have wxy : IntKind.i64.wrap ((x : Int) + (y : Int)) = ((x + y : Nat) : Int) := by rw [IntKind.wrap_i64]; omega
                clear hx hy hz hc co cs
                go_wp2
                go_quiet (fail)
                go_wp2
                go_quiet (fail)
                go_wp2
                go_roundw
                case rel => exact ⟨o + 1, _, by omega, by omega, by go_num, congrArg (Value.int .i64) (by rw [HN.out]; omega), rfl⟩
                case measure => simp [intOf]; omega
              · have hq : ((s[o].toNat : Int) == (s[st].toNat : Int)) = false := by rw [co, cs, beq_eq_false_iff_ne]; omega
                have HN := Lib.hid (bst_no (c := cB s) (s := st) (e := en) (t := o) hc)
                clear hc co cs
                go_wp2
                go_quiet (fail)
                go_wp2
                go_roundw
                case rel => exact ⟨o + 1, _, by omega, by omega, by go_num, by rw [HN.out], rfl⟩
                case measure => simp [intOf]; omega
            · obtain rfl : o = en := by omega
              have HF := Lib.hid (parF_bst (c := cB s) (s := st) (e := o) (by omega))
              have HRD := Lib.hid (HR.out.drewN d)
              have hfz := (HR.out.drewN d).frozen (st * 21 + o)
              have hcl := (HR.out.drewN d).cell (st * 21 + o) (by omega)
              obtain ⟨V0, hV0⟩ : ∃ V, V = tbR (cB s) s.size st o (st * 21 + o) := ⟨_, rfl⟩
              rw [← hV0] at hcl
              obtain ⟨z, hz⟩ : ∃ z, z = bstF (cB s) st o o := ⟨_, rfl⟩
              rw [← hz] at hbb HF ⊢
              have HS := Lib.hid ((HRD.out.store (st * 21 + o) (z : Int)).congr (G := tbR (cB s) s.size st (o + 1)) (fun i _ => by rw [← HF.out]; exact tbR_set hen h20 i))
              have hRn : w.heap.size ≠ w.heap.size + 1 := by omega
              have HQS := Lib.hid ((HQ.out.drewN d).far hRn (st * 21 + o) (.int .i64 (z : Int)))
              have HGS := Lib.hid (below_store (below_drewN HG.out d) (Nat.le_succ w.heap.size) (st * 21 + o) (.int .i64 (z : Int)))
              clear hz hV0 HRD
              go_wp2
              go_roundw
              case rel => exact ⟨o + 1, by omega, by omega, by go_num, HS.out, HQS.out, HGS.out⟩
              case measure => simp [intOf]; omega
        · obtain rfl : en = s.size + 1 := by omega
          have HE := Lib.hid (HR.out.congr (fun i _ => tbR_end (cB s) s.size st i))
          go_wp2
          go_roundw
          case rel => exact ⟨st, by omega, by go_num, HE.out, HQ.out, HG.out⟩
          case measure => simp [intOf]
end Go.Proofs.Ytohmodjigneldaa.Tx
