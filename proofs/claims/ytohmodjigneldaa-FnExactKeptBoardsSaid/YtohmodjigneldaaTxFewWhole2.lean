/- 'spec.stWhole': the walk. No condition but the text's length. -/
import Derived.Test.YtohmodjigneldaaTxFewWhole
import Derived.Deep.OwnRows
namespace Go.Proofs.Ytohmodjigneldaa.Tx
open Go.RowKit Go.Lib

theorem heap_two (w : World) (o p : Obj) : ((w.alloc o).alloc p).heap[w.heap.size + 1]? = some p := by
  rw [show w.heap.size + 1 = (w.alloc o).heap.size by simp]; exact heap_alloc_new _ _
theorem leastS_any (a b : Int) (w : World) : Calls Try.prog 39 #[.int .i64 a, .int .i64 b] w fun e w' => e = .returned (.int .i64 (min a b)) ∧ w = w' := by
  by_cases h : a < b
  · have HM : Hid (min a b = a) := Lib.hid (by omega)
    rw [HM.out]
    go_enter Try.func39, Try.ntmps39
    go_wp2
    go_ret
    exact ⟨rfl, rfl⟩
  · have HM : Hid (min a b = b) := Lib.hid (by omega)
    rw [HM.out]
    go_enter Try.func39, Try.ntmps39
    go_wp2
    go_ret
    exact ⟨rfl, rfl⟩
theorem zerosV (n : Nat) : (madeCells (Value.int .i64 0).cells n).toList = intsV (List.replicate n 0) := by
  rw [show (Value.int .i64 0).cells = #[Value.int .i64 0] from rfl, toList_madeCells_one]
  unfold intsV
  rw [List.map_replicate]

set_option maxRecDepth 100000 in
set_option maxHeartbeats 8000000 in
theorem stWhole_any (s : ByteArray) (w : World) (h1 : 1 ≤ s.size) (h20 : s.size ≤ 20) (ha : ∀ k (hk : k < s.size), s[k].toNat < 128) :
    Calls Try.prog 38 #[.string s] w fun e w' => ∃ V vs, e = .returned V ∧ RowsTo w' w.heap.size w'.heap.size V vs ((tabL s.size (wF (cB s) 0)).map intsV) ∧ Below w.heap.size w w' := by
  obtain ⟨i0, hi, hz0, hz1, hz2⟩ := info_parts info_intsl
  have hmk := run_make_row' (P := Try.prog) 32 3 (.int .i64 0) 8 Try.underlying32 info_int rfl .i64 .i64 s.size (by omega) (by omega)
  have HA := Lib.hid ha
  clear ha
  go_enter Try.func38, Try.ntmps38
  go_wp2
  go_loopw [3] (fun v wr => ∃ k : Nat, k ≤ s.size ∧ wr.heap[w.heap.size]? = some (.stringIter s k) ∧ OwnSS wr (w.heap.size + 1) wr.heap.size v (List.replicate k (List.replicate s.size 0)) ∧ Below w.heap.size w wr) (fun _ wr => s.size - wr.iterPos w.heap.size)
  case atStart => exact ⟨0, Nat.zero_le _, World.iter_heap _ _ _, OwnSS.nil _ _ _, below_new w _⟩
  case round =>
    obtain ⟨k, hk, hit, hown, hb⟩ := hrel
    have hpos := iterPos_at hit
    have hbs := hb.size
    by_cases hp : k < s.size
    · obtain ⟨vs, hrows⟩ := hown
      have hvl : vs.length = k := by rw [hrows.len]; simp
      have h128 := HA.out k hp
      have hnx : ∀ ty, (Instr.next (.pointer (some ⟨w.heap.size, 0, none⟩)) true ty).run Try.prog wr = _ := fun ty => run_next_ascii_at wr w.heap.size s k ty hit hp h128
      have HB1 := Lib.hid (below_iterAt hb (Nat.le_refl _) s (k + 1))
      have HI1 : Hid ((wr.iterAt w.heap.size s (k + 1)).heap[w.heap.size]? = some (.stringIter s (k + 1))) := Lib.hid (iterAt_heap wr w.heap.size s k (k + 1) hit)
      have HO1 := Lib.hid (hrows.iterAt s (k + 1))
      have hwz : (wr.iterAt w.heap.size s (k + 1)).heap.size = wr.heap.size := by simp [World.iterAt]
      rw [← hwz] at HO1
      obtain ⟨wi, hwi⟩ : ∃ wi, wi = wr.iterAt w.heap.size s (k + 1) := ⟨_, rfl⟩
      rw [← hwi] at HO1 HB1 HI1 hnx
      have hbi : w.heap.size + 1 ≤ wi.heap.size := by have := (Array.getElem?_eq_some_iff.1 HI1.out).1; omega
      clear hwi hwz h128 hrows hb hit
      have hvk : vs.length ≤ 20 := by omega
      go_wp2_with (at_builtin; refine wpList_append_own_at _ rfl (.tmp 14) (.tmp 18) _ rfl (w.heap.size + 1) 32 i0 _ 1 24 Try.underlying53 hi hz0 hz1 hz2 rfl (by decide) _ vs.length vs rfl (World.ownsRow.alloc (World.ownsRow.alloc HO1.out.out _) _) ⟨_, 0, none⟩ 1 1 [.slice (some ⟨wi.heap.size, 0, none⟩) s.size s.size] rfl rfl (World.news_of_block (cs := #[.slice (some ⟨wi.heap.size, 0, none⟩) s.size s.size]) (t := 32) (fr := (0, 0)) (heap_two _ _ _)) (by simp [Value.oneCell']) (by unfold maxLen; omega) (by omega) (by simp; omega) ?_; intro v' w3 hown' hgrow _ hat)
      have HR : Hid (OwnSS w3 (w.heap.size + 1) w3.heap.size v' (List.replicate (k + 1) (List.replicate s.size 0))) := Lib.hid (by
        rw [List.replicate_succ']
        have hl : (List.replicate s.size (0 : Int)).length = s.size := List.length_replicate
        have := OwnSS.push (L := List.replicate s.size 0) HO1.out hbi (zerosV s.size) (by rw [hl]; unfold maxLen; omega) (by rw [hl]; exact hown') hgrow hat
        exact this)
      have HB3 : Hid (Below w.heap.size w w3) := Lib.hid (((HB1.out.alloc (by omega) _).alloc (by simp; omega) _).grown hgrow (by simp; omega) fun k hk => by have := (World.ownsRow.lt HO1.out.out k hk).1; omega)
      have HI3 : Hid (w3.heap[w.heap.size]? = some (.stringIter s (k + 1))) := Lib.hid (iter_kept (iter_alloc (iter_alloc HI1.out _) _) hgrow (own_not HO1.out.out (Nat.lt_succ_self _)))
      clear hown' hgrow hat
      go_wp2
      go_roundw
      case rel => exact ⟨k + 1, by omega, HI3.out, HR.out, HB3.out⟩
      case measure => rw [hpos, iterPos_at HI3.out]; omega
    · obtain rfl : k = s.size := by omega
      have hnx : ∀ ty, (Instr.next (.pointer (some ⟨w.heap.size, 0, none⟩)) true ty).run Try.prog wr = _ := fun ty => run_next_end_at wr w.heap.size s s.size ty hit hp
      obtain ⟨vs, hrows⟩ := hown
      have hZ : List.replicate s.size (List.replicate s.size (0 : Int)) = tabL s.size (wF (cB s) s.size) := by
        unfold tabL
        have e1 : (List.range s.size).map (fun r => (List.range s.size).map (wF (cB s) s.size r)) = (List.range s.size).map fun _ => List.replicate s.size (0 : Int) := by
          refine List.map_congr_left fun r hr => ?_
          rw [List.map_congr_left (g := fun _ => (0 : Int)) fun q _ => wF_none (List.mem_range.1 hr), List.map_const', List.length_range]
        rw [e1, List.map_const', List.length_range]
      rw [hZ] at hrows
      obtain ⟨g, cap, rfl, hout⟩ := hrows.outAt h1
      have hvl : vs.length = s.size := by rw [hrows.len, List.length_map]; unfold tabL; simp
      have HO := Lib.hid (hrows.lower (Nat.le_succ w.heap.size))
      obtain ⟨top, htop⟩ : ∃ t, t = wr.heap.size := ⟨_, rfl⟩
      rw [← htop] at HO
      have HB := Lib.hid hb
      have htw : w.heap.size ≤ top := by omega
      have HTOP : Hid (top ≤ wr.heap.size) := Lib.hid (Nat.le_of_eq htop)
      clear hrows hout hZ hb hit hpos hp hbs hmk htop
      have HBB := Lib.hid fun st e t => bst_bd (c := cB s) (s := st) (e := e) (t := t)
      have HPB := Lib.hid (parF_bd (cB s))
      have HVL := Lib.hid hvl
      clear hvl
      go_wp2
      go_loopw [4] (fun v wx => ∃ lo : Nat, lo ≤ s.size ∧ v = .int .i64 ((lo : Int) - 1) ∧ RowsTo wx w.heap.size top (.slice (some ⟨g, 0, none⟩) s.size cap) vs ((tabL s.size (wF (cB s) lo)).map intsV) ∧ Below w.heap.size w wx ∧ top ≤ wx.heap.size) (fun v _ => (intOf v + 1).toNat)
      case atStart => exact ⟨s.size, Nat.le_refl _, rfl, HO.out, HB.out, HTOP.out⟩
      case round =>
        clear HO HB HTOP
        obtain ⟨lo, hlo, rfl, hrow, hb, ht⟩ := hrel
        have HR := Lib.hid hrow
        have HB := Lib.hid hb
        have HT := Lib.hid ht
        clear hrow hb ht
        rcases Nat.eq_zero_or_pos lo with hz | hz
        · subst hz
          have HF := Lib.hid (HR.out.wide HT.out)
          go_wp2
          go_ret
          exact ⟨_, vs, rfl, HF.out, HB.out⟩
        · obtain ⟨st, rfl⟩ : ∃ st, lo = st + 1 := ⟨lo - 1, by omega⟩
          rw [show (((st + 1 : Nat) : Int) - 1) = (st : Int) by omega]
          have is0 : (0 : Int) ≤ (st : Int) := by omega
          have is1 : (st : Int) < (s.size : Int) := by omega
          obtain ⟨gr, cr, hgr, -⟩ := HR.out.rowAt (i := st) (by omega)
          obtain ⟨g', c', he, hout⟩ := HR.out.outAt h1
          injection he with he1 he2 he3
          injection he1 with he1
          injection he1 with he1
          subst he1
          have o1 := hout st _ hgr
          have HGR := Lib.hid hgr
          have HR1 := Lib.hid (HR.out.same (fun r q _ _ => wR_start (cB s) st r q))
          clear HR hout he2 he3 hgr
          go_wp2
          go_loopw [6] (fun v wy => ∃ k : Nat, st ≤ k ∧ k ≤ s.size ∧ v = .int .i64 (k : Int) ∧ RowsTo wy w.heap.size top (.slice (some ⟨g, 0, none⟩) s.size cap) vs ((tabL s.size (wR (cB s) st k)).map intsV) ∧ Below w.heap.size w wy ∧ top ≤ wy.heap.size) (fun v _ => s.size - (intOf v).toNat)
          case atStart => exact ⟨st, Nat.le_refl _, by omega, rfl, HR1.out, HB.out, HT.out⟩
          case round =>
            clear HR1 HB HT o1
            obtain ⟨k, hk1, hk2, rfl, hrow, hb, ht⟩ := hrel
            have HR := Lib.hid hrow
            have HB := Lib.hid hb
            have HT := Lib.hid ht
            clear hrow hb ht
            by_cases hkn : k < s.size
            · have ik0 : (0 : Int) ≤ (k : Int) := by omega
              have ik1 : (k : Int) < (s.size : Int) := by omega
              have hlow := HR.out.lowAt (i := st) (by omega) HGR.out
              have HW : Hid (∀ d, RowsTo ((wr.drewN d).setCell ⟨gr, k, none⟩ (.int .i64 (parF (cB s) st (k + 1) : Int))) w.heap.size top (.slice (some ⟨g, 0, none⟩) s.size cap) vs ((tabL s.size (wR (cB s) st (k + 1))).map intsV) ∧ Below w.heap.size w ((wr.drewN d).setCell ⟨gr, k, none⟩ (.int .i64 (parF (cB s) st (k + 1) : Int))) ∧ top ≤ ((wr.drewN d).setCell ⟨gr, k, none⟩ (.int .i64 (parF (cB s) st (k + 1) : Int))).heap.size) := Lib.hid fun d => by
                refine ⟨((HR.out.drewN d).write (i := st) (q := k) (by omega) HGR.out _).same (fun r q _ _ => wR_set hk1 r q), below_store (below_drewN HB.out d) hlow k _, ?_⟩
                have := HT.out
                simpa [World.setCell] using this
              have fz := HR.out.frozenAt (i := st) (q := k) (by omega) HGR.out
              have cz := HR.out.cellAt (i := st) (q := k) (by omega) hkn HGR.out
              obtain ⟨V0, hV0⟩ : ∃ V : Int, V = wR (cB s) st k st k := ⟨_, rfl⟩
              rw [← hV0] at cz
              clear hV0
              by_cases hks : k = st
              · subst hks
                have HW0 := Lib.hid (HW.out 0)
                have HP1 : Hid ((parF (cB s) k (k + 1) : Int) = 1) := Lib.hid (by rw [parF_one]; rfl)
                rw [HP1.out] at HW0
                clear HW
                go_wp2
                go_roundw
                case rel => exact ⟨k + 1, by omega, by omega, by go_num, HW0.out.1, HW0.out.2.1, HW0.out.2.2⟩
                case measure => simp [intOf]; omega
              · have hkn2 : ((st : Int) == (k : Int)) = false := by rw [beq_eq_false_iff_ne]; omega
                have wst : IntKind.i64.wrap ((st : Int) + 1) = ((st + 1 : Nat) : Int) := by rw [IntKind.wrap_i64]; omega
                obtain ⟨g', c', he, hout⟩ := HR.out.outAt h1
                injection he with he1 he2 he3
                injection he1 with he1
                injection he1 with he1
                subst he1
                have HOUT := Lib.hid hout
                obtain ⟨g1, c1, hg1, -⟩ := HR.out.rowAt (i := st + 1) (by omega)
                have o2 := hout (st + 1) _ hg1
                have r2 := HR.out.cellAt (i := st + 1) (q := k) (by omega) hkn hg1
                rw [wR_at (Nat.lt_succ_self st) (by omega)] at r2
                have HC1 : Hid (∀ q, st + 1 ≤ q → q < s.size → wr.cell? ⟨g1, q, none⟩ = some (.int .i64 (parF (cB s) (st + 1) (q + 1) : Int))) := Lib.hid fun q hq1 hq2 => by
                  rw [HR.out.cellAt (i := st + 1) (q := q) (by omega) hq2 hg1, wR_at (Nat.lt_succ_self st) hq1]
                have HB0 := Lib.hid (bst_start (cB s) st (k + 1))
                have hpb := HPB.out (st + 1) (k + 1)
                obtain ⟨p, hp⟩ : ∃ p, p = parF (cB s) (st + 1) (k + 1) := ⟨_, rfl⟩
                rw [← hp] at r2 HB0 hpb
                have wp1 : IntKind.i64.wrap (1 + (p : Int)) = ((1 + p : Nat) : Int) := by rw [IntKind.wrap_i64]; omega
                have is2 : (0 : Int) ≤ ((st + 1 : Nat) : Int) := by omega
                have is3 : ((st + 1 : Nat) : Int) < (s.size : Int) := by omega
                have HFIN := Lib.hid (parF_bst (c := cB s) (s := st) (e := k + 1) (by omega))
                rw [HFIN.out] at HW
                have HGR2 := HGR
                clear hp hout he2 he3 hg1
                go_wp2
                go_loopw [7, 8, 9] (fun u v _ wz => ∃ j d : Nat, st + 1 ≤ j ∧ j ≤ k + 1 ∧ v = .int .i64 (j : Int) ∧ u = .int .i64 ((bstF (cB s) st (k + 1) j : Nat) : Int) ∧ wz = wr.drewN d) (fun _ v _ _ => k + 1 - (intOf v).toNat)
                case atStart => exact ⟨st + 1, 0, Nat.le_refl _, by omega, by first | rfl | go_num, by rw [HB0.out, Int.natCast_add]; rfl, rfl⟩
                case round =>
                  clear HB0 r2
                  obtain ⟨j, d, hj1, hj2, rfl, rfl, rfl⟩ := hrel
                  have hbb := HBB.out st (k + 1) j
                  by_cases hje : j ≤ k
                  · have co : s[j].toNat = cB s j := (cB_at s j (by omega)).symm
                    have cs : s[st].toNat = cB s st := (cB_at s st (by omega)).symm
                    have ij0 : (0 : Int) ≤ (j : Int) := by omega
                    have ij1 : (j : Int) < (s.size : Int) := by omega
                    by_cases hc : cB s j = cB s st
                    · have hq : ((s[j].toNat : Int) == (s[st].toNat : Int)) = true := by rw [co, cs, hc]; simp
                      obtain ⟨gj, cj, hgj, -⟩ := HR.out.rowAt (i := j) (by omega)
                      have o3 := HOUT.out j _ hgj
                      have r3 := HR.out.cellAt (i := j) (q := k) (by omega) hkn hgj
                      rw [wR_at (by omega) hje] at r3
                      have HN := Lib.hid (bst_yes (c := cB s) (s := st) (e := k + 1) (t := j) (by omega) hc)
                      have b2 := HPB.out (st + 1) j
                      have b3 := HPB.out j (k + 1)
                      obtain ⟨y, hy⟩ : ∃ y, y = parF (cB s) j (k + 1) := ⟨_, rfl⟩
                      obtain ⟨z, hz2⟩ : ∃ z, z = bstF (cB s) st (k + 1) j := ⟨_, rfl⟩
                      rw [← hy] at r3 b3 HN
                      rw [← hz2] at hbb HN ⊢
                      have HL : Hid (∀ a b W, Calls Try.prog 39 #[.int .i64 a, .int .i64 b] W fun e w' => e = .returned (.int .i64 (min a b)) ∧ W = w') := Lib.hid leastS_any
                      clear hy hz2 hc co cs hgj
                      go_wp2
                      go_quiet (fail)
                      by_cases hjs : j = st + 1
                      · have HX : Hid (parF (cB s) (st + 1) j = 0) := Lib.hid (parF_zero (by omega))
                        rw [HX.out, Nat.zero_add] at HN
                        have hgt : ¬ ((st + 1 : Nat) : Int) < (j : Int) := by omega
                        clear HX b2 hjs
                        go_wp2_with (go_at_call 39; refine (HL.out _ _ _).mono ?_; rintro e w1 ⟨rfl, rfl⟩)
                        go_roundw
                        case rel => exact ⟨j + 1, _, by omega, by omega, by go_num, congrArg (Value.int .i64) (by rw [HN.out]; omega), rfl⟩
                        case measure => simp [intOf]; omega
                      · obtain ⟨q, hq3⟩ : ∃ q, j = q + 1 := ⟨j - 1, by omega⟩
                        have r4 := HC1.out q (by omega) (by omega)
                        rw [← hq3] at r4
                        have wj1 : IntKind.i64.wrap ((j : Int) - 1) = (q : Int) := by rw [IntKind.wrap_i64]; omega
                        have iq0 : (0 : Int) ≤ (q : Int) := by omega
                        have iq1 : (q : Int) < (s.size : Int) := by omega
                        have hgt : ((st + 1 : Nat) : Int) < (j : Int) := by omega
                        obtain ⟨x, hx⟩ : ∃ x, x = parF (cB s) (st + 1) j := ⟨_, rfl⟩
                        rw [← hx] at r4 b2 HN
                        have wxy : IntKind.i64.wrap ((x : Int) + (y : Int)) = ((x + y : Nat) : Int) := by rw [IntKind.wrap_i64]; omega
                        have HQ3 := Lib.hid hq3
                        clear hx hq3
                        go_wp2_with (go_at_call 39; refine (HL.out _ _ _).mono ?_; rintro e w1 ⟨rfl, rfl⟩)
                        go_roundw
                        case rel => exact ⟨j + 1, _, by omega, by omega, by go_num, congrArg (Value.int .i64) (by rw [HN.out]; omega), rfl⟩
                        case measure => simp [intOf]; omega
                    · have hq : ((s[j].toNat : Int) == (s[st].toNat : Int)) = false := by rw [co, cs, beq_eq_false_iff_ne]; omega
                      have HN := Lib.hid (bst_no (c := cB s) (s := st) (e := k + 1) (t := j) hc)
                      clear hc co cs
                      go_wp2
                      go_quiet (fail)
                      go_wp2
                      go_roundw
                      case rel => exact ⟨j + 1, _, by omega, by omega, by go_num, by rw [HN.out], rfl⟩
                      case measure => simp [intOf]; omega
                  · obtain rfl : j = k + 1 := by omega
                    have HWD := Lib.hid (HW.out d)
                    obtain ⟨z, hz2⟩ : ∃ z, z = bstF (cB s) st (k + 1) (k + 1) := ⟨_, rfl⟩
                    rw [← hz2] at hbb HWD ⊢
                    clear hz2 HW
                    go_wp2
                    go_roundw
                    case rel => exact ⟨k + 1, by omega, by omega, by go_num, HWD.out.1, HWD.out.2.1, HWD.out.2.2⟩
                    case measure => simp [intOf]; omega
            · obtain rfl : k = s.size := by omega
              have HE := Lib.hid (HR.out.same (fun r q _ hq => wR_end hq))
              go_wp2
              go_roundw
              case rel => exact ⟨st, by omega, by go_num, HE.out, HB.out, HT.out⟩
              case measure => simp [intOf]
end Go.Proofs.Ytohmodjigneldaa.Tx
