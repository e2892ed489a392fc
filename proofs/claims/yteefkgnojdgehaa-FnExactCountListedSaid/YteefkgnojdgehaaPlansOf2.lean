/- 'impl.plansOf' in a line: the tallies of the first board. No condition but the costs' bounds. -/
import Derived.Test.YteefkgnojdgehaaPlansOf
namespace Go.Proofs.Yteefkgnojdgehaa
open Go.RowKit

theorem wpList_tal_yes {w : World} {ops : Array Oper} {rest : List Oper} {o : Oper} {a : Act} {Q : Exit → Act → World → Prop} {b n : Nat} {f : Nat → Option (Int × Int)} (hg : o.guard = none) (m x : Operand) (hop : o.op = Op.lookup 71 m x true) (hm : a.eval m = .map (some b)) (h : Tal w b n f) (k : Nat) (hk : k < 256) (u : Int × Int) (hf : f k = some u) (hx : a.eval x = .int .u8 (k : Int))
    (hK : wpList Try.prog ops Q rest (a.put o.dst (.tuple #[.agg #[.int .i64 u.1, .int .i64 u.2], .bool true])) w) : wpList Try.prog ops Q (o :: rest) a w :=
  wpList_tal_ok hg m x hop hm h k hk hx (by rw [hf]; exact hK)
theorem wpList_tal_no {w : World} {ops : Array Oper} {rest : List Oper} {o : Oper} {a : Act} {Q : Exit → Act → World → Prop} {b n : Nat} {f : Nat → Option (Int × Int)} (hg : o.guard = none) (m x : Operand) (hop : o.op = Op.lookup 71 m x true) (hm : a.eval m = .map (some b)) (h : Tal w b n f) (k : Nat) (hk : k < 256) (hf : f k = none) (hx : a.eval x = .int .u8 (k : Int))
    (hK : wpList Try.prog ops Q rest (a.put o.dst (.tuple #[.agg #[.int .i64 0, .int .i64 0], .bool false])) w) : wpList Try.prog ops Q (o :: rest) a w :=
  wpList_tal_ok hg m x hop hm h k hk hx (by rw [hf]; exact hK)
theorem fbelow {w w1 w2 : World} (h1 : Below w.heap.size w w1) (h2 : Below w1.heap.size w1 w2) : Below w.heap.size w w2 := below_next h1 h2
theorem brds_one {w2 w3 : World} {base g n : Nat} {B : Nat → Nat → Option Int} {c : Nat → Nat} {A : Option Addr} {k : Nat} {v : Int} (ho : OwnB w2 base g n c) (hB : Brds w2 A n B c) (hc : Cst w3 w2.heap.size 1 (updC (fun _ => none) k v)) (hg : (w2.alloc (.map #[] 0)).grownBy w3 (some w2.heap.size)) (h1 : 0 < n) (hcb : ∀ j, j < n → c j < base) :
    Brds (w3.setCell ⟨g, 0, none⟩ (.map (some w2.heap.size))) (some ⟨g, 0, none⟩) n (oneB B k v) (fun j => if j = 0 then w2.heap.size else c j) ∧ (w3.cell? ⟨g, 0, none⟩ = some (.map (some (c 0))) ∧ w3.frozen? ⟨g, 0, none⟩ = false) := by
  have hgl := ho.lt.2
  have e1 : w3.heap[g]? = (w2.alloc (.map #[] 0)).heap[g]? := hg.block g (by simp; omega) (by intro e; injection e with e; omega)
  have hcell : ∀ j, j < n → w3.cell? ⟨g, j, none⟩ = some (.map (some (c j))) := fun j hj => by
    rw [World.cell?_of_block e1, (bcell (below_new w2 _)).1 g j hgl]; exact ho.cell j hj
  have hfz : w3.frozen? ⟨g, 0, none⟩ = false := by
    rw [World.frozen?_of_block e1, (bcell (below_new w2 _)).2 g 0 hgl]; exact ho.fz 0
  have hs3 : w2.heap.size + 1 ≤ w3.heap.size := by have := hg.size; simpa using this
  refine ⟨⟨fun _ => ⟨g, 0, rfl, by rw [set_size]; omega, fun j hj => ?_⟩, fun j hj => ?_⟩, hcell 0 (by omega), hfz⟩
  · rw [Nat.zero_add]
    by_cases e : j = 0
    · subst e; rw [if_pos rfl]; exact World.cell?_setCell_same _ _ _ (hcell 0 hj)
    · rw [if_neg e, World.cell?_setCell_other _ _ _ _ (by intro h; injection h with _ h2; omega)]; exact hcell j hj
  · by_cases e : j = 0
    · subst e
      rw [if_pos rfl]
      refine ⟨1, (hc.congr fun z _ => ?_).kept (grown_set w3 g 0 _) (by intro h; injection h with h; omega)⟩
      rw [oneB_zero]; rfl
    · rw [if_neg e, oneB_more e]
      obtain ⟨q, hq⟩ := hB.cst j hj
      have hl := hq.lt
      exact ⟨q, ((hq.kept (World.grownBy_alloc w2 _ none) (by simp)).kept hg (by intro h; injection h with h; omega)).kept (grown_set w3 g 0 _) (by intro h; injection h with h; have := hcb j hj; have := ho.lt.1; omega)⟩
set_option maxRecDepth 100000 in
set_option maxHeartbeats 8000000 in
theorem plansOf_line (d : Nat) (A : Option Addr) (cap : Nat) (B : Nat → Nat → Option Int) (c : Nat → Nat) (w : World) (h20 : d + 1 ≤ 20) (hB : costly B) (h : Brds w A (d + 1) B c) :
    Calls Try.prog 68 #[.slice A (d + 1) cap, .bool false] w fun e w' => ∃ b1 b2 kk, e = .returned (.tuple #[.map (some b1), .map (some b2)]) ∧ Tal w' b1 kk (tT B (d + 1) (d + 1)) ∧ Below w.heap.size w w' := by
  obtain ⟨n, hn⟩ : ∃ n, n = d + 1 := ⟨_, rfl⟩
  have HN1 := Lib.hid hn
  rw [← hn] at h h20 ⊢
  have hmm := @run_makeMap Try.prog
  have HBR := Lib.hid h
  have HCO := Lib.hid hB
  have hn1 : 0 < n := by omega
  obtain ⟨q, hcs⟩ := h.cst 0 (by omega)
  have hc0 := h.lt 0 (by omega)
  have g1 := World.grownBy_alloc w (.map #[] 0) none
  have g2 := World.grownBy_alloc (w.alloc (.map #[] 0)) (.map #[] 0) none
  have hs1 : (w.alloc (.map #[] 0)).heap.size = w.heap.size + 1 := by simp
  have HCS : Hid (Cst ((w.alloc (.map #[] 0)).alloc (.map #[] 0)) (c 0) q (B 0)) := Lib.hid ((hcs.kept g1 (by simp)).kept g2 (by simp))
  have HT0 : Hid (Tal ((w.alloc (.map #[] 0)).alloc (.map #[] 0)) w.heap.size 0 (fun _ => none)) := Lib.hid ((Tal.made w).kept g2 (by simp))
  have HP0 : Hid (Plm ((w.alloc (.map #[] 0)).alloc (.map #[] 0)) (w.heap.size + 1) 0) := Lib.hid (by rw [← hs1]; exact Plm.made _)
  have HB0 : Hid (Below w.heap.size w ((w.alloc (.map #[] 0)).alloc (.map #[] 0))) := Lib.hid (below_next (below_new w _) (below_new _ _))
  obtain ⟨bg, bo, rfl, hbg, hbc⟩ := h.at_ hn1
  have hbp0 : w.cell? ⟨bg, bo, none⟩ = some (.map (some (c 0))) := hbc 0 hn1
  have hbp1 : (w.alloc (.map #[] 0)).cell? ⟨bg, bo, none⟩ = some (.map (some (c 0))) := ((bcell (below_new w _)).1 bg _ hbg).trans hbp0
  have hbp2 : ((w.alloc (.map #[] 0)).alloc (.map #[] 0)).cell? ⟨bg, bo, none⟩ = some (.map (some (c 0))) := ((bcell HB0.out).1 bg _ hbg).trans hbp0
  have hnn : (0 : Int) < (n : Int) := by omega
  clear h hB g1 g2 hs1 hcs hn hbc
  go_enter Try.func68, Try.ntmps68
  go_wp2_with (at_range; refine wpList_cst_range rfl (.tmp 22) rfl rfl HCS.out ?_; intro w0 cnt0 hrg0 hg0 hs0)
  obtain ⟨b1, hb1⟩ : ∃ b, b = w.heap.size := ⟨_, rfl⟩
  obtain ⟨b2, hb2⟩ : ∃ b, b = w.heap.size + 1 := ⟨_, rfl⟩
  obtain ⟨r, hr⟩ : ∃ r, r = ((w.alloc (.map #[] 0)).alloc (.map #[] 0)).heap.size := ⟨_, rfl⟩
  have hrr : r = w.heap.size + 2 := by rw [hr]; simp
  have HR0 : Hid (CstRg w0 (c 0) r q (B 0) (fun k => (B 0 k).isSome) cnt0) := Lib.hid (by rw [hr]; exact hrg0)
  have HT1 : Hid (Tal w0 b1 0 (seen (tT B n n) (fun k => (B 0 k).isSome))) := Lib.hid (((HT0.out.kept hg0 (by simp)).congr (g := seen (tT B n n) (fun k => (B 0 k).isSome)) fun k _ => by
    rw [HN1.out]
    exact (seen_first (p := 0) (by rw [show d + 1 - 1 - d = 0 by omega])).symm) |> fun z => by rw [hb1]; exact z)
  have HP1 : Hid (Plm w0 b2 0) := Lib.hid (by rw [hb2]; exact HP0.out.kept hg0 (by simp))
  have HB1 : Hid (Below w.heap.size w w0) := Lib.hid (HB0.out.grown hg0 HB0.out.size (fun k hk => by cases hk))
  rw [← hr, ← hb2, ← hb1]
  have hzz : w.heap.size + 3 ≤ w0.heap.size := by rw [hs0]; simp
  have HZ := Lib.hid hzz
  have n1 : c 0 ≠ b1 := by omega
  have n2 : c 0 ≠ b2 := by omega
  have n3 : r ≠ b1 := by omega
  have n4 : r ≠ b2 := by omega
  have n5 : b1 ≠ b2 := by omega
  have l1 : w.heap.size ≤ b1 ∧ b1 < w.heap.size + 3 := by omega
  have l2 : w.heap.size ≤ b2 ∧ b2 < w.heap.size + 3 := by omega
  have l3 : w.heap.size ≤ r ∧ r < w.heap.size + 3 := by omega
  clear hrg0 hg0 hs0 hr hrr hb1 hb2 HT0 HP0 HB0 HCS hbp0 hbp1 hbp2 hzz
  go_frame
  go_loopw [9, 10] (fun _ _ wx => ∃ left cnt kk k2, CstRg wx (c 0) r q (B 0) left cnt ∧ Tal wx b1 kk (seen (tT B n n) left) ∧ Plm wx b2 k2 ∧ kk ≤ seenN left ∧ k2 ≤ seenN left ∧ Below w.heap.size w wx ∧ w.heap.size + 3 ≤ wx.heap.size) (fun _ _ wx => wx.rangeLeft (c 0) r)
  case atStart => exact ⟨_, _, 0, 0, HR0.out, HT1.out, HP1.out, Nat.zero_le _, Nat.zero_le _, HB1.out, HZ.out⟩
  case round =>
    clear HR0 HT1 HP1 HB1 HZ
    obtain ⟨left, cnt, kk, k2, hrg, htl, hpm, hk1, hk2, hb, hz⟩ := hrel
    have HTL := Lib.hid htl
    have HPM := Lib.hid hpm
    have HB := Lib.hid hb
    clear htl hpm hb
    go_wp2_with (at_next; refine wpList_cst_next rfl (.tmp 23) rfl rfl hrg ?_ ?_)
    · intro hdone
      have HE := Lib.hid (HTL.out.congr (g := tT B n n) fun k hk => by unfold seen; rw [hdone k hk]; rfl)
      clear hrg hdone HTL
      go_wp2
      go_ret2
      exact ⟨b1, b2, kk, rfl, HE.out, HB.out⟩
    · intro k v w1 cnt1 hk hlk hfk hrg1 hlt hg1 hs1 hen
      have hen2 : (Instr.entry (.pointer (some ⟨r, 0, none⟩))).run Try.prog w1 = .ok (.tuple #[.int .u8 (k : Int), .int .i64 v]) w1 := hen
      have hkv := HCO.out 0 k v hfk
      have HL := Lib.hid hrg.left_eq
      have hkk := seenN_step hlk hkv.1
      have HTL1 := Lib.hid (HTL.out.kept hg1 (by intro e; injection e with e; exact n3 e.symm))
      have HPM1 := Lib.hid (HPM.out.kept hg1 (by intro e; injection e with e; exact n4 e.symm))
      have HB1 := Lib.hid (HB.out.grown hg1 HB.out.size (fun z e => by injection e with e; omega))
      have HBR1 := Lib.hid (HBR.out.below HB1.out)
      have HCL := Lib.hid (cloneB_any n (some ⟨bg, bo, none⟩) cap B c w1 (by omega) h20 HBR1.out)
      have HRG := Lib.hid hrg1
      have HFK := Lib.hid (tT_first (d := d) (B := B) (v := v) hfk)
      have HCO2 := Lib.hid (oneB_costly HCO.out hkv)
      have HCB := Lib.hid HBR.out.lt
      clear hen hrg hrg1 hg1 HTL HPM HB
      go_wp2_with fail
      refine HCL.out.mono ?_
      rintro e w2 ⟨g, cap2, rfl, hown, hb2⟩
      obtain ⟨w3, hins, hc3, hg3⟩ := Cst.put_run (w := w2.alloc (.map #[] 0)) (Cst.made w2) (by unfold maxLen; omega) k hk v
      have hins2 : (Instr.mapUpdate 85 (.map (some w2.heap.size)) (.int .u8 (k : Int)) (.int .i64 v)).run Try.prog (w2.alloc (.map #[] 0)) = .ok () w3 := hins
      obtain ⟨hbr4, hc30, hf30⟩ := brds_one hown (HBR1.out.below hb2) hc3 hg3 hn1 HBR1.out.lt
      have hgl := hown.lt
      have hs2 := hb2.size
      have hs3 : w2.heap.size + 1 ≤ w3.heap.size := by have := hg3.size; simpa using this
      have ga := World.grownBy_alloc w2 (.map #[] 0) none
      have gs := grown_set w3 g 0 (.map (some w2.heap.size))
      have k1 : ∀ z, z < w.heap.size + 3 → some z ≠ some w2.heap.size := fun z hz e => by injection e with e; omega
      have k3 : ∀ z, z < w.heap.size + 3 → some z ≠ some g := fun z hz e => by injection e with e; omega
      have HTL4 := Lib.hid ((((HTL1.out.kept (grown_of_below hb2 none) (by simp)).kept ga (by simp)).kept hg3 (k1 b1 l1.2)).kept gs (k3 b1 l1.2))
      have HPM4 := Lib.hid ((((HPM1.out.kept (grown_of_below hb2 none) (by simp)).kept ga (by simp)).kept hg3 (k1 b2 l2.2)).kept gs (k3 b2 l2.2))
      have HRG4 := Lib.hid ((((HRG.out.kept (grown_of_below hb2 none) (by simp) (by simp)).kept ga (by simp) (by simp)).kept hg3 (k1 (c 0) (by omega)) (k1 r l3.2)).kept gs (k3 (c 0) (by omega)) (k3 r l3.2))
      have HB4 : Hid (Below w.heap.size w (w3.setCell ⟨g, 0, none⟩ (.map (some w2.heap.size)))) := Lib.hid (((fbelow HB1.out hb2).alloc (by omega) _ |>.grown hg3 (by simp; omega) (fun z e => by injection e with e; omega)).setCell (p := ⟨g, 0, none⟩) (by show w.heap.size ≤ g; omega) _)
      have HPN := Lib.hid (planOf_any n (some ⟨g, 0, none⟩) cap2 (oneB B k v) _ _ hn1 h20 HCO2.out hbr4)
      have hz4 : w.heap.size + 3 ≤ w3.heap.size := by omega
      clear hins hbr4 ga gs k1 k3 hc3 hg3 hown HCL HTL1 HPM1 HB1 HBR1 HRG HCO2 HCB hb2 hgl
      go_wp2_with fail
      refine HPN.out.mono ?_
      rintro e w5 ⟨m, rfl, hplan, hb5⟩
      have hp0 := hplan.cell 0 (Nat.zero_le _) hn1
      obtain ⟨q5, htal5⟩ := hplan.tal 0 (Nat.zero_le _) hn1
      rw [set_size] at hp0
      have HB5 := Lib.hid (fbelow HB4.out hb5)
      have HTL5 := Lib.hid (HTL4.out.kept (grown_of_below hb5 none) (by simp))
      have HPM5 := Lib.hid (HPM4.out.kept (grown_of_below hb5 none) (by simp))
      have HRG5 := Lib.hid (HRG4.out.kept (grown_of_below hb5 none) (by simp) (by simp))
      have hz5 : w.heap.size + 3 ≤ w5.heap.size := by have hh := hb5.size; rw [set_size] at hh; omega
      have HTP : Hid (Tal w5 (m 0) q5 (tT (oneB B k v) n n)) := Lib.hid htal5
      have hbb5 := HB5.out.size
      clear hplan htal5 hb5 HPN HTL4 HPM4 HRG4 HB4 hc30 hf30
      cases hval : tT B n n k with
      | none =>
        have HV : Hid (tT (oneB B k v) n n k = none) := Lib.hid (by rw [HN1.out, HFK.out, ← HN1.out]; exact hval)
        have HT6 : Hid (Tal (w5.alloc (.cells #[.int .i64 0, .int .i64 0] 54)) b1 kk (seen (tT B n n) (fun z => left z && !decide (z = k)))) := Lib.hid (by rw [seen_skip hlk hval]; exact HTL5.out.kept (World.grownBy_alloc _ _ none) (by simp))
        have HP6 := Lib.hid (HPM5.out.kept (World.grownBy_alloc w5 (.cells #[.int .i64 0, .int .i64 0] 54) none) (by simp))
        have HR6 := Lib.hid (HRG5.out.kept (World.grownBy_alloc w5 (.cells #[.int .i64 0, .int .i64 0] 54) none) (by simp) (by simp))
        have HB6 := Lib.hid (HB5.out.alloc hbb5 (.cells #[.int .i64 0, .int .i64 0] 54))
        have hz6 : w.heap.size + 3 ≤ (w5.alloc (.cells #[.int .i64 0, .int .i64 0] 54)).heap.size := by simp; omega
        have HZ6 := Lib.hid hz6
        clear hval hz6
        go_wp2_with (at_lookup; refine wpList_tal_no rfl (.tmp 56) (.tmp 57) rfl rfl HTP.out k hk HV.out rfl ?_)
        go_roundw
        case rel => exact ⟨_, cnt1, kk, k2, HR6.out, HT6.out, HP6.out, by omega, by omega, HB6.out, HZ6.out⟩
        case measure => rw [HR6.out.left_eq, HL.out]; exact hlt
      | some u =>
        obtain ⟨x, y⟩ := u
        have HV : Hid (tT (oneB B k v) n n k = some (x, y)) := Lib.hid (by rw [HN1.out, HFK.out, ← HN1.out]; exact hval)
        have HT6 := Lib.hid (HTL5.out.kept (World.grownBy_alloc w5 (.cells #[.int .i64 x, .int .i64 y] 54) none) (by simp))
        have HP6 := Lib.hid (HPM5.out.kept (World.grownBy_alloc w5 (.cells #[.int .i64 x, .int .i64 y] 54) none) (by simp))
        have HR6 := Lib.hid (HRG5.out.kept (World.grownBy_alloc w5 (.cells #[.int .i64 x, .int .i64 y] 54) none) (by simp) (by simp))
        have HB6 := Lib.hid (HB5.out.alloc hbb5 (.cells #[.int .i64 x, .int .i64 y] 54))
        have hz6 : w.heap.size + 3 ≤ (w5.alloc (.cells #[.int .i64 x, .int .i64 y] 54)).heap.size := by simp; omega
        have HZ6 := Lib.hid hz6
        have HST := Lib.hid (seen_step hlk hval)
        have hsn := seenN_le left
        clear hval hz6
        go_wp2_with (first
          | (at_lookup; refine wpList_tal_yes rfl (.tmp 56) (.tmp 57) rfl rfl HTP.out k hk (x, y) HV.out rfl ?_)
          | (at_mapUpdate; refine wpList_tal_put rfl (.tmp 62) (.tmp 63) (.tmp 66) rfl rfl HT6.out (by unfold maxLen; omega) k hk (x, y) rfl rfl ?_; intro w7 hT7 hg7)
          | (at_mapUpdate; refine wpList_plm_put rfl (.tmp 64) (.tmp 65) (.tmp 67) rfl rfl (HP6.out.kept hg7 (by intro e; injection e with e; exact n5 e.symm)) (by unfold maxLen; omega) k hk _ rfl rfl ?_; intro w8 hP8 hg8))
        have HT8 : Hid (Tal w8 b1 (kk + 1) (seen (tT B n n) (fun z => left z && !decide (z = k)))) := Lib.hid (by rw [HST.out]; exact hT7.kept hg8 (by intro e; injection e with e; exact n5 e))
        have HP8 := Lib.hid hP8
        have HR8 := Lib.hid ((HR6.out.kept hg7 (by intro e; injection e with e; exact n1 e) (by intro e; injection e with e; exact n3 e)).kept hg8 (by intro e; injection e with e; exact n2 e) (by intro e; injection e with e; exact n4 e))
        have HB8 := Lib.hid ((HB6.out.grown hg7 HB6.out.size (fun z e => by injection e with e; omega)).grown hg8 (Nat.le_trans HB6.out.size hg7.size) (fun z e => by injection e with e; omega))
        have HZ8 := Lib.hid (Nat.le_trans HZ6.out (Nat.le_trans hg7.size hg8.size))
        clear hT7 hP8 hg7 hg8
        go_frame
        go_roundw
        case rel => exact ⟨_, cnt1, kk + 1, k2 + 1, HR8.out, HT8.out, HP8.out, by omega, by omega, HB8.out, HZ8.out⟩
        case measure => rw [HR8.out.left_eq, HL.out]; exact hlt
end Go.Proofs.Yteefkgnojdgehaa
