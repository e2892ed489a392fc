/- '(impl.rests).firstCut': the program's search for a cut. No condition but the numbers' bounds. -/
import Derived.Test.YtnijedmnjmeciaaCuts
import Derived.Test.YtnijedmnjmeciaaCutRec
import Derived.Test.YtnijedmnjmeciaaSub
import Derived.Test.YtnijedmnjmeciaaOwnCopy
import Derived.BigQuiet
import Derived.Deep.CutRange
namespace Go.Proofs.Ytnijedmnjmeciaa
open Go.RowKit

def rowL (F : Nat → Int) (b : Nat) : List Int := (List.range b).map F
theorem rowL_len (F : Nat → Int) (b : Nat) : (rowL F b).length = b := by simp [rowL]
theorem rowL_get {F : Nat → Int} {b k : Nat} (h : k < b) : (rowL F b).getD k 0 = F k := by
  rw [List.getD_eq_getElem?_getD]; unfold rowL; rw [List.getElem?_map, List.getElem?_range h]; rfl
theorem rowL_congr {F G : Nat → Int} {b : Nat} (h : ∀ i, i < b → F i = G i) : rowL F b = rowL G b := List.map_congr_left fun i hi => h i (List.mem_range.1 hi)
theorem rowL_set {F : Nat → Int} {b k : Nat} (v : Int) (h : k < b) : (rowL F b).set k v = rowL (fun i => if i = k then v else F i) b := by
  apply List.ext_getElem?
  intro j
  rw [List.getElem?_set, rowL_len]
  unfold rowL
  rw [List.getElem?_map, List.getElem?_map]
  by_cases hj : j < b
  · rw [List.getElem?_range hj]
    show (if k = j then _ else some (F j)) = some (if j = k then v else F j)
    by_cases e : k = j
    · subst e; rw [if_pos rfl, if_pos rfl, if_pos h]
    · rw [if_neg e, if_neg fun x => e x.symm]
  · rw [List.getElem?_eq_none (by simp; omega)]
    by_cases e : k = j
    · subst e; omega
    · rw [if_neg e]; rfl
theorem rowL_try {F : Nat → Int} {b k : Nat} {x : Int} {R : List Int} (h : k < b) (hx : x ≤ F k) : tryK x R (rowL F b) k = cutM R (rowL (cutF F x k) b) := by
  unfold tryK
  rw [rowL_get h, if_pos hx, rowL_set _ h, cutF_yes hx]
theorem rowL_less {F : Nat → Int} {b k : Nat} {x : Int} {R : List Int} (h : k < b) (hx : ¬ x ≤ F k) : tryK x R (rowL F b) k = none := by
  unfold tryK
  rw [rowL_get h, if_neg hx]
theorem rowL_mem {F : Nat → Int} {b : Nat} {z : Int} : z ∈ rowL F b ↔ ∃ i, i < b ∧ F i = z := by
  unfold rowL
  rw [List.mem_map]
  exact ⟨fun ⟨i, h, e⟩ => ⟨i, List.mem_range.1 h, e⟩, fun ⟨i, h, e⟩ => ⟨i, List.mem_range.2 h, e⟩⟩
theorem drewN_below (w : World) (d : Nat) : Below w.heap.size w (w.drewN d) := below_drewN (Below.refl _ _) d
theorem run_append_none (w : World) (A : Option Addr) (c g : Nat) : (Builtin.append_ #[22, 22] 22 #[.slice (some ⟨g, 0, none⟩) 1 1, .slice A 0 c]).run Try.prog w = .ok (.slice (some ⟨g, 0, none⟩) 1 1) w := by
  obtain ⟨i0, hi, hz0, hz1, hz2⟩ := info_parts info_int
  cases A <;> simp [Builtin.append_, run_underlying Try.underlying22, sizeOf, typeInfo, hi, Builtin.lenOf, Builtin.firstCells, loadCells, loadCellsFrom, storeCells]
theorem own_one (w : World) {b : Nat} (hb : b ≤ w.heap.size) (t : TypeId) (k : Int) : (w.alloc (.cells #[.int .i64 k] t)).ownsRow b t 1 (.slice (some ⟨w.heap.size, 0, none⟩) 1 1) 1 [.int .i64 k] :=
  ⟨rfl, .inr ⟨w.heap.size, 1, #[.int .i64 k], rfl, hb, heap_alloc_new w _, Nat.le_refl _, by unfold maxLen; omega, rfl, rfl⟩⟩
theorem addr_add (g o j : Nat) : (⟨g, o, none⟩ : Addr).add j = ⟨g, o + j, none⟩ := by simp [Addr.add]
theorem zero8_call {w w5 : World} (h : Below (w.alloc (.cells #[.int .i64 0, .int .i64 0, .int .i64 0, .int .i64 0, .int .i64 0, .int .i64 0, .int .i64 0, .int .i64 0] 37)).drew.heap.size (w.alloc (.cells #[.int .i64 0, .int .i64 0, .int .i64 0, .int .i64 0, .int .i64 0, .int .i64 0, .int .i64 0, .int .i64 0] 37)).drew w5) : RowIs w5 37 w.heap.size w.heap.size 8 (fun _ => 0) ∧ Below w.heap.size w w5 := by
  have h1 : RowIs (w.alloc (.cells #[.int .i64 0, .int .i64 0, .int .i64 0, .int .i64 0, .int .i64 0, .int .i64 0, .int .i64 0, .int .i64 0] 37)) 37 w.heap.size w.heap.size 8 (fun _ => 0) := RowIs.of_block (heap_alloc_new w _) (Nat.le_refl _) (by unfold maxLen; omega)
  exact ⟨(h1.below (Below.refl _ _).drew).below h, below_next (below_next (below_new w _) (Below.refl _ _).drew) h⟩
def cells8 (g : Nat) (F : Nat → Int) (W : World) : Prop := ∀ i, i < 8 → W.cell? ⟨g, i, none⟩ = some (.int .i64 (F i))

set_option linter.unusedSimpArgs false in
set_option maxRecDepth 100000 in
set_option maxHeartbeats 8000000 in
theorem firstCut_any (b : Nat) (hb1 : 1 ≤ b) (hb8 : b ≤ 8) : ∀ (R : List Int) (F : Nat → Int) (A : Option Addr) (c : Nat) (w : World), R.length ≤ 8 → R.length ≤ c → (∀ x ∈ R, 1 ≤ x ∧ x ≤ 500) → (∀ i, i < 8 → 0 ≤ F i ∧ F i ≤ 1000000) → IntSl w A R →
    Calls Try.prog 18 #[.agg (restA F), .slice A R.length c, .int .i64 b] w fun e w' => ∃ v, e = .returned (.tuple #[v, .bool (cutM R (rowL F b)).isSome]) ∧ OwnInts w' w.heap.size 3 v ((cutM R (rowL F b)).getD []) ∧ Below w.heap.size w w' := by
  intro R
  induction R with
  | nil =>
    intro F A c w hR hc hx hF h0
    obtain ⟨x0, hx0⟩ : ∃ x, x = F 0 := ⟨_, rfl⟩
    obtain ⟨x1, hx1⟩ : ∃ x, x = F 1 := ⟨_, rfl⟩
    obtain ⟨x2, hx2⟩ : ∃ x, x = F 2 := ⟨_, rfl⟩
    obtain ⟨x3, hx3⟩ : ∃ x, x = F 3 := ⟨_, rfl⟩
    obtain ⟨x4, hx4⟩ : ∃ x, x = F 4 := ⟨_, rfl⟩
    obtain ⟨x5, hx5⟩ : ∃ x, x = F 5 := ⟨_, rfl⟩
    obtain ⟨x6, hx6⟩ : ∃ x, x = F 6 := ⟨_, rfl⟩
    obtain ⟨x7, hx7⟩ : ∃ x, x = F 7 := ⟨_, rfl⟩
    have HCX : restA F = #[.int .i64 x0, .int .i64 x1, .int .i64 x2, .int .i64 x3, .int .i64 x4, .int .i64 x5, .int .i64 x6, .int .i64 x7] := by rw [restA_lit, hx0, hx1, hx2, hx3, hx4, hx5, hx6, hx7]
    rw [HCX]
    clear HCX h0 hF hx hR hx0 hx1 hx2 hx3 hx4 hx5 hx6 hx7
    go_enter Try.func18, Try.ntmps18
    go_wp2
    go_ret2
    exact ⟨_, rfl, OwnInts.nil _ _ _, below_new w _⟩
  | cons x R ih =>
    intro F A c w hR hc hx hF h0
    obtain ⟨i0, hi, hz0, hz1, hz2⟩ := info_parts info_int
    rw [List.length_cons] at hR hc
    have HIH := Lib.hid fun (G : Nat → Int) (hG : ∀ i, i < 8 → 0 ≤ G i ∧ G i ≤ 1000000) (W : World) (h : IntSl W (subA A 1 c) R) => ih G (subA A 1 c) (c - 1) W (by omega) (by omega) (fun z hz => hx z (List.mem_cons_of_mem _ hz)) hG h
    clear ih
    have bx := hx x (List.mem_cons_self ..)
    have HSL := Lib.hid fun W => cut_l A (R.length + 1) c 1 (by omega) W
    have HSD : Hid (∀ W, IntSl W A (x :: R) → IntSl W (subA A 1 c) R) := Lib.hid fun W h => h.drop 1 c (by rw [List.length_cons]; omega)
    obtain ⟨A', hA'⟩ : ∃ A', A' = subA A 1 c := ⟨_, rfl⟩
    rw [← hA'] at HIH HSL HSD
    rw [Nat.add_sub_cancel] at HSL
    obtain ⟨Z, hZ⟩ : ∃ Z, Z = cutM (x :: R) (rowL F b) := ⟨_, rfl⟩
    rw [← hZ]
    rw [cutM_cons, rowL_len] at hZ
    have HZ := Lib.hid hZ
    clear hZ hA'
    obtain ⟨x0, hx0⟩ : ∃ x, x = F 0 := ⟨_, rfl⟩
    obtain ⟨x1, hx1⟩ : ∃ x, x = F 1 := ⟨_, rfl⟩
    obtain ⟨x2, hx2⟩ : ∃ x, x = F 2 := ⟨_, rfl⟩
    obtain ⟨x3, hx3⟩ : ∃ x, x = F 3 := ⟨_, rfl⟩
    obtain ⟨x4, hx4⟩ : ∃ x, x = F 4 := ⟨_, rfl⟩
    obtain ⟨x5, hx5⟩ : ∃ x, x = F 5 := ⟨_, rfl⟩
    obtain ⟨x6, hx6⟩ : ∃ x, x = F 6 := ⟨_, rfl⟩
    obtain ⟨x7, hx7⟩ : ∃ x, x = F 7 := ⟨_, rfl⟩
    have HCX : Hid (restA F = #[.int .i64 x0, .int .i64 x1, .int .i64 x2, .int .i64 x3, .int .i64 x4, .int .i64 x5, .int .i64 x6, .int .i64 x7]) := Lib.hid (by rw [restA_lit, hx0, hx1, hx2, hx3, hx4, hx5, hx6, hx7])
    have HX0 : Hid (F 0 = x0) := Lib.hid hx0.symm
    have HX1 : Hid (F 1 = x1) := Lib.hid hx1.symm
    have HX2 : Hid (F 2 = x2) := Lib.hid hx2.symm
    have HX3 : Hid (F 3 = x3) := Lib.hid hx3.symm
    have HX4 : Hid (F 4 = x4) := Lib.hid hx4.symm
    have HX5 : Hid (F 5 = x5) := Lib.hid hx5.symm
    have HX6 : Hid (F 6 = x6) := Lib.hid hx6.symm
    have HX7 : Hid (F 7 = x7) := Lib.hid hx7.symm
    rw [HCX.out]
    have HS0 := Lib.hid h0
    have HFB := Lib.hid hF
    have hb0 : (1 : Int) ≤ (b : Int) := by omega
    have hlz : ((R.length : Int) + 1 == 0) = false := by rw [beq_eq_false_iff_ne]; omega
    clear h0 hF hx hx0 hx1 hx2 hx3 hx4 hx5 hx6 hx7
    go_enter Try.func18, Try.ntmps18
    go_wp2
    generalize hWA : World.alloc w _ = wa
    have hR0 : RowIs wa 37 w.heap.size w.heap.size 8 F := by
      rw [← hWA]; exact RowIs.of_block (by rw [show (rowF 8 F).toArray = #[.int .i64 x0, .int .i64 x1, .int .i64 x2, .int .i64 x3, .int .i64 x4, .int .i64 x5, .int .i64 x6, .int .i64 x7] from HCX.out]; exact heap_alloc_new w _) (Nat.le_refl _) (by unfold maxLen; omega)
    have hB0 : Below w.heap.size w wa := by rw [← hWA]; exact below_new w _
    obtain ⟨g, hg⟩ : ∃ g, g = w.heap.size := ⟨_, rfl⟩
    have HR0 : Hid (RowIs wa 37 g g 8 F) := Lib.hid (by rw [hg]; exact hR0)
    have HB0 := Lib.hid hB0
    have HG := Lib.hid hg
    try rw [← hg]
    clear hR0 hB0 hWA hg
    go_loopw [8, 9, 10, 11, 16] (fun _ _ _ _ i wr => ∃ k : Nat, k ≤ b ∧ i = .int .i64 k ∧ Hid (∀ j, 0 ≤ j → j < k → tryK x R (rowL F b) j = none) ∧ RowIs wr 37 g g 8 F ∧ Below w.heap.size w wr) (fun _ _ _ _ i _ => b - (intOf i).toNat)
    case atStart => exact ⟨0, Nat.zero_le _, rfl, Lib.hid fun j _ h => absurd h (Nat.not_lt_zero _), HR0.out, HB0.out⟩
    case round =>
      clear HR0 HB0
      obtain ⟨k, hk, rfl, hno, hrow, hb⟩ := hrel
      have HR := Lib.hid hrow
      have HB := Lib.hid hb
      clear hrow hb
      by_cases hkb : k < b
      · have hk8 : k < 8 := by omega
        obtain ⟨f, hf⟩ : ∃ f, f = F k := ⟨_, rfl⟩
        have c0 : wr.cell? ⟨g, 0, none⟩ = some (.int .i64 x0) := by rw [← HX0.out]; exact HR.out.cell 0 (by omega)
        have c1 : wr.cell? ⟨g, 1, none⟩ = some (.int .i64 x1) := by rw [← HX1.out]; exact HR.out.cell 1 (by omega)
        have c2 : wr.cell? ⟨g, 2, none⟩ = some (.int .i64 x2) := by rw [← HX2.out]; exact HR.out.cell 2 (by omega)
        have c3 : wr.cell? ⟨g, 3, none⟩ = some (.int .i64 x3) := by rw [← HX3.out]; exact HR.out.cell 3 (by omega)
        have c4 : wr.cell? ⟨g, 4, none⟩ = some (.int .i64 x4) := by rw [← HX4.out]; exact HR.out.cell 4 (by omega)
        have c5 : wr.cell? ⟨g, 5, none⟩ = some (.int .i64 x5) := by rw [← HX5.out]; exact HR.out.cell 5 (by omega)
        have c6 : wr.cell? ⟨g, 6, none⟩ = some (.int .i64 x6) := by rw [← HX6.out]; exact HR.out.cell 6 (by omega)
        have c7 : wr.cell? ⟨g, 7, none⟩ = some (.int .i64 x7) := by rw [← HX7.out]; exact HR.out.cell 7 (by omega)
        have ck : wr.cell? ⟨g, k, none⟩ = some (.int .i64 f) := by rw [hf]; exact HR.out.cell k hk8
        have HCN : Hid (∀ q, Calls Try.prog 22 #[.slice (some ⟨g, 0, none⟩) k 8, .int .i64 f] (wr.drewN q) fun e w' => e = .returned (.bool (decide (f ∈ rowL F k))) ∧ w' = wr.drewN q) := Lib.hid fun q => by
          have h1 := (HR.out.below (drewN_below wr q)).part (n := k) (by omega) (by unfold maxLen; omega)
          have h2 := contains_any (some ⟨g, 0, none⟩) 8 (rowL F k) f (wr.drewN q) (by rw [rowL_len]; omega) (IntSl.of_own h1)
          rw [rowL_len] at h2
          exact h2.mono fun _ _ h => ⟨h.1, h.2.symm⟩
        have HF := Lib.hid hf
        have k0 : (0 : Int) ≤ (k : Int) := by omega
        have k1 : (k : Int) < 8 := by omega
        have k2 : (k : Int) ≤ 8 := by omega
        have k3 : (k : Int) < (b : Int) := by omega
        clear hf
        cases hm : decide (f ∈ rowL F k)
        · have HRW := Lib.hid fun q => HR.out.below (drewN_below wr q)
          have HBW := Lib.hid fun q => HB.out.trans ((drewN_below wr q).mono HB.out.size)
          obtain ⟨g1, o1, hA, hg1, hat⟩ := (HS0.out.below HB.out).some (by rw [List.length_cons]; omega)
          subst hA
          have hat0 := hat 0 (by rw [List.length_cons]; omega)
          rw [Nat.add_zero] at hat0
          have hat1 : wr.cell? ⟨g1, o1, none⟩ = some (.int .i64 x) := hat0
          have HAT := Lib.hid hat1
          rw [hm] at HCN
          clear hm hat hat0 hat1
          go_wp2
          go_quiet (first | (go_at_call 22; exact Calls.quiet_of_same (HCN.out _)))
          go_wp2_with fail
          generalize hWQ : World.drewN wr _ = wq
          have hbq : Below wr.heap.size wr wq := by rw [← hWQ]; exact drewN_below wr _
          have hgl := HR.out.lt.2
          have HRQ := Lib.hid (HR.out.below hbq)
          have HBQ := Lib.hid (below_next HB.out hbq)
          have e1 := (hbq.cell (p := ⟨g1, o1, none⟩) hg1).trans HAT.out
          obtain ⟨y0, hy0⟩ : ∃ y, y = cutF F x k 0 := ⟨_, rfl⟩
          obtain ⟨y1, hy1⟩ : ∃ y, y = cutF F x k 1 := ⟨_, rfl⟩
          obtain ⟨y2, hy2⟩ : ∃ y, y = cutF F x k 2 := ⟨_, rfl⟩
          obtain ⟨y3, hy3⟩ : ∃ y, y = cutF F x k 3 := ⟨_, rfl⟩
          obtain ⟨y4, hy4⟩ : ∃ y, y = cutF F x k 4 := ⟨_, rfl⟩
          obtain ⟨y5, hy5⟩ : ∃ y, y = cutF F x k 5 := ⟨_, rfl⟩
          obtain ⟨y6, hy6⟩ : ∃ y, y = cutF F x k 6 := ⟨_, rfl⟩
          obtain ⟨y7, hy7⟩ : ∃ y, y = cutF F x k 7 := ⟨_, rfl⟩
          have HCY : Hid (restA (cutF F x k) = #[.int .i64 y0, .int .i64 y1, .int .i64 y2, .int .i64 y3, .int .i64 y4, .int .i64 y5, .int .i64 y6, .int .i64 y7]) := Lib.hid (by rw [restA_lit, hy0, hy1, hy2, hy3, hy4, hy5, hy6, hy7])
          have HY0 : Hid (cutF F x k 0 = y0) := Lib.hid hy0.symm
          have HY1 : Hid (cutF F x k 1 = y1) := Lib.hid hy1.symm
          have HY2 : Hid (cutF F x k 2 = y2) := Lib.hid hy2.symm
          have HY3 : Hid (cutF F x k 3 = y3) := Lib.hid hy3.symm
          have HY4 : Hid (cutF F x k 4 = y4) := Lib.hid hy4.symm
          have HY5 : Hid (cutF F x k 5 = y5) := Lib.hid hy5.symm
          have HY6 : Hid (cutF F x k 6 = y6) := Lib.hid hy6.symm
          have HY7 : Hid (cutF F x k 7 = y7) := Lib.hid hy7.symm
          have HC : Hid (∀ W, Calls Try.prog 23 #[.agg #[.int .i64 x0, .int .i64 x1, .int .i64 x2, .int .i64 x3, .int .i64 x4, .int .i64 x5, .int .i64 x6, .int .i64 x7], .int .i64 x, .int .i64 k] W fun e w' => e = .returned (.agg #[.int .i64 y0, .int .i64 y1, .int .i64 y2, .int .i64 y3, .int .i64 y4, .int .i64 y5, .int .i64 y6, .int .i64 y7]) ∧ Below W.heap.size W w') := Lib.hid fun W => by
            rw [← HCX.out, ← HCY.out]
            exact cutOff_any F x k W (fun i hi => by have := HFB.out i hi; omega) bx
          replace c0 := (hbq.cell (p := ⟨g, 0, none⟩) hgl).trans c0
          replace c1 := (hbq.cell (p := ⟨g, 1, none⟩) hgl).trans c1
          replace c2 := (hbq.cell (p := ⟨g, 2, none⟩) hgl).trans c2
          replace c3 := (hbq.cell (p := ⟨g, 3, none⟩) hgl).trans c3
          replace c4 := (hbq.cell (p := ⟨g, 4, none⟩) hgl).trans c4
          replace c5 := (hbq.cell (p := ⟨g, 5, none⟩) hgl).trans c5
          replace c6 := (hbq.cell (p := ⟨g, 6, none⟩) hgl).trans c6
          replace c7 := (hbq.cell (p := ⟨g, 7, none⟩) hgl).trans c7
          clear ck hWQ hy0 hy1 hy2 hy3 hy4 hy5 hy6 hy7
          have HK0 : Hid (∀ W, Below wq.heap.size wq W → W.cell? ⟨g, 0, none⟩ = some (.int .i64 x0) ∧ W.cell? ⟨g, 1, none⟩ = some (.int .i64 x1) ∧ W.cell? ⟨g, 2, none⟩ = some (.int .i64 x2) ∧ W.cell? ⟨g, 3, none⟩ = some (.int .i64 x3) ∧ W.cell? ⟨g, 4, none⟩ = some (.int .i64 x4) ∧ W.cell? ⟨g, 5, none⟩ = some (.int .i64 x5) ∧ W.cell? ⟨g, 6, none⟩ = some (.int .i64 x6) ∧ W.cell? ⟨g, 7, none⟩ = some (.int .i64 x7) ∧ W.cell? ⟨g1, o1, none⟩ = some (.int .i64 x)) := Lib.hid fun W hW => ⟨((HRQ.out.below hW).cell 0 (by omega)).trans (congrArg (fun z => some (Value.int .i64 z)) HX0.out), ((HRQ.out.below hW).cell 1 (by omega)).trans (congrArg (fun z => some (Value.int .i64 z)) HX1.out), ((HRQ.out.below hW).cell 2 (by omega)).trans (congrArg (fun z => some (Value.int .i64 z)) HX2.out), ((HRQ.out.below hW).cell 3 (by omega)).trans (congrArg (fun z => some (Value.int .i64 z)) HX3.out), ((HRQ.out.below hW).cell 4 (by omega)).trans (congrArg (fun z => some (Value.int .i64 z)) HX4.out), ((HRQ.out.below hW).cell 5 (by omega)).trans (congrArg (fun z => some (Value.int .i64 z)) HX5.out), ((HRQ.out.below hW).cell 6 (by omega)).trans (congrArg (fun z => some (Value.int .i64 z)) HX6.out), ((HRQ.out.below hW).cell 7 (by omega)).trans (congrArg (fun z => some (Value.int .i64 z)) HX7.out), (hW.cell (p := ⟨g1, o1, none⟩) (Nat.lt_of_lt_of_le hg1 hbq.size)).trans e1⟩
          have HO8 : Hid ((#[.int .i64 y0, .int .i64 y1, .int .i64 y2, .int .i64 y3, .int .i64 y4, .int .i64 y5, .int .i64 y6, .int .i64 y7] : Array Value).all (·.oneCell') = true) := Lib.hid (by rw [← HCY.out]; exact rowF_one 8 _)
          have hglq := HRQ.out.lt.2
          have hIL : Hid ((Try.prog.info? 37).map (·.size) = some 8) := Lib.hid info_rests
          have HDQ : Hid (Below wq.heap.size wq wq.drew) := Lib.hid (Below.refl _ _).drew
          go_cut [9, 16] from 16 to 47 (fun p i wz => i = .int .i64 k ∧ ∃ g9, p = .pointer (some ⟨g9, 0, none⟩) ∧ g9 ≠ g ∧ RowIs wz 37 g9 g9 8 (cutF F x k) ∧ RowIs wz 37 g g 8 F ∧ Below w.heap.size w wz)
          case first =>
            refine wp_region_held_drew (S := fun z => z.cell? ⟨g, 0, none⟩ = some (.int .i64 x0) ∧ z.cell? ⟨g, 1, none⟩ = some (.int .i64 x1) ∧ z.cell? ⟨g, 2, none⟩ = some (.int .i64 x2) ∧ z.cell? ⟨g, 3, none⟩ = some (.int .i64 x3) ∧ z.cell? ⟨g, 4, none⟩ = some (.int .i64 x4) ∧ z.cell? ⟨g, 5, none⟩ = some (.int .i64 x5) ∧ z.cell? ⟨g, 6, none⟩ = some (.int .i64 x6) ∧ z.cell? ⟨g, 7, none⟩ = some (.int .i64 x7) ∧ z.cell? ⟨g1, o1, none⟩ = some (.int .i64 x)) (by kernel_rfl) (HK0.out _ HDQ.out) ?_
            intro hS0
            refine wpAnyH_take (i := 0) (v := ?_) rfl (by kernel_rfl) (by kernel_rfl) (by kernel_rfl) (fun _ _ _ h => h) (Or.inl ⟨by rfl, ?_⟩) (by assumption) ?_
            rotate_left
            · intro z hSz
              (try dsimp only at hSz)
              go_simp
              try with_reducible rfl
            try simp only [Act.put, List.setIfInBounds_toArray, List.set_cons_zero, List.set_cons_succ]
            refine wpAnyH_take (i := 1) (v := ?_) rfl (by kernel_rfl) (by kernel_rfl) (by kernel_rfl) (fun _ _ _ h => h) (Or.inl ⟨by rfl, ?_⟩) (by assumption) ?_
            rotate_left
            · intro z hSz
              (try dsimp only at hSz)
              go_simp
              try with_reducible rfl
            try simp only [Act.put, List.setIfInBounds_toArray, List.set_cons_zero, List.set_cons_succ]
            refine wpAnyH_take (i := 2) (v := ?_) rfl (by kernel_rfl) (by kernel_rfl) (by kernel_rfl) (fun _ _ _ h => h) (Or.inl ⟨by rfl, ?_⟩) (by assumption) ?_
            rotate_left
            · intro z hSz
              (try dsimp only at hSz)
              go_simp
              try with_reducible rfl
            try simp only [Act.put, List.setIfInBounds_toArray, List.set_cons_zero, List.set_cons_succ]
            refine wpAnyH_take (i := 3) (v := ?_) rfl (by kernel_rfl) (by kernel_rfl) (by kernel_rfl) (fun _ _ _ h => h) (Or.inl ⟨by rfl, ?_⟩) (by assumption) ?_
            rotate_left
            · intro z hSz
              (try dsimp only at hSz)
              go_simp
              try with_reducible rfl
            try simp only [Act.put, List.setIfInBounds_toArray, List.set_cons_zero, List.set_cons_succ]
            refine wpAnyH_take (i := 4) (v := ?_) rfl (by kernel_rfl) (by kernel_rfl) (by kernel_rfl) (fun _ _ _ h => h) (Or.inl ⟨by rfl, ?_⟩) (by assumption) ?_
            rotate_left
            · intro z hSz
              (try dsimp only at hSz)
              go_simp
              try with_reducible rfl
            try simp only [Act.put, List.setIfInBounds_toArray, List.set_cons_zero, List.set_cons_succ]
            refine wpAnyH_ready (rs := [5, 6]) (by kernel_rfl) (by simp) ?_
            refine AllReadyH.cons rfl (fun K hK => ?_) ?_
            · go_simp
              go_at_call 23
              refine (HC.out _).mono ?_
              rintro e w5 ⟨rfl, hb5⟩
              have HB5 := Lib.hid (below_next HDQ.out hb5)
              clear hb5
              refine hK.out _ _ (HK0.out _ HB5.out) (fun hS5 => ?_)
              clear hK K
              try simp only [Act.put, List.setIfInBounds_toArray, List.set_cons_zero, List.set_cons_succ]
              refine wpAnyH_ready (rs := [6]) (by kernel_rfl) (by simp) ?_
              refine AllReadyH.cons rfl (fun K hK => ?_) AllReadyH.nil
              go_simp
              refine hK.out _ _ (HK0.out _ (below_next HB5.out (below_new _ _))) (fun hS6 => ?_)
              clear hK K
              try simp only [Act.put, List.setIfInBounds_toArray, List.set_cons_zero, List.set_cons_succ]
              refine wpAnyH_ready (rs := [7]) (by kernel_rfl) (by simp) ?_
              refine AllReadyH.cons rfl (fun K hK => ?_) AllReadyH.nil
              rw [if_pos (by rfl)]
              refine wp_store_row 37 (.tmp 9) (.tmp 30) rfl w5.heap.size #[.int .i64 y0, .int .i64 y1, .int .i64 y2, .int .i64 y3, .int .i64 y4, .int .i64 y5, .int .i64 y6, .int .i64 y7] rfl rfl 37 _ (heap_alloc_new w5 _) hIL.out rfl HO8.out ?_
              refine hK.out _ _ (HK0.out _ (below_setRow (below_next HB5.out (below_new _ _)) HB5.out.size)) (fun _ => wpAnyH_done (by kernel_rfl) ?_ _)
              clear hK K
              try simp only [Act.put, List.setIfInBounds_toArray, List.set_cons_zero, List.set_cons_succ]
              go_wp2_with fail
              go_meet
              case rel => exact ⟨rfl, w5.heap.size, rfl, by (have := HB5.out.size; omega), by (rw [← HCY.out]; exact RowIs.set _ (heap_alloc_new w5 _) (by unfold maxLen; omega)), (HRQ.out.below (below_next HB5.out (below_new w5 _))).farRow (by (have := HB5.out.size; omega)) _ (by unfold maxLen; omega), below_setRow (below_next HBQ.out (below_next HB5.out (below_new w5 _))) (Nat.le_trans HBQ.out.size HB5.out.size)⟩
            · refine AllReadyH.cons rfl (fun K hK => ?_) AllReadyH.nil
              go_simp
              refine hK.out _ _ (HK0.out _ (below_next HDQ.out (below_new _ _))) (fun hS6 => ?_)
              clear hK K
              try simp only [Act.put, List.setIfInBounds_toArray, List.set_cons_zero, List.set_cons_succ]
              refine wpAnyH_ready (rs := [5]) (by kernel_rfl) (by simp) ?_
              refine AllReadyH.cons rfl (fun K hK => ?_) AllReadyH.nil
              go_simp
              go_at_call 23
              refine (HC.out _).mono ?_
              rintro e w5 ⟨rfl, hb5⟩
              have h5 := zero8_call (w := wq) hb5
              have HB5 := Lib.hid h5.2
              have HZ5 := Lib.hid h5.1
              clear h5 hb5
              refine hK.out _ _ (HK0.out _ HB5.out) (fun hS5 => ?_)
              clear hK K
              try simp only [Act.put, List.setIfInBounds_toArray, List.set_cons_zero, List.set_cons_succ]
              refine wpAnyH_ready (rs := [7]) (by kernel_rfl) (by simp) ?_
              refine AllReadyH.cons rfl (fun K hK => ?_) AllReadyH.nil
              rw [if_pos (by rfl)]
              refine wp_store_row 37 (.tmp 9) (.tmp 30) rfl wq.heap.size #[.int .i64 y0, .int .i64 y1, .int .i64 y2, .int .i64 y3, .int .i64 y4, .int .i64 y5, .int .i64 y6, .int .i64 y7] rfl rfl 37 _ HZ5.out.block hIL.out rfl HO8.out ?_
              refine hK.out _ _ (HK0.out _ (below_setRow HB5.out (Nat.le_refl _))) (fun _ => wpAnyH_done (by kernel_rfl) ?_ _)
              clear hK K
              try simp only [Act.put, List.setIfInBounds_toArray, List.set_cons_zero, List.set_cons_succ]
              go_wp2_with fail
              go_meet
              case rel => exact ⟨rfl, wq.heap.size, rfl, by omega, by (rw [← HCY.out]; exact RowIs.set _ HZ5.out.block (by unfold maxLen; omega)), (HRQ.out.below HB5.out).farRow (by omega) _ (by unfold maxLen; omega), below_setRow (below_next HBQ.out HB5.out) HBQ.out.size⟩
          case rest =>
            obtain ⟨rfl, g9, rfl, hne9, hrn, hro, hbn⟩ := hcut
            have HRN := Lib.hid hrn
            have HRO := Lib.hid hro
            have HBN := Lib.hid hbn
            clear hrn hro hbn HC HK0 HDQ hIL HO8 HRQ HBQ HRW HBW e1 c0 c1 c2 c3 c4 c5 c6 c7 hbq
            have a0 : wc.cell? ⟨g9, 0, none⟩ = some (.int .i64 y0) := (HRN.out.cell 0 (by omega)).trans (congrArg (fun z => some (Value.int .i64 z)) HY0.out)
            have b0 : wc.cell? ⟨g, 0, none⟩ = some (.int .i64 x0) := (HRO.out.cell 0 (by omega)).trans (congrArg (fun z => some (Value.int .i64 z)) HX0.out)
            have a1 : wc.cell? ⟨g9, 1, none⟩ = some (.int .i64 y1) := (HRN.out.cell 1 (by omega)).trans (congrArg (fun z => some (Value.int .i64 z)) HY1.out)
            have b1 : wc.cell? ⟨g, 1, none⟩ = some (.int .i64 x1) := (HRO.out.cell 1 (by omega)).trans (congrArg (fun z => some (Value.int .i64 z)) HX1.out)
            have a2 : wc.cell? ⟨g9, 2, none⟩ = some (.int .i64 y2) := (HRN.out.cell 2 (by omega)).trans (congrArg (fun z => some (Value.int .i64 z)) HY2.out)
            have b2 : wc.cell? ⟨g, 2, none⟩ = some (.int .i64 x2) := (HRO.out.cell 2 (by omega)).trans (congrArg (fun z => some (Value.int .i64 z)) HX2.out)
            have a3 : wc.cell? ⟨g9, 3, none⟩ = some (.int .i64 y3) := (HRN.out.cell 3 (by omega)).trans (congrArg (fun z => some (Value.int .i64 z)) HY3.out)
            have b3 : wc.cell? ⟨g, 3, none⟩ = some (.int .i64 x3) := (HRO.out.cell 3 (by omega)).trans (congrArg (fun z => some (Value.int .i64 z)) HX3.out)
            have a4 : wc.cell? ⟨g9, 4, none⟩ = some (.int .i64 y4) := (HRN.out.cell 4 (by omega)).trans (congrArg (fun z => some (Value.int .i64 z)) HY4.out)
            have b4 : wc.cell? ⟨g, 4, none⟩ = some (.int .i64 x4) := (HRO.out.cell 4 (by omega)).trans (congrArg (fun z => some (Value.int .i64 z)) HX4.out)
            have a5 : wc.cell? ⟨g9, 5, none⟩ = some (.int .i64 y5) := (HRN.out.cell 5 (by omega)).trans (congrArg (fun z => some (Value.int .i64 z)) HY5.out)
            have b5 : wc.cell? ⟨g, 5, none⟩ = some (.int .i64 x5) := (HRO.out.cell 5 (by omega)).trans (congrArg (fun z => some (Value.int .i64 z)) HX5.out)
            have a6 : wc.cell? ⟨g9, 6, none⟩ = some (.int .i64 y6) := (HRN.out.cell 6 (by omega)).trans (congrArg (fun z => some (Value.int .i64 z)) HY6.out)
            have b6 : wc.cell? ⟨g, 6, none⟩ = some (.int .i64 x6) := (HRO.out.cell 6 (by omega)).trans (congrArg (fun z => some (Value.int .i64 z)) HX6.out)
            have a7 : wc.cell? ⟨g9, 7, none⟩ = some (.int .i64 y7) := (HRN.out.cell 7 (by omega)).trans (congrArg (fun z => some (Value.int .i64 z)) HY7.out)
            have b7 : wc.cell? ⟨g, 7, none⟩ = some (.int .i64 x7) := (HRO.out.cell 7 (by omega)).trans (congrArg (fun z => some (Value.int .i64 z)) HX7.out)
            by_cases hle : x ≤ F k
            · have hbv : (y0 == x0 && (y1 == x1 && (y2 == x2 && (y3 == x3 && (y4 == x4 && (y5 == x5 && (y6 == x6 && y7 == x7))))))) = false := by
                rw [Bool.eq_false_iff]
                intro h
                have h1 := (beq8 x0 x1 x2 x3 x4 x5 x6 x7 y0 y1 y2 y3 y4 y5 y6 y7).1 h
                rw [← HCY.out, ← HCX.out] at h1
                have h2 := restA_inj h1 (i := k) hk8
                rw [cutF_yes hle] at h2
                have h3 : (if k = k then F k - x else F k) = F k := h2
                rw [if_pos rfl] at h3
                omega
              have HT := Lib.hid (rowL_try (b := b) (R := R) hkb hle)
              have HGB : Hid (∀ i, i < 8 → 0 ≤ cutF F x k i ∧ cutF F x k i ≤ 1000000) := Lib.hid fun i hi => by
                have h1 := HFB.out i hi
                have h2 := HFB.out k hk8
                rw [cutF_yes hle]
                show 0 ≤ (if i = k then F k - x else F i) ∧ (if i = k then F k - x else F i) ≤ 1000000
                split <;> omega
              have HRC2 := Lib.hid fun W h => HIH.out (cutF F x k) HGB.out W h
              rw [HCY.out] at HRC2
              clear hle
              have heq : ∀ W, (Op.equalIn 10000 37 (.agg #[.int .i64 y0, .int .i64 y1, .int .i64 y2, .int .i64 y3, .int .i64 y4, .int .i64 y5, .int .i64 y6, .int .i64 y7]) (.agg #[.int .i64 x0, .int .i64 x1, .int .i64 x2, .int .i64 x3, .int .i64 x4, .int .i64 x5, .int .i64 x6, .int .i64 x7])).run Try.prog W = .ok false W := fun W => (eq_rests 9998 y0 y1 y2 y3 y4 y5 y6 y7 x0 x1 x2 x3 x4 x5 x6 x7 W).trans (by rw [hbv])
              clear hbv
              go_wp2_with fail
              clear heq b0 b1 b2 b3 b4 b5 b6 b7
              have HK : Hid (∀ W, Below wc.heap.size wc W → W.cell? ⟨g9, 0, none⟩ = some (.int .i64 y0) ∧ W.cell? ⟨g9, 1, none⟩ = some (.int .i64 y1) ∧ W.cell? ⟨g9, 2, none⟩ = some (.int .i64 y2) ∧ W.cell? ⟨g9, 3, none⟩ = some (.int .i64 y3) ∧ W.cell? ⟨g9, 4, none⟩ = some (.int .i64 y4) ∧ W.cell? ⟨g9, 5, none⟩ = some (.int .i64 y5) ∧ W.cell? ⟨g9, 6, none⟩ = some (.int .i64 y6) ∧ W.cell? ⟨g9, 7, none⟩ = some (.int .i64 y7)) := Lib.hid fun W hW => ⟨((HRN.out.below hW).cell 0 (by omega)).trans (congrArg (fun z => some (Value.int .i64 z)) HY0.out), ((HRN.out.below hW).cell 1 (by omega)).trans (congrArg (fun z => some (Value.int .i64 z)) HY1.out), ((HRN.out.below hW).cell 2 (by omega)).trans (congrArg (fun z => some (Value.int .i64 z)) HY2.out), ((HRN.out.below hW).cell 3 (by omega)).trans (congrArg (fun z => some (Value.int .i64 z)) HY3.out), ((HRN.out.below hW).cell 4 (by omega)).trans (congrArg (fun z => some (Value.int .i64 z)) HY4.out), ((HRN.out.below hW).cell 5 (by omega)).trans (congrArg (fun z => some (Value.int .i64 z)) HY5.out), ((HRN.out.below hW).cell 6 (by omega)).trans (congrArg (fun z => some (Value.int .i64 z)) HY6.out), ((HRN.out.below hW).cell 7 (by omega)).trans (congrArg (fun z => some (Value.int .i64 z)) HY7.out)⟩
              have hsl : ∀ W, (Instr.slice 22 (.slice (some ⟨g1, o1, none⟩) (R.length + 1) c) (some (.int .i64 1)) none none).run Try.prog W = .ok (.slice A' R.length (c - 1)) W := HSL.out
              have HQ : Hid (IntSl wc.drew A' R) := Lib.hid (HSD.out _ (HS0.out.below (below_next HBN.out (Below.refl _ _).drew)))
              have HRO7 := Lib.hid fun W (h : Below wc.heap.size wc W) => HRO.out.below h
              have HBN7 := Lib.hid fun W (h : Below wc.heap.size wc W) => below_next HBN.out h
              cases hcm : cutM R (rowL (cutF F x k) b) with
              | none =>
                rw [hcm] at HRC2 HT
                have HN : Hid (∀ j, 0 ≤ j → j < k + 1 → tryK x R (rowL F b) j = none) := Lib.hid fun j hj0 hj => by
                  by_cases e : j = k
                  · subst e; exact HT.out
                  · exact hno.out j hj0 (by omega)
                clear hcm
                go_region_held3 (fun z => z.cell? ⟨g9, 0, none⟩ = some (.int .i64 y0) ∧ z.cell? ⟨g9, 1, none⟩ = some (.int .i64 y1) ∧ z.cell? ⟨g9, 2, none⟩ = some (.int .i64 y2) ∧ z.cell? ⟨g9, 3, none⟩ = some (.int .i64 y3) ∧ z.cell? ⟨g9, 4, none⟩ = some (.int .i64 y4) ∧ z.cell? ⟨g9, 5, none⟩ = some (.int .i64 y5) ∧ z.cell? ⟨g9, 6, none⟩ = some (.int .i64 y6) ∧ z.cell? ⟨g9, 7, none⟩ = some (.int .i64 y7))
                  (first | go_keep | exact HK.out _ HB7.out)
                  (first
                    | (go_at_call 18; refine (HRC2.out _ HQ.out).mono ?_; rintro e w7 ⟨v7, rfl, hown7, hb7⟩; have HO7 := Lib.hid hown7; have HB7 := Lib.hid (below_next (Below.refl _ _).drew hb7); clear hown7 hb7))
                clear a0 a1 a2 a3 a4 a5 a6 a7
                go_wp2
                go_roundw
                case rel => exact ⟨k + 1, by omega, by go_num, HN, HRO7.out _ HB7.out, HBN7.out _ HB7.out⟩
                case measure => simp [intOf]; omega
              | some cc =>
                rw [hcm] at HRC2 HT
                have HV : Hid (Z = some ((k : Int) :: cc)) := Lib.hid (HZ.out.trans (firstK_found (n := b) (k := 0) (m := k) (Nat.zero_le _) (by omega) (fun j h1 h2 => hno.out j h1 h2) HT.out))
                have hcl : cc.length ≤ 8 := by have := cutM_len hcm; omega
                clear hcm
                go_region_held3 (fun z => z.cell? ⟨g9, 0, none⟩ = some (.int .i64 y0) ∧ z.cell? ⟨g9, 1, none⟩ = some (.int .i64 y1) ∧ z.cell? ⟨g9, 2, none⟩ = some (.int .i64 y2) ∧ z.cell? ⟨g9, 3, none⟩ = some (.int .i64 y3) ∧ z.cell? ⟨g9, 4, none⟩ = some (.int .i64 y4) ∧ z.cell? ⟨g9, 5, none⟩ = some (.int .i64 y5) ∧ z.cell? ⟨g9, 6, none⟩ = some (.int .i64 y6) ∧ z.cell? ⟨g9, 7, none⟩ = some (.int .i64 y7))
                  (first | go_keep | exact HK.out _ HB7.out)
                  (first
                    | (go_at_call 18; refine (HRC2.out _ HQ.out).mono ?_; rintro e w7 ⟨v7, rfl, hown7, hb7⟩; have HO7 := Lib.hid hown7; have HB7 := Lib.hid (below_next (Below.refl _ _).drew hb7); clear hown7 hb7))
                clear a0 a1 a2 a3 a4 a5 a6 a7
                have HB8 := Lib.hid (HBN7.out _ HB7.out)
                have hs7 := HB8.out.size
                have HD := Lib.hid (own_one w7 hs7 3 (k : Int))
                have HBD := Lib.hid (HB8.out.alloc hs7 (.cells #[.int .i64 (k : Int)] 3))
                by_cases hcc : 0 < cc.length
                · obtain ⟨g7, d7, hv7, -, hg7⟩ := own_some HO7.out hcc
                  subst hv7
                  have HNW : Hid (∀ (j : Nat) (u : Value), (cc.map (Value.int .i64))[j]? = some u → (w7.alloc (.cells #[.int .i64 (k : Int)] 3)).cell? ((⟨g7, 0, none⟩ : Addr).add j) = some u) := Lib.hid fun j u hj => by
                    have hjl : j < cc.length := by have := (List.getElem?_eq_some_iff.1 hj).1; simpa using this
                    rw [addr_add, Nat.zero_add]
                    refine ((below_new w7 _).cell (p := ⟨g7, j, none⟩) hg7).trans ?_
                    rw [← hj]
                    have h7 : w7.ownsRow _ 3 1 (.slice (some ⟨g7, 0, none⟩) cc.length d7) cc.length (cc.map (Value.int .i64)) := HO7.out
                    exact World.ownsRow.cellAt h7 j (by omega)
                  clear hg7
                  go_wp2_with (at_builtin; refine wpList_append_own _ rfl (.tmp 44) (.tmp 45) _ rfl w.heap.size 3 i0 _ 1 8 Try.underlying22 hi hz0 hz1 hz2 rfl (by decide) _ 1 [.int .i64 (k : Int)] rfl HD.out ⟨g7, 0, none⟩ cc.length d7 (cc.map (Value.int .i64)) rfl (by simp) HNW.out (by simp [Value.oneCell']) (by unfold maxLen; omega) (by omega) (by simp; omega) ?_; intro v' w9 hown' hgrow _)
                  have HR9 : Hid (OwnInts w9 w.heap.size 3 v' ((k : Int) :: cc)) := Lib.hid (by unfold OwnInts; rw [List.length_cons, Nat.add_comm]; exact hown')
                  have HB9 : Hid (Below w.heap.size w w9) := Lib.hid (HBD.out.grown hgrow HBD.out.size fun q hq => (World.ownsRow.lt HD.out q hq).1)
                  clear hown' hgrow
                  go_wp2
                  go_ret2
                  exact ⟨_, by (rw [HV.out]; first | done | rfl), by rw [HV.out]; exact HR9.out, HB9.out⟩
                · obtain rfl : cc = [] := List.eq_nil_of_length_eq_zero (by omega)
                  obtain ⟨A7, d7, hv7⟩ := OwnInts.len HO7.out
                  rw [show (some ([] : List Int)).getD [] = [] from rfl, List.length_nil] at hv7
                  subst hv7
                  go_wp2_with (at_builtin; refine wpList_append_run rfl (.tmp 44) (.tmp 45) _ rfl _ _ _ _ rfl rfl (run_append_none _ A7 d7 w7.heap.size) ?_)
                  go_wp2
                  go_ret2
                  exact ⟨_, by (rw [HV.out]; first | done | rfl), by rw [HV.out]; exact HD.out, HBD.out⟩
            · have hbv : (y0 == x0 && (y1 == x1 && (y2 == x2 && (y3 == x3 && (y4 == x4 && (y5 == x5 && (y6 == x6 && y7 == x7))))))) = true := by
                rw [beq8 x0 x1 x2 x3 x4 x5 x6 x7 y0 y1 y2 y3 y4 y5 y6 y7, ← HCY.out, ← HCX.out, cutF_less hle]
              have HN : Hid (∀ j, 0 ≤ j → j < k + 1 → tryK x R (rowL F b) j = none) := Lib.hid fun j hj0 hj => by
                by_cases e : j = k
                · subst e; exact rowL_less hkb hle
                · exact hno.out j hj0 (by omega)
              clear hle
              have heq : ∀ W, (Op.equalIn 10000 37 (.agg #[.int .i64 y0, .int .i64 y1, .int .i64 y2, .int .i64 y3, .int .i64 y4, .int .i64 y5, .int .i64 y6, .int .i64 y7]) (.agg #[.int .i64 x0, .int .i64 x1, .int .i64 x2, .int .i64 x3, .int .i64 x4, .int .i64 x5, .int .i64 x6, .int .i64 x7])).run Try.prog W = .ok true W := fun W => (eq_rests 9998 y0 y1 y2 y3 y4 y5 y6 y7 x0 x1 x2 x3 x4 x5 x6 x7 W).trans (by rw [hbv])
              clear hbv
              go_wp2_with fail
              clear heq a0 b0 a1 b1 a2 b2 a3 b3 a4 b4 a5 b5 a6 b6 a7 b7
              go_roundw
              case rel => exact ⟨k + 1, by omega, by go_num, HN, HRO.out, HBN.out⟩
              case measure => simp [intOf]; omega
        · have HN : Hid (∀ j, 0 ≤ j → j < k + 1 → tryK x R (rowL F b) j = none) := Lib.hid fun j hj0 hj => by
            by_cases e : j = k
            · subst e
              obtain ⟨q, hq, e2⟩ := rowL_mem.1 (of_decide_eq_true hm)
              exact tryK_alike (j := q) (by rw [rowL_len]; omega) (by rw [rowL_len]; omega) (by rw [rowL_get (by omega), rowL_get hkb, e2, HF.out]) (hno.out q (Nat.zero_le _) hq)
            · exact hno.out j hj0 (by omega)
          have HRW := Lib.hid fun q => HR.out.below (drewN_below wr q)
          have HBW := Lib.hid fun q => HB.out.trans ((drewN_below wr q).mono HB.out.size)
          rw [hm] at HCN
          clear hm
          go_wp2
          go_quiet (first | (go_at_call 22; exact Calls.quiet_of_same (HCN.out _)))
          go_wp2
          go_roundw
          case rel => exact ⟨k + 1, by omega, by go_num, HN, HRW.out _, HBW.out _⟩
          case measure => simp [intOf]; omega
      · obtain rfl : k = b := by omega
        have HV : Hid (Z = none) := Lib.hid (by rw [HZ.out]; exact firstK_none fun j h1 h2 => hno.out j h1 (by omega))
        go_wp2
        go_ret2
        exact ⟨_, by (rw [HV.out]; first | done | rfl), by rw [HV.out]; exact OwnInts.nil _ _ _, HB.out⟩
end Go.Proofs.Ytnijedmnjmeciaa
