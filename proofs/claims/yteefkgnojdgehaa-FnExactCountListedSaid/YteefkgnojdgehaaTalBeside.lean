/- '(impl.tallies).beside': the tally beside a board, whatever the order of the keys. No condition but the tallies' bounds. -/
import Derived.Test.YteefkgnojdgehaaTalMap
import Derived.Deep.MidRow
namespace Go.Proofs.Yteefkgnojdgehaa
open Go.RowKit

theorem results_one_cell {fn : Func} {p : Tmp} {ty : TypeId} (h : fn.results = #[.cell p ty]) (tmps : Array Value) (P : Program) (w : World) :
    (results fn tmps).run P w = ((asAddr (tmps.getD p undef)).run P w).andThen fun a w₁ => (loadVar ty a).run P w₁ := by
  simp only [results, h]
  simp [Sem.run_bind]
theorem grown_set (w : World) (g i : Nat) (u : Value) : w.grownBy (w.setCell ⟨g, i, none⟩ u) (some g) :=
  ⟨rfl, rfl, rfl, by simp [World.setCell], fun k _ hn => Below.heap_setCell w ⟨g, i, none⟩ u k (fun e => hn (by rw [e]))⟩
/-- what has been seen of a map -/
def seen (f : Nat → Option (Int × Int)) (left : Nat → Bool) (k : Nat) : Option (Int × Int) := if left k = true then none else f k
theorem seen_step {f : Nat → Option (Int × Int)} {left : Nat → Bool} {k : Nat} {v : Int × Int} (hk : left k = true) (hf : f k = some v) : seen f (fun z => left z && !decide (z = k)) = upd (seen f left) k v := by
  funext z
  unfold seen upd
  by_cases e : z = k
  · subst e; simp [hf]
  · simp [e]
theorem seen_none {f : Nat → Option (Int × Int)} {left : Nat → Bool} {k : Nat} (hk : left k = true) : seen f left k = none := by unfold seen; rw [if_pos hk]
theorem good_seen {f : Nat → Option (Int × Int)} (h : good f) (left : Nat → Bool) : good (seen f left) := fun k v hk => by
  unfold seen at hk
  split at hk
  · cases hk
  · exact h k v hk
/-- a map of tallies as the program has them: of colours, with ways, not too many -/
structure Neat (f : Nat → Option (Int × Int)) : Prop where
  key : ∀ k v, f k = some v → k ∈ keys5
  ways : ∀ k v, f k = some v → 0 < v.1 ∧ v.1 ≤ 1000000000000000
  cost : ∀ k v, f k = some v → 0 ≤ v.2 ∧ v.2 ≤ 1000000000000000
theorem Neat.good {f : Nat → Option (Int × Int)} (h : Neat f) : good f := fun k v hk => (h.ways k v hk).1
theorem cmb_bd {a b : Int × Int} {m c : Int} (h0 : 0 ≤ a.1) (h1 : a.1 ≤ m) (h2 : 0 ≤ a.2 ∧ a.2 ≤ c) (h3 : 0 ≤ b.1 ∧ b.1 ≤ 1000000000000000) (h4 : 0 ≤ b.2 ∧ b.2 ≤ c) : 0 ≤ (cmb a b).1 ∧ (cmb a b).1 ≤ m + 1000000000000000 ∧ 0 ≤ (cmb a b).2 ∧ (cmb a b).2 ≤ c := by
  unfold cmb
  split
  · omega
  · split
    · omega
    · split
      · omega
      · split
        · refine ⟨?_, ?_, ?_, ?_⟩ <;> simp only <;> omega
        · omega
theorem fol_bd {f : Nat → Option (Int × Int)} (h : ∀ k v, f k = some v → (0 < v.1 ∧ v.1 ≤ 1000000000000000) ∧ 0 ≤ v.2 ∧ v.2 ≤ 1000000000000000) : ∀ l : List Nat, 0 ≤ (fol f l).1 ∧ (fol f l).1 ≤ l.length * 1000000000000000 ∧ 0 ≤ (fol f l).2 ∧ (fol f l).2 ≤ 1000000000000000
  | [] => by unfold fol; refine ⟨?_, ?_, ?_, ?_⟩ <;> simp
  | k :: l => by
    have ih := fol_bd h l
    show 0 ≤ (cmb _ (fol f l)).1 ∧ _
    have hb : (0 ≤ ((f k).getD (0, 0)).1 ∧ ((f k).getD (0, 0)).1 ≤ 1000000000000000) ∧ 0 ≤ ((f k).getD (0, 0)).2 ∧ ((f k).getD (0, 0)).2 ≤ 1000000000000000 := by
      cases hk : f k with
      | none => simp
      | some v => have := h k v hk; simp only [Option.getD_some]; omega
    obtain ⟨p, hp⟩ : ∃ p, p = (f k).getD (0, 0) := ⟨_, rfl⟩
    show 0 ≤ (cmb ((f k).getD (0, 0)) (fol f l)).1 ∧ (cmb ((f k).getD (0, 0)) (fol f l)).1 ≤ ((l.length + 1 : Nat) : Int) * 1000000000000000 ∧ 0 ≤ (cmb ((f k).getD (0, 0)) (fol f l)).2 ∧ (cmb ((f k).getD (0, 0)) (fol f l)).2 ≤ 1000000000000000
    rw [← hp] at hb ⊢
    unfold cmb
    split
    · omega
    · split
      · omega
      · split
        · omega
        · split
          · refine ⟨?_, ?_, ?_, ?_⟩ <;> simp only <;> omega
          · omega
theorem besT_bd {f : Nat → Option (Int × Int)} (h : Neat f) (left : Nat → Bool) (t : Nat) : 0 ≤ (besT (seen f left) t).1 ∧ (besT (seen f left) t).1 ≤ 5000000000000000 ∧ 0 ≤ (besT (seen f left) t).2 ∧ (besT (seen f left) t).2 ≤ 1000000000000000 := by
  refine fol_bd (fun k v hk => ?_) keys5
  unfold wo at hk
  split at hk
  · cases hk
  · unfold seen at hk
    split at hk
    · cases hk
    · exact ⟨h.ways k v hk, h.cost k v hk⟩
abbrev zeroT : Obj := .cells #[.int .i64 0, .int .i64 0] 54
theorem cells2 (w : World) (a b : Int) (t : TypeId) : (w.alloc (.cells #[.int .i64 a, .int .i64 b] t)).cell? ⟨w.heap.size, 0, none⟩ = some (.int .i64 a) ∧ (w.alloc (.cells #[.int .i64 a, .int .i64 b] t)).cell? ⟨w.heap.size, 1, none⟩ = some (.int .i64 b) := by
  refine ⟨?_, ?_⟩ <;> simp
/-- the world of the search -/
structure BsSt (w wr : World) (c : Int × Int) : Prop where
  b : Below (w.heap.size + 1) (w.alloc zeroT) wr
  z : w.heap.size + 3 ≤ wr.heap.size
  c0 : wr.cell? ⟨w.heap.size + 1, 0, none⟩ = some (.int .i64 c.1)
  c1 : wr.cell? ⟨w.heap.size + 1, 1, none⟩ = some (.int .i64 c.2)
  f : ∀ k, wr.frozen? ⟨w.heap.size + 1, k, none⟩ = false
theorem BsSt.below {w wr wr' : World} {c : Int × Int} (h : BsSt w wr c) {B : Nat} (hB : w.heap.size + 2 ≤ B) (hb : Below B wr wr') : BsSt w wr' c := by
  have lt : w.heap.size + 1 < B := by omega
  refine ⟨h.b.trans (hb.mono (by omega)), Nat.le_trans h.z hb.size, ?_, ?_, fun k => ?_⟩
  · rw [(bcell hb).1 _ _ lt]; exact h.c0
  · rw [(bcell hb).1 _ _ lt]; exact h.c1
  · rw [(bcell hb).2 _ _ lt]; exact h.f k
theorem BsSt.start {w w0 : World} (hg : ((w.alloc zeroT).alloc zeroT).grownBy w0 none) (hs : w0.heap.size = ((w.alloc zeroT).alloc zeroT).heap.size + 1) : BsSt w w0 (0, 0) := by
  have e1 : (w.alloc zeroT).heap.size = w.heap.size + 1 := by simp
  have e2 : ((w.alloc zeroT).alloc zeroT).heap.size = w.heap.size + 2 := by simp
  have hb : Below ((w.alloc zeroT).alloc zeroT).heap.size ((w.alloc zeroT).alloc zeroT) w0 := (Below.refl _ _).grown hg (Nat.le_refl _) (fun k hk => by cases hk)
  have hc := cells2 (w.alloc zeroT) 0 0 54
  have hf : ∀ k, ((w.alloc zeroT).alloc zeroT).frozen? ⟨(w.alloc zeroT).heap.size, k, none⟩ = false := fun k => by simp
  have b0 := below_new (w.alloc zeroT) zeroT
  rw [e1] at hc hf b0
  rw [e2] at hb
  have lt : w.heap.size + 1 < w.heap.size + 2 := by omega
  refine ⟨b0.trans (hb.mono (by omega)), by omega, ?_, ?_, fun k => ?_⟩
  · rw [(bcell hb).1 _ _ lt]; exact hc.1
  · rw [(bcell hb).1 _ _ lt]; exact hc.2
  · rw [(bcell hb).2 _ _ lt]; exact hf k
theorem BsSt.res {w wr : World} {c : Int × Int} (h : BsSt w wr c) : (wr.cell? ⟨w.heap.size, 0, none⟩ = some (.int .i64 0) ∧ wr.cell? ⟨w.heap.size, 1, none⟩ = some (.int .i64 0)) ∧ wr.frozen? ⟨w.heap.size, 0, none⟩ = false ∧ wr.frozen? ⟨w.heap.size, 1, none⟩ = false := by
  have hc := cells2 w 0 0 54
  have hf : ∀ k, (w.alloc zeroT).frozen? ⟨w.heap.size, k, none⟩ = false := fun k => by simp
  have lt : w.heap.size < w.heap.size + 1 := by omega
  refine ⟨⟨?_, ?_⟩, ?_, ?_⟩
  · rw [(bcell h.b).1 _ _ lt]; exact hc.1
  · rw [(bcell h.b).1 _ _ lt]; exact hc.2
  · rw [(bcell h.b).2 _ _ lt]; exact hf 0
  · rw [(bcell h.b).2 _ _ lt]; exact hf 1
theorem BsSt.under {w wr : World} {c : Int × Int} (h : BsSt w wr c) : Below w.heap.size w wr := by
  have e1 : (w.alloc zeroT).heap.size = w.heap.size + 1 := by simp
  exact below_next (below_new w zeroT) (by rw [e1]; exact h.b)
theorem BsSt.put0 {w wr : World} {c : Int × Int} (h : BsSt w wr c) (x : Int) : BsSt w (wr.setCell ⟨w.heap.size + 1, 0, none⟩ (.int .i64 x)) (x, c.2) := by
  have n01 : (⟨w.heap.size + 1, 0, none⟩ : Addr) ≠ ⟨w.heap.size + 1, 1, none⟩ := by simp
  refine ⟨h.b.setCell (Nat.le_refl _) _, by simp [h.z], World.cell?_setCell_same _ _ _ h.c0, ?_, fun k => by simp [h.f]⟩
  rw [World.cell?_setCell_other _ _ _ _ n01]; exact h.c1
theorem BsSt.put1 {w wr : World} {c : Int × Int} (h : BsSt w wr c) (y : Int) : BsSt w (wr.setCell ⟨w.heap.size + 1, 1, none⟩ (.int .i64 y)) (c.1, y) := by
  have n01 : (⟨w.heap.size + 1, 0, none⟩ : Addr) ≠ ⟨w.heap.size + 1, 1, none⟩ := by simp
  refine ⟨h.b.setCell (Nat.le_refl _) _, by simp [h.z], ?_, World.cell?_setCell_same _ _ _ h.c1, fun k => by simp [h.f]⟩
  rw [World.cell?_setCell_other _ _ _ _ n01.symm]; exact h.c0

theorem seen_all (f : Nat → Option (Int × Int)) (t : Nat) : besT (seen f (fun k => (f k).isSome)) t = (0, 0) := by
  have e : fol (fun _ => none) keys5 = (0, 0) := by decide
  rw [← e]
  refine fol_same fun k _ => ?_
  unfold wo seen
  split
  · rfl
  · show (if (f k).isSome = true then none else f k) = none
    by_cases hs : (f k).isSome = true
    · rw [if_pos hs]
    · rw [if_neg hs]; exact Option.not_isSome_iff_eq_none.1 hs
theorem besT_next {f : Nat → Option (Int × Int)} {left : Nat → Bool} {t k : Nat} {v : Int × Int} (hf : Neat f) (hk : left k = true) (hv : f k = some v) : besT (seen f fun z => left z && !decide (z = k)) t = if k = t then besT (seen f left) t else cmb (besT (seen f left) t) v := by
  rw [seen_step hk hv]
  by_cases e : k = t
  · subst e; rw [if_pos rfl, besT_own]
  · rw [if_neg e]; exact besT_upd (good_seen hf.good left) (hf.ways k v hv).1 (seen_none hk) (hf.key k v hv) e
theorem besT_done {f : Nat → Option (Int × Int)} {left : Nat → Bool} {t : Nat} (h : ∀ k, k < 256 → left k = false) : besT (seen f left) t = besT f t := by
  refine fol_same fun k hk => ?_
  have := keys5_mem.1 hk
  unfold wo seen
  rw [h k (by omega)]
  simp

set_option maxRecDepth 100000 in
set_option maxHeartbeats 4000000 in
theorem beside_any (w : World) (b n t : Nat) (f : Nat → Option (Int × Int)) (h : Tal w b n f) (hf : Neat f) :
    Calls Try.prog 69 #[.map (some b), .int .u8 (t : Int)] w fun e w' => e = .returned (talV (besT f t)) ∧ Below w.heap.size w w' := by
  have hbl := h.lt
  have HT : Hid (Tal ((w.alloc zeroT).alloc zeroT) b n f) := Lib.hid ((h.kept (World.grownBy_alloc _ _ none) (by simp)).kept (World.grownBy_alloc _ _ none) (by simp))
  have HN := Lib.hid hf
  clear h hf
  go_enter Try.func69, Try.ntmps69
  go_wp2_with (at_range; refine wpList_tal_range rfl (.tmp 8) rfl rfl HT.out ?_; intro w0 cnt0 hrg0 hg0 hs0)
  have HS0 : Hid (BsSt w w0 (besT (seen f (fun k => (f k).isSome)) t)) := Lib.hid (by
    rw [seen_all]
    exact BsSt.start hg0 hs0)
  obtain ⟨r, hr⟩ : ∃ r, r = ((w.alloc zeroT).alloc zeroT).heap.size := ⟨_, rfl⟩
  have hr2 : r = w.heap.size + 2 := by rw [hr]; simp
  have HR0 : Hid (TalRg w0 b r n f (fun k => (f k).isSome) cnt0) := Lib.hid (by rw [hr]; exact hrg0)
  rw [show ((w.alloc (.cells #[.int .i64 0, .int .i64 0] 54)).alloc (.cells #[.int .i64 0, .int .i64 0] 54)).heap.size = r from hr.symm]
  have HR2 := Lib.hid hr2
  clear hrg0 hg0 hs0 hr hr2 HT
  go_frame
  go_loopw [6] (fun _ wr => ∃ left cnt, TalRg wr b r n f left cnt ∧ BsSt w wr (besT (seen f left) t)) (fun _ wr => wr.rangeLeft b r)
  case atStart => exact ⟨_, _, HR0.out, HS0.out⟩
  case round =>
    clear HR0 HS0
    obtain ⟨left, cnt, hrg, hst⟩ := hrel
    have HST := Lib.hid hst
    clear hst
    go_wp2_with (at_next; refine wpList_tal_next rfl (.tmp 9) rfl rfl hrg ?_ ?_)
    · intro hdone
      obtain ⟨⟨k0, k1⟩, f0, f1⟩ := HST.out.res
      obtain ⟨hb, -, c0, c1, -⟩ := HST.out
      have HV : Hid (besT (seen f left) t = besT f t) := Lib.hid (besT_done hdone)
      have HU := Lib.hid HST.out.under
      rw [HV.out] at c0 c1
      obtain ⟨x, hx⟩ : ∃ x, x = (besT f t).1 := ⟨_, rfl⟩
      obtain ⟨y, hy⟩ : ∃ y, y = (besT f t).2 := ⟨_, rfl⟩
      rw [← hx] at c0
      rw [← hy] at c1
      have HXY : Hid (talV (besT f t) = .agg #[.int .i64 x, .int .i64 y]) := Lib.hid (by rw [hx, hy]; rfl)
      clear hb hx hy hrg HST
      go_wp2
      refine bodyPost_ret (v := talV (besT f t)) ?_ rfl ⟨rfl, ?_⟩
      · rw [HXY.out, results_one_cell rfl]; go_simp
      · exact (HU.out.setCell (Nat.le_refl _) _).setCell (Nat.le_refl _) _
    · intro k p q w1 cnt1 hk hlk hfk hrg1 hlt hg1 hs1 hen
      have hen2 : (Instr.entry (.pointer (some ⟨r, 0, none⟩))).run Try.prog w1 = .ok (.tuple #[.int .u8 (k : Int), .agg #[.int .i64 p, .int .i64 q]]) w1 := hen
      have hb1 : Below r wr w1 := (Below.refl _ _).grown hg1 (by have := hrg.lt; omega) (fun j hj => by injection hj with hj; omega)
      have hz := HST.out.z
      have HB1 := Lib.hid (HST.out.below (by have := HR2.out; omega) hb1)
      have HB2 := Lib.hid (HB1.out.below (by rw [hs1]; omega) (below_new w1 (.cells #[.int .i64 p, .int .i64 q] 54)))
      have HRG := Lib.hid (hrg1.kept (World.grownBy_alloc w1 (.cells #[.int .i64 p, .int .i64 q] 54) none) (by simp) (by simp))
      have HL := Lib.hid hrg.left_eq
      have HC := Lib.hid (besT_next (t := t) HN.out hlk hfk)
      obtain ⟨hc0, hc1, hc2, hc3⟩ := besT_bd HN.out left t
      obtain ⟨hp0, hp1⟩ := HN.out.ways _ _ hfk
      obtain ⟨hq0, hq1⟩ := HN.out.cost _ _ hfk
      obtain ⟨c, hcc⟩ : ∃ c, c = besT (seen f left) t := ⟨_, rfl⟩
      rw [← hcc] at HB2 HC hc0 hc1 hc2 hc3
      clear HST HB1 hb1 hcc hen hrg hrg1 hg1
      obtain ⟨c, d⟩ := c
      simp only at hc0 hc1 hc2 hc3 hp0 hp1 hq0 hq1
      have e0 := HB2.out.c0
      have e1 := HB2.out.c1
      have g0 := HB2.out.f 0
      have g1 := HB2.out.f 1
      obtain ⟨m0, m1⟩ := cells2 w1 p q 54
      simp only at e0 e1
      have hnb : b ≠ w.heap.size + 1 := by omega
      have hnr : r ≠ w.heap.size + 1 := by have := HR2.out; omega
      by_cases hkt : k = t
      · have hq5 : ((k : Int) == (t : Int)) = true := by rw [hkt]; simp
        rw [if_pos hkt] at HC
        clear hkt e0 e1 g0 g1 m0 m1
        go_wp2
        go_roundw
        case rel => exact ⟨_, cnt1, HRG.out, by rw [HC.out]; exact HB2.out⟩
        case measure => rw [HRG.out.left_eq, HL.out]; exact hlt
      · have hq5 : ((k : Int) == (t : Int)) = false := by rw [beq_eq_false_iff_ne]; omega
        rw [if_neg hkt] at HC
        clear hkt
        have HW : Hid (BsSt w (((w1.alloc (.cells #[.int .i64 p, .int .i64 q] 54)).setCell ⟨w.heap.size + 1, 0, none⟩ (.int .i64 p)).setCell ⟨w.heap.size + 1, 1, none⟩ (.int .i64 q)) (p, q)) := Lib.hid ((HB2.out.put0 p).put1 q)
        have HWR : Hid (TalRg (((w1.alloc (.cells #[.int .i64 p, .int .i64 q] 54)).setCell ⟨w.heap.size + 1, 0, none⟩ (.int .i64 p)).setCell ⟨w.heap.size + 1, 1, none⟩ (.int .i64 q)) b r n f (fun z => left z && !decide (z = k)) cnt1) := Lib.hid ((HRG.out.kept (grown_set _ _ 0 _) (by intro e; injection e with e; exact hnb e) (by intro e; injection e with e; exact hnr e)).kept (grown_set _ _ 1 _) (by intro e; injection e with e; exact hnb e) (by intro e; injection e with e; exact hnr e))
        by_cases hz0 : c = 0
        · have hq6 : (c == 0) = true := by rw [hz0]; rfl
          have HC2 : Hid (besT (seen f fun z => left z && !decide (z = k)) t = (p, q)) := Lib.hid (by rw [HC.out]; unfold cmb; rw [if_pos hz0])
          clear hz0
          go_wp2
          go_roundw
          case rel => exact ⟨_, cnt1, HWR.out, by rw [HC2.out]; exact HW.out⟩
          case measure => rw [HWR.out.left_eq, HL.out]; exact hlt
        · have hq6 : (c == 0) = false := by rw [beq_eq_false_iff_ne]; exact hz0
          by_cases hlt2 : q < d
          · have HC2 : Hid (besT (seen f fun z => left z && !decide (z = k)) t = (p, q)) := Lib.hid (by rw [HC.out]; unfold cmb; rw [if_neg hz0, if_neg (by simp only; omega), if_pos hlt2])
            clear hz0
            go_wp2
            go_roundw
            case rel => exact ⟨_, cnt1, HWR.out, by rw [HC2.out]; exact HW.out⟩
            case measure => rw [HWR.out.left_eq, HL.out]; exact hlt
          · by_cases heq : q = d
            · have hq7 : (q == d) = true := by rw [heq]; simp
              have HC2 : Hid (besT (seen f fun z => left z && !decide (z = k)) t = (c + p, d)) := Lib.hid (by rw [HC.out]; unfold cmb; rw [if_neg hz0, if_neg (by simp only; omega), if_neg hlt2, if_pos heq])
              have HW2 := Lib.hid (HB2.out.put0 (c + p))
              have HWR2 := Lib.hid (HRG.out.kept (grown_set _ (w.heap.size + 1) 0 (.int .i64 (c + p))) (by intro e; injection e with e; exact hnb e) (by intro e; injection e with e; exact hnr e))
              have wcp : IntKind.i64.wrap (c + p) = c + p := by rw [IntKind.wrap_i64]; omega
              clear hz0 heq HW HWR
              go_wp2
              go_roundw
              case rel => exact ⟨_, cnt1, HWR2.out, by rw [HC2.out]; exact HW2.out⟩
              case measure => rw [HWR2.out.left_eq, HL.out]; exact hlt
            · have hq7 : (q == d) = false := by rw [beq_eq_false_iff_ne]; exact heq
              have HC2 : Hid (besT (seen f fun z => left z && !decide (z = k)) t = (c, d)) := Lib.hid (by rw [HC.out]; unfold cmb; rw [if_neg hz0, if_neg (by simp only; omega), if_neg hlt2, if_neg heq])
              clear hz0 heq HW HWR
              go_wp2
              go_roundw
              case rel => exact ⟨_, cnt1, HRG.out, by rw [HC2.out]; exact HB2.out⟩
              case measure => rw [HRG.out.left_eq, HL.out]; exact hlt
end Go.Proofs.Yteefkgnojdgehaa
