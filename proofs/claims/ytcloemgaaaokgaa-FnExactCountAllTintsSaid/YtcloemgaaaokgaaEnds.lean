/- 'spec.coEnds' on a fence of bare boards. No condition but the bounds in the statement. -/
import Derived.Test.YtcloemgaaaokgaaEndsMath
namespace Go.Proofs.Ytcloemgaaaokgaa
open Go.RowKit

theorem info_int : (Try.prog.info? 3).map (fun i => (i.zero, i.size, i.bytes)) = some (some (.int .i64 0), 1, 8) := by kernel_rfl
def rowF (q : Nat) (F : Nat → Int) : List Value := (List.range q).map fun i => Value.int .i64 (F i)
theorem rowF_at (q : Nat) (F : Nat → Int) (i : Nat) (h : i < q) : (rowF q F)[i]? = some (.int .i64 (F i)) := by
  unfold rowF; rw [List.getElem?_map, List.getElem?_range h]; rfl
theorem rowF_len (q : Nat) (F : Nat → Int) : (rowF q F).length = q := by simp [rowF]
theorem rowF_congr {q : Nat} {F G : Nat → Int} (h : ∀ i, i < q → F i = G i) : rowF q F = rowF q G := by
  unfold rowF; exact List.map_congr_left fun i hi => by rw [h i (List.mem_range.1 hi)]
theorem rowF_set (q : Nat) (F : Nat → Int) (a : Nat) (x : Int) : (rowF q F).set a (.int .i64 x) = rowF q fun i => if i = a then x else F i := by
  apply List.ext_getElem?
  intro j
  rw [List.getElem?_set, rowF_len]
  by_cases hj : j < q
  · rw [rowF_at q F j hj, rowF_at q (fun i => if i = a then x else F i) j hj]
    by_cases e : a = j
    · subst e; rw [if_pos rfl, if_pos hj, if_pos rfl]
    · rw [if_neg e, if_neg fun h => e h.symm]
  · rw [List.getElem?_eq_none (by rw [rowF_len]; omega), List.getElem?_eq_none (by rw [rowF_len]; omega)]
    by_cases e : a = j
    · subst e; rw [if_pos rfl, if_neg hj]
    · rw [if_neg e]
/-- the block g is a row of q numbers -/
def RowIs (w : World) (base g q : Nat) (F : Nat → Int) : Prop := w.ownsRow base 3 1 (.slice (some ⟨g, 0, none⟩) q q) q (rowF q F)
section
variable {w w' : World} {base g g' q : Nat} {F G : Nat → Int}
theorem RowIs.cell (h : RowIs w base g q F) (i : Nat) (hi : i < q) : w.cell? ⟨g, i, none⟩ = some (.int .i64 (F i)) := by
  rw [World.ownsRow.cellAt h i (by omega), rowF_at q F i hi]
theorem RowIs.frozen (h : RowIs w base g q F) (i : Nat) : w.frozen? ⟨g, i, none⟩ = false := World.ownsRow.frozenAt h i
theorem RowIs.store (h : RowIs w base g q F) (a : Nat) (x : Int) : RowIs (w.setCell ⟨g, a, none⟩ (.int .i64 x)) base g q fun i => if i = a then x else F i := by
  have := (World.ownsRow.stored h a (.int .i64 x)).1
  rw [rowF_set] at this
  exact this
theorem RowIs.far (h : RowIs w base g' q F) (hne : g' ≠ g) (a : Nat) (u : Value) : RowIs (w.setCell ⟨g, a, none⟩ u) base g' q F :=
  World.ownsRow.kept h ⟨rfl, rfl, rfl, by simp [World.setCell], fun k _ hk => Below.heap_setCell w ⟨g, a, none⟩ u k (fun e => hk (by rw [e]))⟩ (.inr (by show some g' ≠ some g; intro e; injection e with e; exact hne e))
theorem RowIs.congr (h : RowIs w base g q F) (hFG : ∀ i, i < q → F i = G i) : RowIs w base g q G := by
  unfold RowIs; rw [← rowF_congr hFG]; exact h
theorem RowIs.below (h : RowIs w base g q F) (hb : Below w.heap.size w w') : RowIs w' base g q F := by
  refine ⟨h.1, ?_⟩
  rcases h.2 with hn | ⟨g, cap, cur, hv, h1, hg, rest⟩
  · exact .inl hn
  · refine .inr ⟨g, cap, cur, hv, h1, ?_, rest⟩
    rw [hb.block g (Array.getElem?_eq_some_iff.1 hg).1]
    exact hg
theorem RowIs.lt (h : RowIs w base g q F) : base ≤ g ∧ g < w.heap.size := World.ownsRow.lt h g rfl
theorem RowIs.made (h : w.ownsRow base 3 1 (.slice (some ⟨g, 0, none⟩) q q) q (madeCells (Value.int .i64 0).cells (q * 1)).toList) : RowIs w base g q fun _ => 0 := by
  have e : (madeCells (Value.int .i64 0).cells (q * 1)).toList = rowF q fun _ => 0 := by
    rw [Nat.mul_one, show (Value.int .i64 0).cells = #[Value.int .i64 0] from rfl, toList_madeCells_one]
    unfold rowF
    rw [List.map_const', List.length_range]
  rw [e] at h
  exact h
theorem below_store {B : Nat} {a w : World} (h : Below B a w) (hg : B ≤ g) (i : Nat) (u : Value) : Below B a (w.setCell ⟨g, i, none⟩ u) := h.setCell (p := ⟨g, i, none⟩) hg u
end

theorem coAllows_bare (s : ByteArray) (i : Nat) (tint : Int) (w : World) (hi : i < s.size) (hb : s[i] = 46) :
    Calls Try.prog 100 #[.string s, .int .i64 i, .int .i64 tint] w fun e w' => e = .returned (.bool true) ∧ w = w' := by
  have hc : ((s[i].toNat : Int) == 46) = true := by rw [hb]; rfl
  clear hb
  go_enter Try.func100, Try.ntmps100
  go_wp2
  go_ret
  exact ⟨rfl, rfl⟩

/-- a row that is done up to a: a itself holds S -/
def accF (T : Nat → Int) (S : Int) (a i : Nat) : Int := if i < a then T i else if i = a then S else 0
theorem accF_set (T : Nat → Int) (S x : Int) (a i : Nat) : (if i = a then x else accF T S a i) = accF T x a i := by
  unfold accF
  by_cases e : i = a
  · subst e; rw [if_pos rfl, if_neg (Nat.lt_irrefl _), if_pos rfl]
  · rw [if_neg e, if_neg e, if_neg e]
theorem accF_own (T : Nat → Int) (S : Int) (a : Nat) : accF T S a a = S := by unfold accF; rw [if_neg (Nat.lt_irrefl _), if_pos rfl]
theorem accF_next (T : Nat → Int) (a i : Nat) : accF T (T a) a i = accF T 0 (a + 1) i := by
  unfold accF
  by_cases l : i < a
  · rw [if_pos l, if_pos (by omega)]
  · rw [if_neg l]
    by_cases e : i = a
    · subst e; rw [if_pos rfl, if_pos (by omega)]
    · rw [if_neg e, if_neg (by omega)]; split <;> rfl
theorem accF_start (T : Nat → Int) (i : Nat) : (0 : Int) = accF T 0 0 i := by unfold accF; rw [if_neg (by omega)]; split <;> rfl
theorem accF_done (T : Nat → Int) (q i : Nat) (h : i < q) : accF T 0 q i = T i := by unfold accF; rw [if_pos h]
theorem sumTo_skip (F : Nat → Int) (b : Nat) : sumTo F b (b + 1) = sumTo F b b := by rw [sumTo, if_pos rfl, Int.add_zero]
theorem sumTo_take {F : Nat → Int} {x : Int} {b : Nat} (h : (b : Int) ≠ x) : sumTo F x (b + 1) = sumTo F x b + F b := by rw [sumTo, if_neg h]

set_option maxRecDepth 100000 in
set_option maxHeartbeats 4000000 in
theorem coEnds_bare (s : ByteArray) (q f : Nat) (before last : Int) (w : World) (h20 : s.size ≤ 20) (hbare : ∀ k (h : k < s.size), s[k] = 46) (hq : q ≤ 5) (hf : f < s.size) :
    Calls Try.prog 99 #[.string s, .int .i64 q, .int .i64 f, .int .i64 before, .int .i64 last] w fun e w' => e = .returned (.int .i64 (endsV q before last (s.size - 1 - f))) ∧ Below w.heap.size w w' := by
  obtain ⟨i0, hi, hz0, hz1, hz2⟩ := info_parts info_int
  have HB := Lib.hid hbare
  clear hbare
  go_enter Try.func99, Try.ntmps99
  go_wp2_with (at_make; refine wpList_make_full _ rfl (.tmp 21) (.tmp 21) _ rfl w.heap.size 3 i0 _ 1 Try.underlying70 hi hz0 hz1 .i64 .i64 _ _ q rfl rfl rfl rfl (by rw [hz2]; omega) (by unfold maxLen; omega) (Nat.le_refl _) ?_; intro w1 hown hgrow)
  have HR := Lib.hid (RowIs.made hown)
  have HG := Lib.hid ((Below.refl w.heap.size w).grown hgrow (Nat.le_refl _) (fun k hk => by cases hk))
  clear hown hgrow
  go_loopw [25] (fun c wr => ∃ k : Nat, k ≤ q ∧ c = .int .i64 k ∧ RowIs wr w.heap.size w.heap.size q (fun i => if i < k then waysV q last 0 i else 0) ∧ Below w.heap.size w wr) (fun c _ => q - (intOf c).toNat)
  case atStart => exact ⟨0, Nat.zero_le _, rfl, HR.out.congr (fun i _ => by rw [if_neg (by omega)]), HG.out⟩
  case round =>
    clear HR HG
    obtain ⟨k, hk, rfl, hrow, hb⟩ := hrel
    have HR := Lib.hid hrow
    have HG := Lib.hid hb
    clear hrow hb
    by_cases hlt : k < q
    · have hc := HR.out.cell k hlt
      have hfz := HR.out.frozen k
      by_cases hl : (k : Int) = last
      · subst hl
        have HN : Hid (∀ (v : Int), RowIs ((wr.setCell ⟨w.heap.size, k, none⟩ (.int .i64 v)).setCell ⟨w.heap.size, k, none⟩ (.int .i64 0)) w.heap.size w.heap.size q (fun i => if i < k + 1 then waysV q k 0 i else 0)) := Lib.hid fun v =>
          ((HR.out.store k v).store k 0).congr fun i _ => by
            by_cases e : i = k
            · subst e; rw [if_pos rfl, if_pos (by omega), waysV, if_pos rfl]
            · rw [if_neg e, if_neg e]
              by_cases l : i < k
              · rw [if_pos l, if_pos (by omega)]
              · rw [if_neg l, if_neg (by omega)]
        go_wp2
        go_roundw
        case rel => exact ⟨k + 1, by omega, by go_num, HN.out 1, below_store (below_store HG.out (Nat.le_refl _) _ _) (Nat.le_refl _) _ _⟩
        case measure => simp [intOf]; omega
      · have hne : ((k : Int) == last) = false := by rw [beq_eq_false_iff_ne]; exact hl
        have HN : Hid (RowIs (wr.setCell ⟨w.heap.size, k, none⟩ (.int .i64 1)) w.heap.size w.heap.size q (fun i => if i < k + 1 then waysV q last 0 i else 0)) := Lib.hid ((HR.out.store k 1).congr fun i _ => by
            by_cases e : i = k
            · subst e; rw [if_pos rfl, if_pos (by omega), waysV, if_neg hl]
            · rw [if_neg e]
              by_cases l : i < k
              · rw [if_pos l, if_pos (by omega)]
              · rw [if_neg l, if_neg (by omega)])
        clear hl
        go_wp2
        go_roundw
        case rel => exact ⟨k + 1, by omega, by go_num, HN.out, below_store HG.out (Nat.le_refl _) _ _⟩
        case measure => simp [intOf]; omega
    · obtain rfl : k = q := by omega
      have HV := Lib.hid (HR.out.congr (G := waysV k last 0) fun i hi => by rw [if_pos hi])
      clear HR
      have hfe : ((f : Int) == (s.size : Int)) = false := by rw [beq_eq_false_iff_ne]; omega
      go_wp2
      go_loopw [11, 13] (fun v i wo => ∃ g j : Nat, j ≤ s.size - 1 - f ∧ i = .int .i64 ((s.size - 1 - j : Nat) : Int) ∧ v = .slice (some ⟨g, 0, none⟩) k k ∧ RowIs wo w.heap.size g k (waysV k last j) ∧ Below w.heap.size w wo) (fun _ i _ => (intOf i).toNat)
      case atStart => exact ⟨w.heap.size, 0, Nat.zero_le _, by congr 1; omega, rfl, HV.out, HG.out⟩
      case round =>
        clear HV HG hlt
        obtain ⟨g, j, hj, rfl, rfl, hrow, hb⟩ := hrel
        have HR := Lib.hid hrow
        have HG := Lib.hid hb
        have hgl := hrow.lt
        have hsz := hb.size
        clear hrow hb
        obtain ⟨wo, rfl⟩ : ∃ wo : World, wo = wr := ⟨_, rfl⟩
        by_cases hlt : j < s.size - 1 - f
        · have hgt : (f : Int) < ((s.size - 1 - j : Nat) : Int) := by omega
          go_wp2_with (at_make; refine wpList_make_full _ rfl (.tmp 56) (.tmp 56) _ rfl w.heap.size 3 i0 _ 1 Try.underlying70 hi hz0 hz1 .i64 .i64 _ _ k rfl rfl rfl rfl (by rw [hz2]; omega) (by unfold maxLen; omega) hsz ?_; intro w1 hown hgrow)
          have HN := Lib.hid ((RowIs.made hown).congr (G := accF (waysV k last (j + 1)) 0 0) fun i _ => accF_start _ i)
          have hb1 : Below wo.heap.size wo w1 := (Below.refl _ _).grown hgrow (Nat.le_refl _) (fun k hk => by cases hk)
          have HR1 := Lib.hid (HR.out.below hb1)
          have HG1 := Lib.hid (HG.out.trans (hb1.mono hsz))
          clear hown hgrow hb1
          go_loopw [60] (fun c wa => ∃ a : Nat, a ≤ k ∧ c = .int .i64 a ∧ RowIs wa w.heap.size wo.heap.size k (accF (waysV k last (j + 1)) 0 a) ∧ RowIs wa w.heap.size g k (waysV k last j) ∧ Below w.heap.size w wa) (fun c _ => k - (intOf c).toNat)
          case atStart => exact ⟨0, Nat.zero_le _, rfl, HN.out, HR1.out, HG1.out⟩
          case round =>
            clear HN HR1 HG1
            obtain ⟨a, ha, rfl, hr1, hr2, hb⟩ := hrel
            have HN := Lib.hid hr1
            have HR1 := Lib.hid hr2
            have HG1 := Lib.hid hb
            clear hr1 hr2 hb
            obtain ⟨wa, rfl⟩ : ∃ wa : World, wa = wr := ⟨_, rfl⟩
            by_cases hak : a < k
            · go_wp2
              go_loopw [65] (fun c wb => ∃ b : Nat, b ≤ k ∧ c = .int .i64 b ∧ RowIs wb w.heap.size wo.heap.size k (accF (waysV k last (j + 1)) (sumTo (waysV k last j) a b) a) ∧ RowIs wb w.heap.size g k (waysV k last j) ∧ Below w.heap.size w wb) (fun c _ => k - (intOf c).toNat)
              case atStart => exact ⟨0, Nat.zero_le _, rfl, HN.out, HR1.out, HG1.out⟩
              case round =>
                clear HN HR1 HG1
                obtain ⟨b, hbk, rfl, hr1, hr2, hb⟩ := hrel
                have HN := Lib.hid hr1
                have HR1 := Lib.hid hr2
                have HG1 := Lib.hid hb
                clear hr1 hr2 hb
                by_cases hblt : b < k
                · have hcb := HR1.out.cell b hblt
                  by_cases hab : a = b
                  · subst hab
                    have HN2 := Lib.hid (HN.out.congr (G := accF (waysV k last (j + 1)) (sumTo (waysV k last j) a (a + 1)) a) fun i _ => by rw [sumTo_skip])
                    go_wp2
                    go_roundw
                    case rel => exact ⟨a + 1, by omega, by go_num, HN2.out, HR1.out, HG1.out⟩
                    case measure => simp [intOf]; omega
                  · have hab' : ((a : Int) != (b : Int)) = true := by rw [bne_iff_ne]; omega
                    have hca := HN.out.cell a hak
                    rw [accF_own] at hca
                    have hfa := HN.out.frozen a
                    obtain ⟨p1, p2⟩ := sumTo_bd' k hq last a j b (by omega) (by omega)
                    obtain ⟨p3, p4⟩ := ways_bd' k hq last j b (by omega)
                    have HN2 := Lib.hid ((HN.out.store a (sumTo (waysV k last j) a b + waysV k last j b)).congr (G := accF (waysV k last (j + 1)) (sumTo (waysV k last j) a (b + 1)) a) fun i _ => by rw [accF_set, sumTo_take (by omega)])
                    have HR2 := Lib.hid (HR1.out.far (g := wo.heap.size) (by omega) a (.int .i64 (sumTo (waysV k last j) a b + waysV k last j b)))
                    have hlen : s.size - 1 - j < s.size := by omega
                    clear hab
                    go_wp2_with (go_at_call 100; refine (coAllows_bare s (s.size - 1 - j) _ _ hlen (HB.out _ hlen)).mono ?_; rintro e w' ⟨rfl, rfl⟩)
                    go_roundw
                    case rel => exact ⟨b + 1, by omega, by go_num, HN2.out, HR2.out, below_store HG1.out (by omega) _ _⟩
                    case measure => simp [intOf]; omega
                · obtain rfl : b = k := by omega
                  have HN2 := Lib.hid (HN.out.congr (G := accF (waysV b last (j + 1)) 0 (a + 1)) fun i _ => accF_next (waysV b last (j + 1)) a i)
                  go_wp2
                  go_roundw
                  case rel => exact ⟨a + 1, by omega, by go_num, HN2.out, HR1.out, HG1.out⟩
                  case measure => simp [intOf]; omega
            · obtain rfl : a = k := by omega
              have HN2 := Lib.hid (HN.out.congr (G := waysV a last (j + 1)) fun i hi => accF_done _ a i hi)
              have HE : Hid (((s.size - 1 - j : Nat) : Int) - 1 = ((s.size - 1 - (j + 1) : Nat) : Int)) := Lib.hid (by omega)
              go_wp2
              go_roundw
              case rel => exact ⟨wo.heap.size, j + 1, by omega, by rw [HE.out], rfl, HN2.out, HG1.out⟩
              case measure => simp [intOf]; omega
        · obtain rfl : j = s.size - 1 - f := by omega
          have hle : decide (f < s.size - 1 - (s.size - 1 - f)) = false := decide_eq_false (by omega)
          go_wp2
          go_loopw [18, 91] (fun u c wc => ∃ b : Nat, b ≤ k ∧ c = .int .i64 b ∧ u = .int .i64 (sumTo (waysV k last (s.size - 1 - f)) before b) ∧ RowIs wc w.heap.size g k (waysV k last (s.size - 1 - f)) ∧ Below w.heap.size w wc) (fun _ c _ => k - (intOf c).toNat)
          case atStart => exact ⟨0, Nat.zero_le _, rfl, rfl, HR.out, HG.out⟩
          case round =>
            clear HR HG
            obtain ⟨b, hbk, rfl, rfl, hr2, hb⟩ := hrel
            have HR := Lib.hid hr2
            have HG := Lib.hid hb
            clear hr2 hb
            by_cases hblt : b < k
            · have hcb := HR.out.cell b hblt
              by_cases hab : (b : Int) = before
              · subst hab
                have HS := Lib.hid (sumTo_skip (waysV k last (s.size - 1 - f)) b)
                go_wp2
                go_roundw
                case rel => exact ⟨b + 1, by omega, by go_num, by rw [HS.out], HR.out, HG.out⟩
                case measure => simp [intOf]; omega
              · have hab' : ((b : Int) != before) = true := by rw [bne_iff_ne]; exact hab
                have HS := Lib.hid (sumTo_take (F := waysV k last (s.size - 1 - f)) hab)
                obtain ⟨p1, p2⟩ := sumTo_bd' k hq last before (s.size - 1 - f) b (by omega) (by omega)
                obtain ⟨p3, p4⟩ := ways_bd' k hq last (s.size - 1 - f) b (by omega)
                clear hab
                go_wp2_with (go_at_call 100; refine (coAllows_bare s f _ _ hf (HB.out _ hf)).mono ?_; rintro e w' ⟨rfl, rfl⟩)
                go_roundw
                case rel => exact ⟨b + 1, by omega, by go_num, by rw [HS.out], HR.out, HG.out⟩
                case measure => simp [intOf]; omega
            · obtain rfl : b = k := by omega
              go_wp2
              go_ret
              exact ⟨rfl, HG.out⟩
end Go.Proofs.Ytcloemgaaaokgaa
