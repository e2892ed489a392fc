/- 'spec.coCheap' of all boards: the model's least cost. No condition but the lists' bounds. -/
import Derived.Test.YtmdfcamieonabaaCheapMath
import Derived.Test.YtmdfcamieonabaaRow
import Derived.BigQuiet
namespace Go.Proofs.Ytmdfcamieonabaa
open Go.RowKit

/-- costs as the document asks -/
structure OkC (LL : List (List Int)) (t : Nat) : Prop where
  n1 : 1 ≤ LL.length
  n20 : LL.length ≤ 20
  t1 : 1 ≤ t
  t5 : t ≤ 5
  len : ∀ j (hj : j < LL.length), LL[j].length = t
  bd : ∀ j (hj : j < LL.length), ∀ v ∈ LL[j], 0 ≤ v ∧ v ≤ 100
theorem costB_row {LL : List (List Int)} {j : Nat} (hj : j < LL.length) : costB LL j = costP LL[j] LL[j].length := by
  funext z; unfold costB; rw [List.getD_eq_getElem?_getD, List.getElem?_eq_getElem hj]; rfl
theorem OkC.costly {LL : List (List Int)} {t : Nat} (h : OkC LL t) : costly (costB LL) := fun j k v hv => by
  rcases Nat.lt_or_ge j LL.length with hj | hj
  · rw [costB_row hj] at hv
    unfold costP at hv
    split at hv
    · next hz =>
      have hl := h.len j hj
      have h5 := h.t5
      refine ⟨keys5_mem.2 ⟨hz.1, by omega⟩, h.bd j hj v (List.mem_of_getElem? hv)⟩
    · cases hv
  · unfold costB costP at hv
    rw [List.getD_eq_getElem?_getD, List.getElem?_eq_none hj] at hv
    split at hv
    · next hz => simp at hz; omega
    · cases hv
/-- the model's row -/
def nowF (LL : List (List Int)) (d b : Nat) : Int := oc (rst (costB LL) LL.length d (97 + b))
def candF (LL : List (List Int)) (R : List Int) (d t b : Nat) : Int := if 97 + b ≠ t ∧ 0 ≤ nowF LL d b then nowF LL d b + R.getD b 0 else -1
theorem nowF_zero (LL : List (List Int)) (b : Nat) : nowF LL 0 b = 0 := rfl
theorem nowF_succ {LL : List (List Int)} {t : Nat} (h : OkC LL t) {d p : Nat} (hp : p < LL.length) (hd : LL.length - 1 - d = p) (a : Nat) : nowF LL (d + 1) a = mS (candF LL LL[p] d (97 + a)) t := by
  have e := row_oc h.costly (n := LL.length) (d := d) (R := LL[p]) (by rw [hd, costB_row hp]) (by rw [h.len p hp]; exact h.t5) (97 + a)
  rw [h.len p hp] at e
  show oc (rst (costB LL) LL.length (d + 1) (97 + a)) = _
  unfold rst
  rw [if_neg (Nat.succ_ne_zero d), e]
  rfl
theorem best_eq {LL : List (List Int)} {t : Nat} (h : OkC LL t) {d : Nat} (hd : LL.length = d + 1) : oc (chpL (costB LL) LL.length) = mS (candF LL (LL[0]'(by omega)) d 46) t := by
  have hp : 0 < LL.length := by omega
  have e := row_oc h.costly (n := LL.length) (d := d) (R := LL[0]) (by rw [show LL.length - 1 - d = 0 by omega, costB_row hp]) (by rw [h.len 0 hp]; exact h.t5) 46
  rw [h.len 0 hp] at e
  have e2 : tT (costB LL) LL.length LL.length = tT (costB LL) LL.length (d + 1) := by rw [← hd]
  show oc (besT (tT (costB LL) LL.length LL.length) 46) = _
  rw [e2, e]
  rfl
theorem nowF_bd {LL : List (List Int)} {t : Nat} (h : OkC LL t) {d : Nat} (hd : d ≤ 20) (b : Nat) : -1 ≤ nowF LL d b ∧ nowF LL d b ≤ 2000 := by
  have := rst_bd h.costly LL.length d (97 + b) hd
  unfold nowF oc
  split <;> omega
theorem mS_bd {v : Nat → Int} {C : Int} (hC : 0 ≤ C) (h : ∀ b, -1 ≤ v b ∧ v b ≤ C) : ∀ m, -1 ≤ mS v m ∧ mS v m ≤ C
  | 0 => ⟨Int.le_refl _, by show (-1 : Int) ≤ C; omega⟩
  | m + 1 => by
    have ih := mS_bd hC h m
    have hm := h m
    show -1 ≤ omin (mS v m) (v m) ∧ omin (mS v m) (v m) ≤ C
    unfold omin
    split
    · exact hm
    · split
      · exact ih
      · split
        · exact hm
        · exact ih
theorem omin_no {x y : Int} (hx : -1 ≤ x) (h : y = -1) : omin x y = x := by rw [h]; exact omin_none hx
theorem omin_yes {x y : Int} (hy : 0 ≤ y) (h : x < 0 ∨ y < x) : omin x y = y := by
  unfold omin
  by_cases a : x < 0
  · rw [if_pos a]
  · rw [if_neg a, if_neg (by omega), if_pos (by omega)]
theorem omin_stay {x y : Int} (h0 : ¬ x < 0) (h : ¬ y < x) : omin x y = x := by
  unfold omin
  rw [if_neg h0, if_neg h]
  split
  · rfl
  · rfl
/-- the next row, a tints done; while one is done, up to b -/
def rowN (LL : List (List Int)) (d a z : Nat) : Int := if z < a then nowF LL (d + 1) z else 0
def rowA (LL : List (List Int)) (v : Nat → Int) (d a b z : Nat) : Int := if z < a then nowF LL (d + 1) z else if z = a then mS v b else 0
theorem rowN_zero (LL : List (List Int)) (d b : Nat) : rowN LL d 0 b = 0 := by unfold rowN; rw [if_neg (by omega)]
theorem rowA_at (LL : List (List Int)) (v : Nat → Int) (d a b : Nat) : rowA LL v d a b a = mS v b := by unfold rowA; rw [if_neg (by omega), if_pos rfl]
theorem rowA_first {LL : List (List Int)} {v : Nat → Int} {d a : Nat} (z : Nat) : (if z = a then (-1 : Int) else rowN LL d a z) = rowA LL v d a 0 z := by
  unfold rowN rowA
  by_cases e : z = a
  · rw [if_pos e, if_neg (by omega), if_pos e]; rfl
  · rw [if_neg e, if_neg e]
theorem rowA_same {LL : List (List Int)} {v : Nat → Int} {d a b : Nat} (h : mS v (b + 1) = mS v b) (z : Nat) : rowA LL v d a b z = rowA LL v d a (b + 1) z := by unfold rowA; rw [h]
theorem rowA_put {LL : List (List Int)} {v : Nat → Int} {d a b : Nat} {x : Int} (h : mS v (b + 1) = x) (z : Nat) : (if z = a then x else rowA LL v d a b z) = rowA LL v d a (b + 1) z := by
  unfold rowA
  by_cases e : z = a
  · rw [if_pos e, if_neg (by omega), if_pos e, h]
  · rw [if_neg e, if_neg e, if_neg e]
theorem rowA_end {LL : List (List Int)} {v : Nat → Int} {d a t : Nat} (h : nowF LL (d + 1) a = mS v t) (z : Nat) : rowA LL v d a t z = rowN LL d (a + 1) z := by
  unfold rowA rowN
  by_cases e : z < a
  · rw [if_pos e, if_pos (by omega)]
  · rw [if_neg e]
    by_cases e2 : z = a
    · rw [if_pos e2, if_pos (by omega), e2, h]
    · rw [if_neg e2, if_neg (by omega)]
theorem cand_ge {LL : List (List Int)} {R : List Int} {d t b : Nat} (_h : -1 ≤ nowF LL d b) (hR : ∀ v ∈ R, 0 ≤ v ∧ v ≤ 100) : -1 ≤ candF LL R d t b := by
  have h0 : 0 ≤ R.getD b 0 := by
    rw [List.getD_eq_getElem?_getD]
    cases e : R[b]? with
    | none => exact Int.le_refl _
    | some x => exact (hR x (List.mem_of_getElem? e)).1
  unfold candF
  split <;> omega
theorem grown_none {w w' : World} (h : w.grownBy w' none) : Below w.heap.size w w' := (Below.refl _ _).grown h (Nat.le_refl _) (fun k hk => by cases hk)

set_option maxRecDepth 100000 in
set_option maxHeartbeats 16000000 in
theorem coCheap_any (A : Option Addr) (cap t : Nat) (LL : List (List Int)) (w : World) (hok : OkC LL t) (h : IntSS w A LL) :
    Calls Try.prog 54 #[.slice A LL.length cap, .int .i64 (-1)] w fun e w' => e = .returned (.int .i64 (oc (chpL (costB LL) LL.length))) ∧ Below w.heap.size w w' := by
  obtain ⟨i0, hi, hz0, hz1, hz2⟩ := info_parts info_int
  have h1 := hok.n1
  have h20 := hok.n20
  have ht1 := hok.t1
  have ht5 := hok.t5
  have HOK := Lib.hid hok
  obtain ⟨sg, so, rfl, hsg, hsc⟩ := h.some (by omega)
  have HSC := Lib.hid hsc
  obtain ⟨A0, c0, hc0, hr0⟩ := hsc 0 (by omega)
  rw [Nat.add_zero, hok.len 0 (by omega)] at hc0
  have HR0 := Lib.hid hr0
  obtain ⟨n, hn⟩ : ∃ n, n = LL.length := ⟨_, rfl⟩
  have HN := Lib.hid hn
  have HB := Lib.hid fun d hd b => nowF_bd hok (d := d) hd b
  have HNS := Lib.hid fun d p hp hd a => nowF_succ hok (d := d) (p := p) hp hd a
  have HL0 : LL.length = n := hn.symm
  rw [HL0] at h1 h20 ⊢
  have hnz : ((n : Int) == 0) = false := by rw [beq_eq_false_iff_ne]; omega
  have hn0 : (0 : Int) < (n : Int) := by omega
  clear h hsc hr0 hok hn
  go_enter Try.func54, Try.ntmps54
  go_wp2_with (at_make; refine wpList_make_full _ rfl (.tmp 20) (.tmp 20) _ rfl w.heap.size 3 i0 _ 1 Try.underlying59 hi hz0 hz1 .i64 .i64 _ _ t rfl rfl rfl rfl (by rw [hz2]; omega) (by unfold maxLen; omega) (Nat.le_refl _) ?_; intro w1 hown hgrow)
  have HW0 : Hid (RowIs w1 3 w.heap.size w.heap.size t (nowF LL 0)) := Lib.hid ((RowIs.made hown).congr fun b _ => (nowF_zero LL b).symm)
  have HB0 : Hid (Below w.heap.size w w1) := Lib.hid ((Below.refl w.heap.size w).grown hgrow (Nat.le_refl _) (fun k hk => by cases hk))
  clear hown hgrow
  go_loopw [5, 6] (fun u v wr => ∃ e g : Nat, 1 ≤ e ∧ e ≤ n ∧ v = .int .i64 ((e : Int) - 1) ∧ u = .slice (some ⟨g, 0, none⟩) t t ∧ RowIs wr 3 w.heap.size g t (nowF LL (n - e)) ∧ Below w.heap.size w wr) (fun _ v _ => (intOf v + 1).toNat)
  case atStart => exact ⟨n, w.heap.size, h1, Nat.le_refl _, rfl, rfl, by rw [Nat.sub_self]; exact HW0.out, HB0.out⟩
  case round =>
    clear HW0 HB0
    obtain ⟨e, g, he1, he, rfl, rfl, hrow, hb⟩ := hrel
    have HRO := Lib.hid hrow
    have HBL := Lib.hid hb
    clear hrow hb
    obtain ⟨p, rfl⟩ : ∃ p, e = p + 1 := ⟨e - 1, by omega⟩
    rw [show (((p + 1 : Nat) : Int) - 1) = (p : Int) by omega]
    obtain ⟨d, hd⟩ : ∃ d, d = n - (p + 1) := ⟨_, rfl⟩
    rw [← hd] at HRO
    have hpl : p < LL.length := by omega
    have ip0 : (0 : Int) ≤ (p : Int) := by omega
    have ip1 : (p : Int) < (n : Int) := by omega
    obtain ⟨RA, rc, hcell, hrw⟩ := HSC.out p hpl
    rw [HOK.out.len p hpl] at hcell
    have HRL : Hid (LL[p].length = t) := Lib.hid (HOK.out.len p hpl)
    have HRB : Hid (∀ v ∈ LL[p], 0 ≤ v ∧ v ≤ 100) := Lib.hid (HOK.out.bd p hpl)
    have HNX : Hid (∀ a, nowF LL (d + 1) a = mS (candF LL LL[p] d (97 + a)) t) := Lib.hid (HNS.out d p hpl (by omega))
    have HBD := Lib.hid (HB.out d (by omega))
    obtain ⟨R, hR⟩ : ∃ R, R = LL[p] := ⟨_, rfl⟩
    rw [← hR] at hrw HRL HRB HNX
    have HRS := Lib.hid hrw
    have HRR := Lib.hid hR
    have HCL := Lib.hid hcell
    have HGL := Lib.hid HRO.out.lt
    clear hrw hR hcell
    go_wp2_with (at_make; refine wpList_make_full _ rfl (.tmp 30) (.tmp 30) _ rfl w.heap.size 3 i0 _ 1 Try.underlying59 hi hz0 hz1 .i64 .i64 _ _ t rfl rfl rfl rfl (by rw [hz2]; omega) (by unfold maxLen; omega) HBL.out.size ?_; intro w1 hown hgrow)
    have hgw := HGL.out
    obtain ⟨gn, hgn⟩ : ∃ gn, gn = wr.heap.size := ⟨_, rfl⟩
    rw [← hgn] at hown hgw ⊢
    have hgg : g ≠ gn := by omega
    have hgb : w.heap.size ≤ gn := by have := HBL.out.size; omega
    have hsgn : sg ≠ gn := by omega
    have HN0 : Hid (RowIs w1 3 w.heap.size gn t (rowN LL d 0)) := Lib.hid ((RowIs.made hown).congr fun b _ => (rowN_zero LL d b).symm)
    have hb1 := grown_none hgrow
    have HG0 := Lib.hid (HRO.out.below hb1)
    have HB1 := Lib.hid (below_next HBL.out hb1)
    obtain ⟨rg, ro, rfl, hrg, hat⟩ := HRS.out.some (by rw [HRL.out]; omega)
    have HAT := Lib.hid hat
    clear hown hgrow hb1 hgn HRO HBL hat
    go_loopw [34] (fun v wr => ∃ a : Nat, a ≤ t ∧ v = .int .i64 (a : Int) ∧ RowIs wr 3 w.heap.size gn t (rowN LL d a) ∧ RowIs wr 3 w.heap.size g t (nowF LL d) ∧ Below w.heap.size w wr) (fun v _ => t - (intOf v).toNat)
    case atStart => exact ⟨0, Nat.zero_le _, rfl, HN0.out, HG0.out, HB1.out⟩
    case round =>
      clear HN0 HG0 HB1
      obtain ⟨a, ha, rfl, hrn, hrx, hbx⟩ := hrel
      have HRN0 := Lib.hid hrn
      have HRX0 := Lib.hid hrx
      have HBX0 := Lib.hid hbx
      clear hrn hrx hbx
      by_cases hat2 : a < t
      · have ia0 : (0 : Int) ≤ (a : Int) := by omega
        have ia1 : (a : Int) < (t : Int) := by omega
        have ca := HRN0.out.cell a hat2
        have fa := HRN0.out.frozen a
        obtain ⟨z0, hz0'⟩ : ∃ z0, z0 = rowN LL d a a := ⟨_, rfl⟩
        rw [← hz0'] at ca
        have HS1 : Hid (RowIs (wr.setCell ⟨gn, a, none⟩ (.int .i64 (-1))) 3 w.heap.size gn t (rowA LL (candF LL R d (97 + a)) d a 0)) := Lib.hid ((HRN0.out.store a (-1)).congr fun z _ => rowA_first z)
        have HS2 := Lib.hid (HRX0.out.far hgg a (.int .i64 (-1)))
        have HS3 := Lib.hid (below_store HBX0.out hgb a (.int .i64 (-1)))
        have hc1 : wr.cell? ⟨sg, so + p, none⟩ = some (.slice (some ⟨rg, ro, none⟩) t rc) := ((bcell HBX0.out).1 sg _ hsg).trans HCL.out
        have hc2 : (wr.setCell ⟨gn, a, none⟩ (.int .i64 (-1))).cell? ⟨sg, so + p, none⟩ = some (.slice (some ⟨rg, ro, none⟩) t rc) := ((bcell HS3.out).1 sg _ hsg).trans HCL.out
        clear hz0' HRN0 HRX0 HBX0
        go_wp2
        go_loopw [45] (fun v wr => ∃ b : Nat, b ≤ t ∧ v = .int .i64 (b : Int) ∧ RowIs wr 3 w.heap.size gn t (rowA LL (candF LL R d (97 + a)) d a b) ∧ RowIs wr 3 w.heap.size g t (nowF LL d) ∧ Below w.heap.size w wr) (fun v _ => t - (intOf v).toNat)
        case atStart => exact ⟨0, Nat.zero_le _, rfl, HS1.out, HS2.out, HS3.out⟩
        case round =>
          clear HS1 HS2 HS3 ca fa hc1 hc2
          obtain ⟨b, hbt, rfl, hrn, hrx, hbx⟩ := hrel
          have HRN := Lib.hid hrn
          have HRX := Lib.hid hrx
          have HBX := Lib.hid hbx
          clear hrn hrx hbx
          by_cases hbt2 : b < t
          · have hbR : b < R.length := by rw [HRL.out]; exact hbt2
            have hvR := HAT.out b hbR
            have hv : wr.cell? ⟨rg, ro + b, none⟩ = some (.int .i64 R[b]) := ((bcell HBX.out).1 rg _ hrg).trans hvR
            obtain ⟨hu0, hu1⟩ := HRB.out R[b] (List.getElem_mem hbR)
            have HCD : Hid (candF LL R d (97 + a) b = if 97 + b ≠ 97 + a ∧ 0 ≤ nowF LL d b then nowF LL d b + R[b] else -1) := Lib.hid (by unfold candF; rw [List.getD_eq_getElem?_getD, List.getElem?_eq_getElem hbR]; rfl)
            obtain ⟨u, hu⟩ : ∃ u, u = R[b] := ⟨_, rfl⟩
            rw [← hu] at hv hu0 hu1 HCD
            have ib0 : (0 : Int) ≤ (b : Int) := by omega
            have ib1 : (b : Int) < (t : Int) := by omega
            have cx := HRN.out.cell a hat2
            have fx := HRN.out.frozen a
            have cy := HRX.out.cell b hbt2
            have hyb := HBD.out b
            have hcb : ∀ b, -1 ≤ candF LL R d (97 + a) b ∧ True := fun b => ⟨cand_ge (HBD.out b).1 HRB.out, trivial⟩
            have hxb : -1 ≤ mS (candF LL R d (97 + a)) b := mS_ge (fun b => (hcb b).1) b
            rw [rowA_at] at cx
            obtain ⟨x, hx⟩ : ∃ x, x = mS (candF LL R d (97 + a)) b := ⟨_, rfl⟩
            obtain ⟨y, hy⟩ : ∃ y, y = nowF LL d b := ⟨_, rfl⟩
            rw [← hx] at cx hxb
            rw [← hy] at cy hyb HCD
            have wyu : IntKind.i64.wrap (y + u) = y + u := by rw [IntKind.wrap_i64]; omega
            clear hcb hvR hu
            by_cases hab : a = b
            · have hq1 : ((a : Int) != (b : Int)) = false := by rw [hab]; simp
              have HSTEP : mS (candF LL R d (97 + a)) (b + 1) = mS (candF LL R d (97 + a)) b := omin_no (by rw [← hx]; exact hxb) (by rw [HCD.out, if_neg (by omega)])
              have HNN : Hid (∀ q, RowIs (wr.drewN q) 3 w.heap.size gn t (rowA LL (candF LL R d (97 + a)) d a (b + 1))) := Lib.hid fun q => (HRN.out.drewN q).congr fun z _ => rowA_same (by rw [HSTEP]) z
              clear HSTEP
              clear hab hx hy HCD
              go_wp2
              go_quiet (fail)
              go_wp2
              go_roundw
              case rel => exact ⟨b + 1, by omega, by go_num, HNN.out _, (HRX.out.drewN _), below_drewN HBX.out _⟩
              case measure => simp [intOf]; omega
            · have hq1 : ((a : Int) != (b : Int)) = true := by rw [bne_iff_ne]; omega
              by_cases hy0 : 0 ≤ y
              · have hq2 : decide (0 ≤ y) = true := decide_eq_true hy0
                have hcv : candF LL R d (97 + a) b = y + u := by rw [HCD.out, if_pos ⟨by omega, hy0⟩]
                by_cases hx0 : x < 0
                · have hq3 : decide (x < 0) = true := decide_eq_true hx0
                  have HSTEP : mS (candF LL R d (97 + a)) (b + 1) = y + u := by
                    show omin _ _ = _
                    rw [hcv, ← hx]; exact omin_yes (by omega) (.inl hx0)
                  have HST : Hid (∀ q, RowIs ((wr.drewN q).setCell ⟨gn, a, none⟩ (.int .i64 (y + u))) 3 w.heap.size gn t (rowA LL (candF LL R d (97 + a)) d a (b + 1)) ∧ RowIs ((wr.drewN q).setCell ⟨gn, a, none⟩ (.int .i64 (y + u))) 3 w.heap.size g t (nowF LL d) ∧ Below w.heap.size w ((wr.drewN q).setCell ⟨gn, a, none⟩ (.int .i64 (y + u)))) := Lib.hid fun q => ⟨((HRN.out.drewN q).store a (y + u)).congr fun z _ => rowA_put HSTEP z, (HRX.out.drewN q).far hgg a _, below_store (below_drewN HBX.out q) hgb a _⟩
                  clear HSTEP
                  clear hab hx hy HCD hcv
                  go_wp2
                  go_quiet (fail)
                  go_wp2
                  go_roundw
                  case rel => exact ⟨b + 1, by omega, by go_num, (HST.out _).1, (HST.out _).2.1, (HST.out _).2.2⟩
                  case measure => simp [intOf]; omega
                · have hq3 : decide (x < 0) = false := decide_eq_false hx0
                  by_cases hyx : y + u < x
                  · have hq4 : decide (y + u < x) = true := decide_eq_true hyx
                    have HSTEP : mS (candF LL R d (97 + a)) (b + 1) = y + u := by
                      show omin _ _ = _
                      rw [hcv, ← hx]; exact omin_yes (by omega) (.inr hyx)
                    have HST : Hid (∀ q, RowIs ((wr.drewN q).setCell ⟨gn, a, none⟩ (.int .i64 (y + u))) 3 w.heap.size gn t (rowA LL (candF LL R d (97 + a)) d a (b + 1)) ∧ RowIs ((wr.drewN q).setCell ⟨gn, a, none⟩ (.int .i64 (y + u))) 3 w.heap.size g t (nowF LL d) ∧ Below w.heap.size w ((wr.drewN q).setCell ⟨gn, a, none⟩ (.int .i64 (y + u)))) := Lib.hid fun q => ⟨((HRN.out.drewN q).store a (y + u)).congr fun z _ => rowA_put HSTEP z, (HRX.out.drewN q).far hgg a _, below_store (below_drewN HBX.out q) hgb a _⟩
                    clear HSTEP
                    clear hab hx hy HCD hcv
                    go_wp2
                    go_quiet (fail)
                    go_wp2
                    go_roundw
                    case rel => exact ⟨b + 1, by omega, by go_num, (HST.out _).1, (HST.out _).2.1, (HST.out _).2.2⟩
                    case measure => simp [intOf]; omega
                  · have hq4 : decide (y + u < x) = false := decide_eq_false hyx
                    have HSTEP : mS (candF LL R d (97 + a)) (b + 1) = mS (candF LL R d (97 + a)) b := by
                      show omin _ _ = _
                      rw [hcv, ← hx]; exact omin_stay hx0 hyx
                    have HNN : Hid (∀ q, RowIs (wr.drewN q) 3 w.heap.size gn t (rowA LL (candF LL R d (97 + a)) d a (b + 1))) := Lib.hid fun q => (HRN.out.drewN q).congr fun z _ => rowA_same (by rw [HSTEP]) z
                    clear HSTEP
                    clear hab hx hy HCD hcv
                    go_wp2
                    go_quiet (fail)
                    go_wp2
                    go_roundw
                    case rel => exact ⟨b + 1, by omega, by go_num, HNN.out _, (HRX.out.drewN _), below_drewN HBX.out _⟩
                    case measure => simp [intOf]; omega
              · have hq2 : decide (0 ≤ y) = false := decide_eq_false hy0
                have HSTEP : mS (candF LL R d (97 + a)) (b + 1) = mS (candF LL R d (97 + a)) b := omin_no (by rw [← hx]; exact hxb) (by rw [HCD.out, if_neg (fun h => hy0 h.2)])
                have HNN : Hid (∀ q, RowIs (wr.drewN q) 3 w.heap.size gn t (rowA LL (candF LL R d (97 + a)) d a (b + 1))) := Lib.hid fun q => (HRN.out.drewN q).congr fun z _ => rowA_same (by rw [HSTEP]) z
                clear HSTEP
                clear hab hx hy HCD
                go_wp2
                go_quiet (fail)
                go_wp2
                go_roundw
                case rel => exact ⟨b + 1, by omega, by go_num, HNN.out _, (HRX.out.drewN _), below_drewN HBX.out _⟩
                case measure => simp [intOf]; omega
          · obtain rfl : b = t := by omega
            have HNE := Lib.hid (HRN.out.congr (G := rowN LL d (a + 1)) fun z _ => rowA_end (HNX.out a) z)
            clear HRN
            go_wp2
            go_roundw
            case rel => exact ⟨a + 1, by omega, by go_num, HNE.out, HRX.out, HBX.out⟩
            case measure => simp [intOf]; omega
      · have hnat : ¬ (a : Int) < (t : Int) := by omega
        have HNW := Lib.hid (HRN0.out.congr (G := nowF LL (d + 1)) fun z hz => by unfold rowN; rw [if_pos (by omega)])
        clear HRN0
        by_cases hp0 : p = 0
        · have hq1 : ((p : Int) == 0) = true := by rw [hp0]; rfl
          have hnd : LL.length = d + 1 := by omega
          have HBE : Hid (oc (chpL (costB LL) n) = mS (candF LL R d 46) t) := Lib.hid (by
            have e := best_eq HOK.out hnd
            rw [HN.out, e]
            have e2 : LL[0]'(by omega) = R := by rw [HRR.out]; congr 1; exact hp0.symm
            rw [e2])
          have hc3 : wr.cell? ⟨sg, so, none⟩ = some (.slice (some ⟨rg, ro, none⟩) t rc) := by
            have e := ((bcell HBX0.out).1 sg (so + p) hsg).trans HCL.out
            rw [hp0, Nat.add_zero] at e
            exact e
          clear hp0 hnd HNW
          go_wp2
          go_loopw [11, 101] (fun u v wy => ∃ b : Nat, b ≤ t ∧ v = .int .i64 (b : Int) ∧ u = .int .i64 (mS (candF LL R d 46) b) ∧ wy = wr) (fun _ v _ => t - (intOf v).toNat)
          case atStart => exact ⟨0, Nat.zero_le _, rfl, rfl, rfl⟩
          case round =>
            obtain ⟨b, hbt, rfl, rfl, rfl⟩ := hrel
            by_cases hbt2 : b < t
            · have hbR : b < R.length := by rw [HRL.out]; exact hbt2
              have hv := ((bcell HBX0.out).1 rg (ro + b) hrg).trans (HAT.out b hbR)
              obtain ⟨hu0, hu1⟩ := HRB.out R[b] (List.getElem_mem hbR)
              have HCD : Hid (candF LL R d 46 b = if 97 + b ≠ 46 ∧ 0 ≤ nowF LL d b then nowF LL d b + R[b] else -1) := Lib.hid (by unfold candF; rw [List.getD_eq_getElem?_getD, List.getElem?_eq_getElem hbR]; rfl)
              obtain ⟨u, hu⟩ : ∃ u, u = R[b] := ⟨_, rfl⟩
              rw [← hu] at hv hu0 hu1 HCD
              have ib0 : (0 : Int) ≤ (b : Int) := by omega
              have ib1 : (b : Int) < (t : Int) := by omega
              have cy := HRX0.out.cell b hbt2
              have hyb := HBD.out b
              have hxb : -1 ≤ mS (candF LL R d 46) b := mS_ge (fun b => cand_ge (HBD.out b).1 HRB.out) b
              have HSU : Hid (mS (candF LL R d 46) (b + 1) = omin (mS (candF LL R d 46) b) (candF LL R d 46 b)) := Lib.hid rfl
              obtain ⟨x, hx⟩ : ∃ x, x = mS (candF LL R d 46) b := ⟨_, rfl⟩
              obtain ⟨y, hy⟩ : ∃ y, y = nowF LL d b := ⟨_, rfl⟩
              rw [← hx] at hxb HSU ⊢
              rw [← hy] at cy hyb HCD
              have wyu : IntKind.i64.wrap (y + u) = y + u := by rw [IntKind.wrap_i64]; omega
              clear hu hx hy
              by_cases hy0 : 0 ≤ y
              · have hq2 : decide (0 ≤ y) = true := decide_eq_true hy0
                have hcv : candF LL R d 46 b = y + u := by rw [HCD.out, if_pos ⟨by omega, hy0⟩]
                by_cases hx0 : x < 0
                · have hq3 : decide (x < 0) = true := decide_eq_true hx0
                  have HS : Hid (y + u = mS (candF LL R d 46) (b + 1)) := Lib.hid (by rw [HSU.out, hcv]; exact (omin_yes (by omega) (.inl hx0)).symm)
                  clear HCD hcv HSU
                  go_wp2
                  go_roundw
                  case rel => exact ⟨b + 1, by omega, by go_num, congrArg (Value.int .i64) HS.out, trivial⟩
                  case measure => simp [intOf]; omega
                · have hq3 : decide (x < 0) = false := decide_eq_false hx0
                  by_cases hyx : y + u < x
                  · have hq4 : decide (y + u < x) = true := decide_eq_true hyx
                    have HS : Hid (y + u = mS (candF LL R d 46) (b + 1)) := Lib.hid (by rw [HSU.out, hcv]; exact (omin_yes (by omega) (.inr hyx)).symm)
                    clear HCD hcv HSU
                    go_wp2
                    go_roundw
                    case rel => exact ⟨b + 1, by omega, by go_num, congrArg (Value.int .i64) HS.out, trivial⟩
                    case measure => simp [intOf]; omega
                  · have hq4 : decide (y + u < x) = false := decide_eq_false hyx
                    have HS : Hid (x = mS (candF LL R d 46) (b + 1)) := Lib.hid (by rw [HSU.out, hcv]; exact (omin_stay hx0 hyx).symm)
                    clear HCD hcv HSU
                    go_wp2
                    go_roundw
                    case rel => exact ⟨b + 1, by omega, by go_num, congrArg (Value.int .i64) HS.out, trivial⟩
                    case measure => simp [intOf]; omega
              · have hq2 : decide (0 ≤ y) = false := decide_eq_false hy0
                have HS : Hid (x = mS (candF LL R d 46) (b + 1)) := Lib.hid (by rw [HSU.out]; exact (omin_no hxb (by rw [HCD.out, if_neg (fun h => hy0 h.2)])).symm)
                clear HCD HSU
                go_wp2
                go_roundw
                case rel => exact ⟨b + 1, by omega, by go_num, congrArg (Value.int .i64) HS.out, trivial⟩
                case measure => simp [intOf]; omega
            · have hbe : b = t := by omega
              have HS : Hid (mS (candF LL R d 46) b = oc (chpL (costB LL) n)) := Lib.hid (by rw [HBE.out, hbe])
              have hnb : ¬ (b : Int) < (t : Int) := by omega
              rw [HS.out]
              clear hbe
              go_wp2
              go_ret
              exact ⟨rfl, HBX0.out⟩
        · have hq1 : ((p : Int) == 0) = false := by rw [beq_eq_false_iff_ne]; omega
          have HNW2 : Hid (RowIs wr 3 w.heap.size gn t (nowF LL (n - p))) := Lib.hid (by rw [show n - p = d + 1 by omega]; exact HNW.out)
          clear HNW
          go_wp2
          go_roundw
          case rel => exact ⟨p, gn, by omega, by omega, by go_num, rfl, HNW2.out, HBX0.out⟩
          case measure => simp [intOf]
end Go.Proofs.Ytmdfcamieonabaa
