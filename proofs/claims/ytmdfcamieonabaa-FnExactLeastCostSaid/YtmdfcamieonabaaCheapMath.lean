/- The least cost: the model's rows and the program's tallies say the same. Pure. -/
import Derived.Test.YtmdfcamieonabaaCostly
namespace Go.Proofs.Ytmdfcamieonabaa

/-- a cost, -1 for none -/
def oc (p : Int × Int) : Int := if p.1 = 0 then -1 else p.2
def omin (x y : Int) : Int := if x < 0 then y else if y < 0 then x else if y < x then y else x
theorem omin_none {x : Int} (h : -1 ≤ x) : omin x (-1) = x := by unfold omin; split <;> (try split) <;> omega
theorem omin_first (y : Int) : omin (-1) y = y := by unfold omin; rw [if_pos (by decide)]
theorem omin_ge {x y : Int} (hx : -1 ≤ x) (hy : -1 ≤ y) : -1 ≤ omin x y := by unfold omin; split <;> (try split) <;> (try split) <;> omega
theorem omin_assoc {x y z : Int} : omin (omin x y) z = omin x (omin y z) := by
  unfold omin
  repeat' split
  all_goals omega
theorem oc_zero {p : Int × Int} (h : p.1 = 0) : oc p = -1 := by unfold oc; rw [if_pos h]
theorem oc_pos {p : Int × Int} (h : p.1 ≠ 0) : oc p = p.2 := by unfold oc; rw [if_neg h]
theorem omin_nn {x y : Int} (hx : 0 ≤ x) (hy : 0 ≤ y) : omin x y = if y < x then y else x := by unfold omin; rw [if_neg (by omega), if_neg (by omega)]
theorem oc_cmb {p q : Int × Int} (hp : tly p) (hq : tly q) (h1 : 0 ≤ p.2) (h2 : 0 ≤ q.2) : oc (cmb p q) = omin (oc p) (oc q) := by
  by_cases a : p.1 = 0
  · have e : cmb p q = q := by unfold cmb; rw [if_pos a]
    rw [e, oc_zero a, omin_first]
  · by_cases b : q.1 = 0
    · have e : cmb p q = p := by unfold cmb; rw [if_neg a, if_pos b]
      rw [e, oc_zero b, oc_pos a, omin_none (by omega)]
    · rw [oc_pos a, oc_pos b, omin_nn h1 h2]
      by_cases c : q.2 < p.2
      · have e : cmb p q = q := by unfold cmb; rw [if_neg a, if_neg b, if_pos c]
        rw [e, oc_pos b, if_pos c]
      · rw [if_neg c]
        by_cases e2 : q.2 = p.2
        · have e : cmb p q = (p.1 + q.1, p.2) := by unfold cmb; rw [if_neg a, if_neg b, if_neg c, if_pos e2]
          rw [e]
          have hs : (p.1 + q.1, p.2).1 ≠ 0 := by
            unfold tly at hp hq
            show p.1 + q.1 ≠ 0
            omega
          rw [oc_pos hs]
        · have e : cmb p q = p := by unfold cmb; rw [if_neg a, if_neg b, if_neg c, if_neg e2]
          rw [e, oc_pos a]
theorem oc_fol {f : Nat → Option (Int × Int)} (hg : good f) (hc : ∀ k v, f k = some v → 0 ≤ v.2) : ∀ l : List Nat, 0 ≤ (fol f l).2 ∧ oc (fol f l) = l.foldr (fun k x => omin (oc ((f k).getD (0, 0))) x) (-1)
  | [] => ⟨Int.le_refl _, rfl⟩
  | k :: l => by
    obtain ⟨i1, i2⟩ := oc_fol hg hc l
    have hk : 0 ≤ ((f k).getD (0, 0)).2 := by
      cases h : f k with
      | none => exact Int.le_refl _
      | some v => exact hc k v h
    refine ⟨?_, ?_⟩
    · show 0 ≤ (cmb ((f k).getD (0, 0)) (fol f l)).2
      unfold cmb
      split
      · exact i1
      · split
        · exact hk
        · split
          · exact i1
          · split
            · exact hk
            · exact hk
    · rw [List.foldr_cons, ← i2]
      exact oc_cmb (good_tly hg k) (fol_tly hg l) hk i1
/-- the model's loop over the tints -/
def mS (v : Nat → Int) : Nat → Int
  | 0 => -1
  | b + 1 => omin (mS v b) (v b)
theorem mS_ge {v : Nat → Int} (h : ∀ b, -1 ≤ v b) : ∀ m, -1 ≤ mS v m
  | 0 => Int.le_refl _
  | m + 1 => omin_ge (mS_ge h m) (h m)
theorem mS_more {v : Nat → Int} (h : ∀ b, -1 ≤ v b) {t : Nat} (ht : ∀ b, t ≤ b → v b = -1) : ∀ e, mS v (t + e) = mS v t
  | 0 => rfl
  | e + 1 => by
    show omin (mS v (t + e)) (v (t + e)) = mS v t
    rw [ht (t + e) (by omega), omin_none (mS_ge h _), mS_more h ht e]
theorem mS_five {v : Nat → Int} (h : ∀ b, -1 ≤ v b) : mS v 5 = omin (v 0) (omin (v 1) (omin (v 2) (omin (v 3) (omin (v 4) (-1))))) := by
  show omin (omin (omin (omin (omin (-1) (v 0)) (v 1)) (v 2)) (v 3)) (v 4) = _
  rw [omin_first, omin_none (h 4), omin_assoc, omin_assoc, omin_assoc]
/-- what the program's tallies cost, by the model's loop -/
theorem oc_besT {f : Nat → Option (Int × Int)} (hg : good f) (hc : ∀ k v, f k = some v → 0 ≤ v.2) (t m : Nat) (hm : m ≤ 5) (hn : ∀ b, m ≤ b → f (97 + b) = none) : oc (besT f t) = mS (fun b => oc ((wo f t (97 + b)).getD (0, 0))) m := by
  have hgw := good_wo hg t
  have hcw : ∀ k v, wo f t k = some v → 0 ≤ v.2 := fun k v h => by
    unfold wo at h
    split at h
    · cases h
    · exact hc k v h
  have h1 : ∀ b, -1 ≤ oc ((wo f t (97 + b)).getD (0, 0)) := fun b => by
    unfold oc
    split
    · omega
    · cases h : wo f t (97 + b) with
      | none => exact (by decide : (-1 : Int) ≤ 0)
      | some v => have := hcw _ v h; show -1 ≤ v.2; omega
  have h2 : ∀ b, m ≤ b → oc ((wo f t (97 + b)).getD (0, 0)) = -1 := fun b hb => by
    have : wo f t (97 + b) = none := by unfold wo; split; rfl; exact hn b hb
    rw [this]; rfl
  have e := mS_more (v := fun b => oc ((wo f t (97 + b)).getD (0, 0))) h1 h2 (5 - m)
  rw [show m + (5 - m) = 5 by omega] at e
  rw [← e, mS_five h1]
  exact (oc_fol hgw hcw keys5).2
theorem rst_nn {B : Nat → Nat → Option Int} (hB : costly B) (n d k : Nat) : 0 ≤ (rst B n d k).1 ∧ 0 ≤ (rst B n d k).2 := by
  unfold rst
  split
  · exact ⟨by decide, by decide⟩
  · have := besT_le (W := 5 ^ d) (C := 100 * d) (Int.le_of_lt (Int.pow_pos (by decide))) (by omega) (fun k v hv => (tT_bd hB n d k v hv).2) k
    exact ⟨this.1, this.2.2.1⟩
theorem oc_neg {p : Int × Int} (_h1 : 0 ≤ p.1) (h : 0 ≤ p.2) : 0 ≤ oc p ↔ 0 < p.1 := by
  unfold oc
  split <;> constructor <;> intro <;> omega
/-- one candidate -/
theorem cand_row {B : Nat → Nat → Option Int} (hB : costly B) {n d : Nat} {R : List Int} (hR : B (n - 1 - d) = costP R R.length) (t b : Nat) (hb : b < R.length) :
    oc ((wo (tT B n (d + 1)) t (97 + b)).getD (0, 0)) = if 97 + b ≠ t ∧ 0 ≤ oc (rst B n d (97 + b)) then oc (rst B n d (97 + b)) + R[b] else -1 := by
  have hv : B (n - 1 - d) (97 + b) = some R[b] := by
    rw [hR]; unfold costP; rw [if_pos ⟨by omega, by omega⟩, Nat.add_sub_cancel_left, List.getElem?_eq_getElem hb]
  obtain ⟨r1, r2⟩ := rst_nn hB n d (97 + b)
  have hn := oc_neg r1 r2
  obtain ⟨q1, q2, q3⟩ := hB _ _ _ hv
  unfold wo
  by_cases e : 97 + b = t
  · rw [if_pos e, if_neg (by omega)]; rfl
  · rw [if_neg e, tT_some hv]
    by_cases h0 : 0 < (rst B n d (97 + b)).1
    · rw [if_pos h0, if_pos ⟨e, hn.2 h0⟩]
      show oc ((rst B n d (97 + b)).1, (rst B n d (97 + b)).2 + R[b]) = _
      unfold oc
      rw [if_neg (by show (rst B n d (97 + b)).1 ≠ 0; omega), if_neg (by omega)]
    · rw [if_neg h0, if_neg (fun h => h0 (hn.1 h.2))]; rfl
theorem mS_congr {v u : Nat → Int} : ∀ m, (∀ b, b < m → v b = u b) → mS v m = mS u m
  | 0, _ => rfl
  | m + 1, h => by
    show omin (mS v m) (v m) = omin (mS u m) (u m)
    rw [mS_congr m fun b hb => h b (by omega), h m (Nat.lt_succ_self m)]
/-- the model's row: what is behind a tint -/
theorem row_oc {B : Nat → Nat → Option Int} (hB : costly B) {n d : Nat} {R : List Int} (hR : B (n - 1 - d) = costP R R.length) (h5 : R.length ≤ 5) (t : Nat) :
    oc (besT (tT B n (d + 1)) t) = mS (fun b => if 97 + b ≠ t ∧ 0 ≤ oc (rst B n d (97 + b)) then oc (rst B n d (97 + b)) + R.getD b 0 else -1) R.length := by
  rw [oc_besT (fun k v h => (tT_bd hB n (d + 1) k v h).2.1.1) (fun k v h => (tT_bd hB n (d + 1) k v h).2.2.1) t R.length h5 (fun b hb => tT_none (by
    rw [hR]; unfold costP; rw [if_neg (by omega)]))]
  refine mS_congr _ fun b hb => ?_
  rw [cand_row hB hR t b hb, List.getD_eq_getElem?_getD, List.getElem?_eq_getElem hb]
  rfl
end Go.Proofs.Ytmdfcamieonabaa
