/- Tallies (stage 2): what a map of tallies says beside a board, whatever the order of its keys. Pure. -/
namespace Go.Proofs.Yteefkgnojdgehaa

/-- both tallies together: the cheaper one, and their ways where they cost the same; no way is no tally -/
def cmb (a b : Int × Int) : Int × Int :=
  if a.1 = 0 then b else if b.1 = 0 then a else if b.2 < a.2 then b else if b.2 = a.2 then (a.1 + b.1, a.2) else a
/-- a tally: nothing, or ways and what they cost -/
def tly (a : Int × Int) : Prop := (a.1 = 0 ∧ a.2 = 0) ∨ 0 < a.1
theorem tly_zero : tly (0, 0) := .inl ⟨rfl, rfl⟩
theorem cmb_left (a : Int × Int) : cmb (0, 0) a = a := by unfold cmb; rw [if_pos rfl]
theorem cmb_right {a : Int × Int} (h : tly a) : cmb a (0, 0) = a := by
  unfold cmb
  rcases h with h | h
  · rw [if_pos h.1]; exact Prod.ext h.1.symm h.2.symm
  · rw [if_neg (by omega), if_pos rfl]
theorem cmb_tly {a b : Int × Int} (ha : tly a) (hb : tly b) : tly (cmb a b) := by
  unfold cmb tly at *
  split
  · exact hb
  · split
    · exact ha
    · split
      · exact hb
      · split
        · right; show 0 < a.1 + b.1; omega
        · exact ha
theorem cmb_comm {a b : Int × Int} (ha : tly a) (hb : tly b) : cmb a b = cmb b a := by
  obtain ⟨a1, a2⟩ := a
  obtain ⟨b1, b2⟩ := b
  unfold cmb tly at *
  simp only at *
  by_cases h1 : a1 = 0 <;> by_cases h2 : b1 = 0 <;> simp only [h1, h2, if_true, if_false]
  · apply Prod.ext <;> simp <;> omega
  · by_cases h3 : b2 < a2
    · rw [if_pos h3, if_neg (by omega), if_neg (by omega)]
    · rw [if_neg h3]
      by_cases h4 : b2 = a2
      · rw [if_pos h4, if_neg (by omega), if_pos h4.symm]
        apply Prod.ext <;> simp <;> omega
      · rw [if_neg h4, if_pos (by omega)]
theorem cmb_assoc {a b c : Int × Int} (ha : tly a) (hb : tly b) (hc : tly c) : cmb (cmb a b) c = cmb a (cmb b c) := by
  obtain ⟨a1, a2⟩ := a
  obtain ⟨b1, b2⟩ := b
  obtain ⟨c1, c2⟩ := c
  unfold cmb tly at *
  simp only at *
  repeat' split
  all_goals first | rfl | (apply Prod.ext <;> simp <;> omega) | (exfalso; simp at *; omega) | (simp at *; omega) | skip
/-- the tallies at the keys of a list -/
def fol (f : Nat → Option (Int × Int)) : List Nat → Int × Int
  | [] => (0, 0)
  | k :: l => cmb ((f k).getD (0, 0)) (fol f l)
/-- every tally has ways -/
def good (f : Nat → Option (Int × Int)) : Prop := ∀ k v, f k = some v → 0 < v.1
theorem good_tly {f : Nat → Option (Int × Int)} (h : good f) (k : Nat) : tly ((f k).getD (0, 0)) := by
  cases hk : f k with
  | none => exact tly_zero
  | some v => exact .inr (h k v hk)
theorem fol_tly {f : Nat → Option (Int × Int)} (h : good f) : ∀ l, tly (fol f l)
  | [] => tly_zero
  | k :: l => cmb_tly (good_tly h k) (fol_tly h l)
def upd (f : Nat → Option (Int × Int)) (x : Nat) (v : Int × Int) (k : Nat) : Option (Int × Int) := if k = x then some v else f k
theorem fol_same {f g : Nat → Option (Int × Int)} : ∀ {l : List Nat}, (∀ k ∈ l, f k = g k) → fol f l = fol g l
  | [], _ => rfl
  | k :: l, h => by
    show cmb _ _ = cmb _ _
    rw [h k (List.mem_cons_self ..), fol_same fun z hz => h z (List.mem_cons_of_mem _ hz)]
/-- one tally more -/
theorem fol_upd {f : Nat → Option (Int × Int)} {x : Nat} {v : Int × Int} (h : good f) (hv : 0 < v.1) (hx : f x = none) : ∀ {l : List Nat}, l.Nodup → x ∈ l → fol (upd f x v) l = cmb (fol f l) v
  | [], _, hm => by cases hm
  | k :: l, hn, hm => by
    rw [List.nodup_cons] at hn
    have tv : tly v := .inr hv
    by_cases e : k = x
    · subst e
      have e1 : fol (upd f k v) l = fol f l := fol_same fun z hz => by
        unfold upd
        rw [if_neg]
        rintro rfl
        exact hn.1 hz
      show cmb ((upd f k v k).getD (0, 0)) (fol (upd f k v) l) = cmb (cmb ((f k).getD (0, 0)) (fol f l)) v
      rw [e1, hx]
      show cmb ((upd f k v k).getD (0, 0)) _ = cmb (cmb (0, 0) _) v
      rw [cmb_left, show upd f k v k = some v by unfold upd; rw [if_pos rfl]]
      exact cmb_comm tv (fol_tly h l)
    · have hm2 : x ∈ l := by
        rcases List.mem_cons.1 hm with h2 | h2
        · exact absurd h2.symm e
        · exact h2
      show cmb ((upd f x v k).getD (0, 0)) (fol (upd f x v) l) = cmb (cmb ((f k).getD (0, 0)) (fol f l)) v
      rw [fol_upd h hv hx hn.2 hm2, show upd f x v k = f k by unfold upd; rw [if_neg e], cmb_assoc (good_tly h k) (fol_tly h l) tv]
/-- the colours -/
def keys5 : List Nat := [97, 98, 99, 100, 101]
theorem keys5_nodup : keys5.Nodup := by decide
theorem keys5_mem {k : Nat} : k ∈ keys5 ↔ 97 ≤ k ∧ k ≤ 101 := by
  unfold keys5
  simp only [List.mem_cons, List.not_mem_nil, or_false]
  omega
/-- the tally beside a board -/
def wo (f : Nat → Option (Int × Int)) (t : Nat) (k : Nat) : Option (Int × Int) := if k = t then none else f k
def besT (f : Nat → Option (Int × Int)) (t : Nat) : Int × Int := fol (wo f t) keys5
theorem good_wo {f : Nat → Option (Int × Int)} (h : good f) (t : Nat) : good (wo f t) := fun k v hk => by
  unfold wo at hk
  split at hk
  · cases hk
  · exact h k v hk
theorem besT_own {f : Nat → Option (Int × Int)} {t : Nat} {v : Int × Int} : besT (upd f t v) t = besT f t := fol_same fun k _ => by
  unfold wo upd
  by_cases e : k = t
  · rw [if_pos e, if_pos e]
  · rw [if_neg e, if_neg e, if_neg e]
theorem besT_upd {f : Nat → Option (Int × Int)} {t x : Nat} {v : Int × Int} (h : good f) (hv : 0 < v.1) (hx : f x = none) (hm : x ∈ keys5) (hne : x ≠ t) : besT (upd f x v) t = cmb (besT f t) v := by
  unfold besT
  rw [← fol_upd (good_wo h t) hv (show wo f t x = none by unfold wo; rw [if_neg hne, hx]) keys5_nodup hm]
  exact fol_same fun k _ => by
    unfold wo upd
    by_cases e : k = x
    · rw [e, if_neg hne, if_pos rfl, if_pos rfl]
    · rw [if_neg e, if_neg e]
end Go.Proofs.Yteefkgnojdgehaa
