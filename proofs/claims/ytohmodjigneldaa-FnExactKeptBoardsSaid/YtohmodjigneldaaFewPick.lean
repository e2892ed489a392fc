/- The first stroke that saves one: what both sides look for. Pure. -/
import Derived.Test.YtohmodjigneldaaPaint
import Derived.Test.YtohmodjigneldaaFewLaw
import Derived.Test.YtohmodjigneldaaTxFewMath2
namespace Go.Proofs.Ytohmodjigneldaa
open Go.RowKit

/-- the first stroke that saves one -/
structure Pick (c d : Nat → Nat) (n F L K : Nat) : Prop where
  fl : F ≤ L
  ln : L < n
  nb : Tx.noBare c F (L + 1)
  k5 : K < 5
  hit : Tx.fpN c (Tx.pnt d F L (97 + K)) n + 1 = Tx.fpN c d n
  no : ∀ f l k, f ≤ l → l < n → Tx.noBare c f (l + 1) → k < 5 → (f < F ∨ f = F ∧ (l < L ∨ l = L ∧ k < K)) → Tx.fpN c (Tx.pnt d f l (97 + k)) n + 1 ≠ Tx.fpN c d n
theorem pick_min {c d : Nat → Nat} {n : Nat} (hn : n ≤ 20) : ∀ m f l k, f * 105 + l * 5 + k = m → f ≤ l → l < n → Tx.noBare c f (l + 1) → k < 5 → Tx.fpN c (Tx.pnt d f l (97 + k)) n + 1 = Tx.fpN c d n → ∃ F L K, Pick c d n F L K := by
  intro m
  induction m using Nat.strongRecOn with
  | _ m ih =>
    intro f l k hm h1 h2 h3 h4 h5
    by_cases hex : ∃ f' l' k', f' ≤ l' ∧ l' < n ∧ Tx.noBare c f' (l' + 1) ∧ k' < 5 ∧ (f' < f ∨ f' = f ∧ (l' < l ∨ l' = l ∧ k' < k)) ∧ Tx.fpN c (Tx.pnt d f' l' (97 + k')) n + 1 = Tx.fpN c d n
    · obtain ⟨f', l', k', q1, q2, q3, q4, q5, q6⟩ := hex
      exact ih (f' * 105 + l' * 5 + k') (by omega) f' l' k' rfl q1 q2 q3 q4 q6
    · exact ⟨f, l, k, h1, h2, h3, h4, h5, fun f' l' k' q1 q2 q3 q4 q5 q6 => hex ⟨f', l', k', q1, q2, q3, q4, q5, q6⟩⟩
/-- the colours of a fence -/
def tinted (c : Nat → Nat) (n : Nat) : Prop := ∀ i, i < n → c i = 46 ∨ 97 ≤ c i ∧ c i < 102
theorem pick_some {c d : Nat → Nat} {n : Nat} (hn : n ≤ 20) (hl : Tx.leadsF c d n) (ht : tinted c n) (h0 : 0 < Tx.fpN c d n) : ∃ F L K, Pick c d n F L K := by
  obtain ⟨f, l, h1, h2, h3, h4⟩ := Tx.some_saves hn hl n (Nat.le_refl _) h0
  have hc := h3 f (Nat.le_refl _) (by omega)
  rcases ht f (by omega) with h | h
  · exact absurd h hc
  · have e : c f = 97 + (c f - 97) := by omega
    have h5 := Tx.save_one (x := c f) hn hl h3 (by omega)
    rw [e] at h4 h5
    exact pick_min hn _ f l (c f - 97) rfl h1 h2 h3 (by omega) (by omega)
theorem Pick.only {c d : Nat → Nat} {n F L K f l k : Nat} (h : Pick c d n F L K) (h1 : f ≤ F) (h2 : f = F → l ≤ L) (h3 : f = F → l = L → k ≤ K) (q1 : f ≤ l) (q2 : l < n) (q3 : Tx.noBare c f (l + 1)) (q4 : k < 5)
    (q5 : Tx.fpN c (Tx.pnt d f l (97 + k)) n + 1 = Tx.fpN c d n) : f = F ∧ l = L ∧ k = K := by
  by_cases hf : f = F
  · have := h2 hf
    by_cases hl : l = L
    · have := h3 hf hl
      by_cases hk : k = K
      · exact ⟨hf, hl, hk⟩
      · exact absurd q5 (h.no f l k q1 q2 q3 q4 (.inr ⟨hf, .inr ⟨hl, by omega⟩⟩))
    · exact absurd q5 (h.no f l k q1 q2 q3 q4 (.inr ⟨hf, .inl (by omega)⟩))
  · exact absurd q5 (h.no f l k q1 q2 q3 q4 (.inl (by omega)))
theorem Pick.kNext {c d : Nat → Nat} {n F L K f l k : Nat} (h : Pick c d n F L K) (h3 : f = F → l = L → k ≤ K) (q5 : Tx.fpN c (Tx.pnt d f l (97 + k)) n + 1 ≠ Tx.fpN c d n) : f = F → l = L → k + 1 ≤ K := fun e1 e2 => by
  have := h3 e1 e2
  rcases Nat.lt_or_ge k K with h4 | h4
  · exact h4
  · obtain rfl : k = K := by omega
    subst e1 e2
    exact absurd h.hit q5
theorem Pick.lNext {c d : Nat → Nat} {n F L K f l : Nat} (h : Pick c d n F L K) (h2 : f = F → l ≤ L) (h3 : f = F → l = L → 5 ≤ K) : f = F → l + 1 ≤ L := fun e1 => by
  have := h2 e1
  have := h.k5
  by_cases e : l = L
  · have := h3 e1 e; omega
  · omega
theorem Pick.fNext {c d : Nat → Nat} {n F L K f l : Nat} (h : Pick c d n F L K) (h1 : f ≤ F) (h0 : f ≤ l) (h2 : f = F → l ≤ L) (he : n ≤ l ∨ c l = 46) : f + 1 ≤ F := by
  by_cases e : f = F
  · have := h2 e
    have := h.ln
    rcases he with he | he
    · omega
    · exact absurd he (h.nb l (by omega) (by omega))
  · omega

/-! ### A text behind a stroke -/
theorem fpN_at {c d d' : Nat → Nat} {n : Nat} (h : ∀ i, i < n → d i = d' i) : Tx.fpN c d n = Tx.fpN c d' n := Tx.fpN_dep h
theorem repC_list (x : UInt8) (k : Nat) : (repC ⟨#[x]⟩ k).data.toList = List.replicate k x := by
  show (Lib.repeatL [x] k).toArray.toList = _
  rw [List.toList_toArray, repeatL_one_byte]
theorem extract_toList (s : ByteArray) (a b : Nat) : (s.extract a b).data.toList = (s.data.toList.take b).drop a := by
  simp [ByteArray.data_extract, List.drop_take]
theorem paintS_list (s : ByteArray) (f l : Nat) (x : UInt8) : (paintS s f l ⟨#[x]⟩).data.toList = s.data.toList.take f ++ (List.replicate (l + 1 - f) x ++ s.data.toList.drop (l + 1)) := by
  unfold paintS
  have e : s.data.toList.take s.size = s.data.toList := List.take_of_length_le (by simp)
  rw [append_list, append_list, repC_list, extract_toList, extract_toList, List.drop_zero, List.append_assoc, e]
theorem paintS_size1 {s : ByteArray} {f l : Nat} {x : UInt8} (h1 : f ≤ l) (h2 : l < s.size) : (paintS s f l ⟨#[x]⟩).size = s.size := by
  have hs : s.data.toList.length = s.size := by simp
  have e : (paintS s f l ⟨#[x]⟩).size = (paintS s f l ⟨#[x]⟩).data.toList.length := by simp
  rw [e, paintS_list]
  simp only [List.length_append, List.length_take, List.length_replicate, List.length_drop]
  omega
theorem cB_paint {s : ByteArray} {f l : Nat} {x : UInt8} (h1 : f ≤ l) (h2 : l < s.size) (i : Nat) : Tx.cB (paintS s f l ⟨#[x]⟩) i = Tx.pnt (Tx.cB s) f l x.toNat i := by
  have hs : s.data.toList.length = s.size := by simp
  have hf : (s.data.toList.take f).length = f := by rw [List.length_take]; omega
  unfold Tx.pnt
  show ((paintS s f l ⟨#[x]⟩).data.toList.getD i 0).toNat = if f ≤ i ∧ i ≤ l then x.toNat else (s.data.toList.getD i 0).toNat
  rw [paintS_list, List.getD_eq_getElem?_getD, List.getD_eq_getElem?_getD]
  by_cases q1 : i < f
  · rw [List.getElem?_append_left (by omega), List.getElem?_take, if_pos q1, if_neg (by omega)]
  · rw [List.getElem?_append_right (by omega), hf]
    by_cases q2 : i ≤ l
    · rw [List.getElem?_append_left (by rw [List.length_replicate]; omega), List.getElem?_replicate, if_pos (by omega), if_pos ⟨by omega, q2⟩]
      rfl
    · rw [List.getElem?_append_right (by rw [List.length_replicate]; omega), List.length_replicate, List.getElem?_drop, if_neg (by omega)]
      congr 3
      omega
/-- a colour's letter -/
def letB (k : Nat) : UInt8 := UInt8.ofNat (97 + k)
theorem letB_nat {k : Nat} (h : k < 5) : (letB k).toNat = 97 + k := by
  unfold letB
  rw [UInt8.toNat_ofNat']
  omega
theorem fpN_paint {s t : ByteArray} {f l k : Nat} (h1 : f ≤ l) (h2 : l < s.size) (hk : k < 5) : Tx.fpN (Tx.cB t) (Tx.cB (paintS s f l ⟨#[letB k]⟩)) t.size = Tx.fpN (Tx.cB t) (Tx.pnt (Tx.cB s) f l (97 + k)) t.size :=
  Tx.fpN_dep fun i _ => by rw [cB_paint h1 h2, letB_nat hk]
theorem leads_paint {s t : ByteArray} {f l k : Nat} (h1 : f ≤ l) (h2 : l < s.size) (hk : k < 5) (hl : Tx.leadsF (Tx.cB t) (Tx.cB s) t.size) (hb : Tx.noBare (Tx.cB t) f (l + 1)) : Tx.leadsF (Tx.cB t) (Tx.cB (paintS s f l ⟨#[letB k]⟩)) t.size := fun i hi hc => by
  rw [cB_paint h1 h2, letB_nat hk]
  exact Tx.leads_pnt hl hb i hi hc
theorem tinted_of {t : ByteArray} (h : okFence t = true) : tinted (Tx.cB t) t.size := fun i hi => by
  unfold okFence at h
  rw [Bool.and_eq_true, List.all_eq_true] at h
  have h2 := h.2 t[i] (by show t.data[i] ∈ t.data.toList; simp)
  unfold okB at h2
  have h3 := of_decide_eq_true h2
  rw [Tx.cB_at t i hi]
  omega
end Go.Proofs.Ytohmodjigneldaa
