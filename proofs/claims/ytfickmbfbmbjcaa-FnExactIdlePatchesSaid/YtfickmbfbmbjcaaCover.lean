/- Patches that cover a yard: what both sides reckon. No condition. -/
import Derived.Test.YtfickmbfbmbjcaaIntSS2
import Derived.Test.YtfickmbfbmbjcaaSound2
import Derived.Test.YtfickmbfbmbjcaaMend
import Derived.Test.YtfickmbfbmbjcaaStarts
namespace Go.Proofs.Ytfickmbfbmbjcaa
open Go.RowKit

/-- a patch of a yard of n boards -/
def okPt (n : Nat) (L : List Int) : Bool := match L with | [a, b] => decide (0 ≤ a ∧ a ≤ b ∧ b < n) | _ => false
/-- a board is one of a patch's -/
def inPt (k : Int) (L : List Int) : Bool := match L with | [a, b] => decide (a ≤ k ∧ k ≤ b) | _ => false
def covK (LL : List (List Int)) (k : Int) : Bool := LL.any (inPt k)
def covers (s : ByteArray) (LL : List (List Int)) : Bool := (brkL s s.size).all (covK LL)
def areP (s : ByteArray) (LL : List (List Int)) : Bool := LL.all (okPt s.size) && covers s LL
def ptOf (L : List Int) : Nat × Nat := match L with | [a, b] => (a.toNat, b.toNat) | _ => (0, 0)
def inP (i : Nat) (p : Nat × Nat) : Bool := decide (p.1 ≤ i ∧ i ≤ p.2)
theorem okPt_two {n : Nat} {L : List Int} (h : okPt n L = true) : ∃ a b : Nat, L = [(a : Int), (b : Int)] ∧ a ≤ b ∧ b < n := by
  unfold okPt at h
  split at h
  · next a b =>
    have h := of_decide_eq_true h
    exact ⟨a.toNat, b.toNat, by congr 1; omega; congr 1; omega, by omega, by omega⟩
  · cases h
theorem two_of_len {L : List Int} (h : L.length = 2) : ∃ a b, L = [a, b] := by
  match L, h with
  | [a, b], _ => exact ⟨a, b, rfl⟩
theorem okPt_len {n : Nat} {L : List Int} (h : L.length ≠ 2) : okPt n L = false := by
  unfold okPt
  split
  · exact absurd rfl h
  · rfl
theorem inPt_of {n i : Nat} {L : List Int} (h : okPt n L = true) : inPt (i : Int) L = inP i (ptOf L) := by
  obtain ⟨a, b, rfl, _, _⟩ := okPt_two h
  unfold inPt inP ptOf
  rw [decide_eq_decide]
  show (a : Int) ≤ i ∧ (i : Int) ≤ b ↔ (a : Int).toNat ≤ i ∧ i ≤ (b : Int).toNat
  omega
theorem covK_of {n i : Nat} : ∀ {LL : List (List Int)}, (∀ L ∈ LL, okPt n L = true) → covK LL (i : Int) = (LL.map ptOf).any (inP i)
  | [], _ => rfl
  | L :: R, h => by
    have ih := covK_of (i := i) (LL := R) fun M hM => h M (List.mem_cons_of_mem _ hM)
    unfold covK at ih ⊢
    rw [List.any_cons, List.map_cons, List.any_cons, ih, inPt_of (h L (List.mem_cons_self ..))]
theorem all_mem {n : Nat} {LL : List (List Int)} (h : LL.all (okPt n) = true) : ∀ L ∈ LL, okPt n L = true := List.all_eq_true.1 h
theorem covers_iff (s : ByteArray) (LL : List (List Int)) : covers s LL = true ↔ ∀ i : Nat, isX s i = true → covK LL (i : Int) = true := by
  unfold covers
  rw [List.all_eq_true]
  constructor
  · exact fun h i hi => h _ ((brkL_mem s s.size _).2 ⟨i, isX_lt hi, rfl, hi⟩)
  · intro h x hx
    obtain ⟨i, _, rfl, hi⟩ := (brkL_mem s s.size x).1 hx
    exact h i hi

theorem ext_list (s : ByteArray) (a b : Nat) : (s.extract a b).data.toList = (s.data.toList.drop a).take (b - a) := by
  simp [ByteArray.data_extract, List.take_drop]
theorem mendS_list (s : ByteArray) (a b : Nat) : (mendS s a b).data.toList = s.data.toList.take a ++ List.replicate (b + 1 - a) 111 ++ s.data.toList.drop (b + 1) := by
  unfold mendS
  rw [append_list, append_list, ext_list, ext_list, repO_list, List.drop_zero, Nat.sub_zero, List.take_of_length_le (l := s.data.toList.drop (b + 1)) (by simp)]
theorem mendS_size {s : ByteArray} {a b : Nat} (h1 : a ≤ b) (h2 : b < s.size) : (mendS s a b).size = s.size := by
  have h := congrArg List.length (mendS_list s a b)
  have e : (mendS s a b).data.toList.length = (mendS s a b).size := by simp
  have e2 : s.data.toList.length = s.size := by simp
  rw [← e, h, List.length_append, List.length_append, List.length_replicate, List.length_take, List.length_drop, e2]
  omega
theorem isX_mend {s : ByteArray} {a b : Nat} (h1 : a ≤ b) (h2 : b < s.size) (i : Nat) : isX (mendS s a b) i = (isX s i && !inP i (a, b)) := by
  have e2 : s.data.toList.length = s.size := by simp
  unfold isX inP
  rw [mendS_list]
  rcases Nat.lt_or_ge i a with h | h
  · rw [List.append_assoc, List.getElem?_append_left (by rw [List.length_take]; omega), List.getElem?_take, if_pos h, decide_eq_false (show ¬ (a ≤ i ∧ i ≤ b) by omega)]; simp
  · rcases Nat.lt_or_ge b i with h3 | h3
    · rw [List.getElem?_append_right (by rw [List.length_append, List.length_take, List.length_replicate]; omega), List.getElem?_drop, decide_eq_false (show ¬ (a ≤ i ∧ i ≤ b) by omega)]
      rw [List.length_append, List.length_take, List.length_replicate, show b + 1 + (i - (min a s.data.toList.length + (b + 1 - a))) = i by omega]; simp
    · rw [decide_eq_true (show a ≤ i ∧ i ≤ b from ⟨h, h3⟩), List.getElem?_append_left (by rw [List.length_append, List.length_take, List.length_replicate]; omega), List.getElem?_append_right (by rw [List.length_take]; omega), List.getElem?_replicate]
      rw [Bool.not_true, Bool.and_false, decide_eq_false_iff_not]
      split
      · decide
      · intro e; cases e
/-- a yard, mended by one patch after the other -/
def mendAll (s : ByteArray) (P : List (Nat × Nat)) : ByteArray := P.foldl (fun y p => mendS y p.1 p.2) s
theorem mendAll_snoc (s : ByteArray) (P : List (Nat × Nat)) (p : Nat × Nat) : mendAll s (P ++ [p]) = mendS (mendAll s P) p.1 p.2 := by unfold mendAll; rw [List.foldl_append]; rfl
theorem mendAll_at {n : Nat} : ∀ (P : List (Nat × Nat)) (s : ByteArray), s.size = n → (∀ p ∈ P, p.1 ≤ p.2 ∧ p.2 < n) → (mendAll s P).size = n ∧ ∀ i, isX (mendAll s P) i = (isX s i && !P.any (inP i))
  | [], s, hs, _ => ⟨hs, fun i => by show isX s i = _; simp⟩
  | p :: P, s, hs, h => by
    have hp := h p (List.mem_cons_self ..)
    have hz := mendS_size (s := s) hp.1 (by omega)
    obtain ⟨h1, h2⟩ := mendAll_at P (mendS s p.1 p.2) (hz.trans hs) fun q hq => h q (List.mem_cons_of_mem _ hq)
    refine ⟨h1, fun i => ?_⟩
    show isX (mendAll (mendS s p.1 p.2) P) i = _
    rw [h2, isX_mend hp.1 (by omega), List.any_cons, Bool.not_or, Bool.and_assoc]
theorem contains_x (s : ByteArray) : s.data.toList.contains 120 = true ↔ ∃ i, isX s i = true := by
  rw [List.contains_iff_mem, List.mem_iff_getElem?]
  constructor
  · rintro ⟨i, h⟩; exact ⟨i, by unfold isX; rw [decide_eq_true_iff]; exact h⟩
  · rintro ⟨i, h⟩; exact ⟨i, by unfold isX at h; exact of_decide_eq_true h⟩
/-- no board is broken behind the mending: the patches cover all -/
theorem mended_covers {s : ByteArray} {LL : List (List Int)} (h : ∀ L ∈ LL, okPt s.size L = true) : (!(mendAll s (LL.map ptOf)).data.toList.contains 120) = covers s LL := by
  have hP : ∀ p ∈ LL.map ptOf, p.1 ≤ p.2 ∧ p.2 < s.size := fun p hp => by
    obtain ⟨L, hL, rfl⟩ := List.mem_map.1 hp
    obtain ⟨a, b, rfl, h1, h2⟩ := okPt_two (h L hL)
    exact ⟨by show (a : Int).toNat ≤ (b : Int).toNat; omega, by show (b : Int).toNat < _; omega⟩
  have hX := (mendAll_at (LL.map ptOf) s rfl hP).2
  rw [Bool.eq_iff_iff, covers_iff, Bool.not_eq_true', ← Bool.not_eq_true, contains_x]
  constructor
  · intro h1 i hi
    rw [covK_of h]
    cases hc : (LL.map ptOf).any (inP i)
    · exact absurd ⟨i, by rw [hX, hi, hc]; rfl⟩ h1
    · rfl
  · rintro h1 ⟨i, hi⟩
    rw [hX, Bool.and_eq_true] at hi
    have h2 := h1 i hi.1
    rw [covK_of h] at h2
    rw [h2] at hi
    exact absurd hi.2 (by decide)
end Go.Proofs.Ytfickmbfbmbjcaa
