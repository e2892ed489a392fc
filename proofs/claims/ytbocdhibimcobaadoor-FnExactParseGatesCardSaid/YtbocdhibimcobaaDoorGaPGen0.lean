/- Texts of numbers from 0 to 99: what both sides read of them. No condition. -/
import Derived.Test.YtbocdhibimcobaaDoorGaPMath
namespace Go.Proofs.YtbocdhibimcobaaDoor.Ga
open Go.RowKit

def dg2 (n : Nat) : List UInt8 := if n < 10 then [UInt8.ofNat (48 + n)] else [UInt8.ofNat (48 + n / 10), UInt8.ofNat (48 + n % 10)]
theorem dg2_eq {n : Nat} (h : n ≤ 99) : Lib.decDigits n = dg2 n := by
  unfold dg2
  by_cases h1 : n < 10
  · rw [if_pos h1, digits_lo h1]
  · rw [if_neg h1, digits_hi h1, digits_lo (by omega)]; rfl
theorem dg2_all : ∀ n : Fin 100, ((dg2 n.val).all (fun c => c != 124) = true ∧ readL (dg2 n.val) = (n.val : Int) ∧ Lib.atoiAll (dg2 n.val) = .ok (n.val : Int) ∧ (dg2 n.val).length ≤ 2) := by decide +kernel
theorem num2_facts {x : Int} (h : 0 ≤ x ∧ x ≤ 99) : 124 ∉ (numB x).data.toList ∧ readS (numB x) = x ∧ isNum (numB x) = true ∧ numOf (numB x) = x ∧ (numB x).size ≤ 2 := by
  have e : (numB x).data.toList = dg2 x.toNat := by rw [numB_list, itoa_num (by omega), dg2_eq (by omega)]
  obtain ⟨h1, h2, h3, h4⟩ := dg2_all ⟨x.toNat, by omega⟩
  simp only at h1 h2 h3 h4
  have ex : ((x.toNat : Nat) : Int) = x := by omega
  rw [ex] at h2 h3
  refine ⟨?_, ?_, ?_, ?_, ?_⟩
  · rw [e]
    intro hm
    have := List.all_eq_true.1 h1 _ hm
    simp at this
  · unfold readS; rw [e]; exact h2
  · unfold isNum; rw [e, h3]
  · unfold numOf; rw [e, h3]
  · have : (numB x).size = (numB x).data.toList.length := by simp
    rw [this, e]; exact h4
theorem txt_pieces (L : List Int) : (txt L).data.toList = together (L.map numB) := by
  rw [txt_list]
  unfold txtL together
  rw [List.map_map]
  congr 1
/-- a list of one and more numbers from 0 to 99 -/
def Num2 (L : List Int) : Prop := 1 ≤ L.length ∧ ∀ x ∈ L, 0 ≤ x ∧ x ≤ 99
theorem few2 {L : List Int} (h : Num2 L) (hl : L.length ≤ 1000) : Few L := ⟨h.1, hl, fun x hx => by have := h.2 x hx; omega⟩
theorem no45_2 {L : List Int} (h : Num2 L) : ∀ p ∈ L.map numB, 124 ∉ p.data.toList := by
  intro p hp
  obtain ⟨x, hx, rfl⟩ := List.mem_map.1 hp
  exact (num2_facts (h.2 x hx)).1
theorem txt2_size {L : List Int} (h : Num2 L) (k : Nat) (hk : k ≤ L.length) : (txt (L.take k)).size ≤ 3 * k - 1 ∧ k ≤ (txt (L.take k)).size + 1 := by
  induction k with
  | zero => exact ⟨Nat.le_refl _, Nat.zero_le _⟩
  | succ k ih =>
    obtain ⟨i1, i2⟩ := ih (by omega)
    have hn := (num2_facts (h.2 L[k] (List.getElem_mem (by omega)))).2.2.2.2
    rcases Nat.eq_zero_or_pos k with h0 | h0
    · subst h0
      rw [txt_one (by omega), ByteArray.size_append]
      have : (⟨#[]⟩ : ByteArray).size = 0 := rfl
      omega
    · rw [txt_succ (by omega) h0, ByteArray.size_append, ByteArray.size_append]
      have : (⟨#[124]⟩ : ByteArray).size = 1 := rfl
      omega
theorem txt2_ends {L : List Int} (h : Num2 L) : (txt L).size ≤ 3 * L.length - 1 ∧ L.length ≤ (txt L).size + 1 := by
  have := txt2_size h L.length (Nat.le_refl _)
  rwa [List.take_length] at this
theorem split2 {L : List Int} (h : Num2 L) (k : Nat) (hk : L.length ≤ k + 1) : Lib.splitB ⟨#[124]⟩ 0 k (txt L) = L.map numB :=
  split_of (L.map numB) k (txt L) (by intro e; have := congrArg List.length e; rw [List.length_map, List.length_nil] at this; have := h.1; omega) (no45_2 h) (by rw [List.length_map]; exact hk) (txt_pieces L)
theorem map2 {L : List Int} (h : Num2 L) (f : ByteArray → Int) (hf : ∀ x, 0 ≤ x ∧ x ≤ 99 → f (numB x) = x) : (L.map numB).map f = L := by
  rw [List.map_map]
  have : L.map (f ∘ numB) = L.map id := List.map_congr_left fun x hx => hf x (h.2 x hx)
  rw [this, List.map_id]
theorem read2 {L : List Int} (h : Num2 L) : readP (txt L) = L := by
  have e : pieces (txt L) 124 = L.map numB := by
    rw [← pieces_split (txt L) ((pieces (txt L) 124).length + L.length) (by omega)]
    exact split2 h _ (by omega)
  unfold readP
  rw [e]
  exact map2 h readS fun x hx => (num2_facts hx).2.1
theorem words2 {L : List Int} (h : Num2 L) (n : Nat) (hn : L.length < n) : wordsN (txt L) n = L.map numB := by
  have h1 := txt2_ends h
  unfold wordsN
  exact split2 h _ (by omega)
theorem nums2 {L : List Int} (h : Num2 L) (n : Nat) (hn : L.length < n) : numsN (txt L) n = L := by
  unfold numsN
  rw [words2 h n hn]
  exact map2 h numOf fun x hx => (num2_facts hx).2.2.2.1
theorem okNN2 {L : List Int} (h : Num2 L) (n : Nat) (hn : L.length < n) : okNN (txt L) n = true := by
  unfold okNN
  rw [nums2 h n hn, words2 h n hn, decide_eq_true rfl]
  have : (L.map numB).all isNum = true := by
    rw [List.all_eq_true]
    intro p hp
    obtain ⟨x, hx, rfl⟩ := List.mem_map.1 hp
    exact (num2_facts (h.2 x hx)).2.2.1
  rw [this]; rfl

/-- what the model reads as a number is that number's numeral -/
theorem val_digits : ∀ (n : Nat) (l : List UInt8), l.length = n + 1 → l.head? ≠ some 48 → l.all digB = true → 0 < valL l ∧ Lib.decDigits (valL l).toNat = l
  | 0, l, hl, hz, hd => by
    match l, hl with
    | [c], _ =>
      have h1 : digB c = true := by simpa using hd
      have h2 := dig_of h1
      have e : valL [c] = (c.toNat : Int) - 48 := by simp [valL]
      have hc : c.toNat ≠ 48 := fun h => hz (by rw [List.head?_cons]; congr 1; exact UInt8.toNat.inj h)
      refine ⟨by omega, ?_⟩
      rw [e, digits_lo (by omega)]
      congr 1
      apply UInt8.toNat.inj
      rw [UInt8.toNat_ofNat']
      omega
  | n + 1, l, hl, hz, hd => by
    have hne : l ≠ [] := by intro h; rw [h] at hl; cases hl
    obtain ⟨l', c, rfl⟩ : ∃ l' c, l = l' ++ [c] := ⟨l.dropLast, l.getLast hne, (List.dropLast_concat_getLast hne).symm⟩
    have hl' : l'.length = n + 1 := by rw [List.length_append, List.length_singleton] at hl; omega
    have hd' : l'.all digB = true ∧ digB c = true := by rw [List.all_append, Bool.and_eq_true] at hd; simpa using hd
    have hz' : l'.head? ≠ some 48 := by
      intro h
      apply hz
      match l', hl' with
      | a :: r, _ => simpa using h
    obtain ⟨i1, i2⟩ := val_digits n l' hl' hz' hd'.1
    have h2 := dig_of hd'.2
    rw [val_snoc]
    refine ⟨by omega, ?_⟩
    rw [digits_hi (by omega)]
    have e1 : (10 * valL l' + ((c.toNat : Int) - 48)).toNat / 10 = (valL l').toNat := by omega
    have e2 : (10 * valL l' + ((c.toNat : Int) - 48)).toNat % 10 = c.toNat - 48 := by omega
    rw [e1, e2, i2]
    congr 2
    apply UInt8.toNat.inj
    rw [UInt8.toNat_ofNat']
    omega
theorem read_back {p : ByteArray} (h : 0 ≤ readS p) : numB (readS p) = p := by
  unfold readS at *
  apply bytes_ext
  rw [numB_list, itoa_num (by omega)]
  unfold readL at *
  split at h
  · next hc =>
    rw [if_pos hc]
    obtain ⟨⟨c1, c2⟩, c3, c4⟩ := hc
    by_cases hz : p.data.toList.head? = some 48
    · have h1 : p.data.toList.length = 1 := by
        rcases Nat.lt_or_ge 1 p.data.toList.length with h1 | h1
        · exact absurd ⟨hz, h1⟩ c3
        · omega
      match hp : p.data.toList, h1 with
      | [c], _ =>
        rw [hp] at hz
        have : c = 48 := by simpa using hz
        subst this
        have e : valL [48] = 0 := by decide
        rw [e]
        decide +kernel
    · obtain ⟨n, hn⟩ : ∃ n, p.data.toList.length = n + 1 := ⟨p.data.toList.length - 1, by omega⟩
      exact (val_digits n _ hn hz c4).2
  · omega
theorem pieces_back (s : ByteArray) : together (pieces s 124) = s.data.toList := by
  obtain ⟨h1, -⟩ := spl_inv s s.size (Nat.le_refl _)
  have e : s.data.toList.take s.size = s.data.toList := List.take_of_length_le (by simp)
  rw [e] at h1
  exact h1
/-- a text whose pieces are read as numbers is the text of these -/
theorem readP_back {s : ByteArray} (h : ∀ x ∈ readP s, 0 ≤ x) : txt (readP s) = s := by
  apply bytes_ext
  rw [txt_pieces, ← pieces_back s]
  congr 1
  unfold readP
  rw [List.map_map]
  have : (pieces s 124).map (numB ∘ readS) = (pieces s 124).map id := List.map_congr_left fun p hp => read_back (h _ (by unfold readP; exact List.mem_map_of_mem hp))
  rw [this, List.map_id]
end Go.Proofs.YtbocdhibimcobaaDoor.Ga
