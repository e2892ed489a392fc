/- Both sides read the same widths. No condition. -/
import Derived.Test.YtbocdhibimcobaaDoorPMath
import Derived.Test.YtbocdhibimcobaaDoorPImpl2
namespace Go.Proofs.YtbocdhibimcobaaDoor
open Go.RowKit

def dg (n : Nat) : List UInt8 := if n < 10 then [UInt8.ofNat (48 + n)] else if n < 100 then [UInt8.ofNat (48 + n / 10), UInt8.ofNat (48 + n % 10)] else [49, 48, 48]
theorem dg_eq {n : Nat} (h : n ≤ 100) : Lib.decDigits n = dg n := by
  unfold dg
  by_cases h1 : n < 10
  · rw [if_pos h1, digits_lo h1]
  · rw [if_neg h1]
    by_cases h2 : n < 100
    · rw [if_pos h2, digits_hi h1, digits_lo (by omega)]; rfl
    · obtain rfl : n = 100 := by omega
      rw [if_neg h2, digits_hi (by decide), digits_hi (by decide), digits_lo (by decide)]; rfl
theorem dg_all : ∀ n : Fin 101, 1 ≤ n.val → ((dg n.val).all (fun c => c != 45) = true ∧ readL (dg n.val) = (n.val : Int) ∧ Lib.atoiAll (dg n.val) = .ok (n.val : Int) ∧ (dg n.val).length ≤ 3) := by decide +kernel
theorem num_facts {x : Int} (h : 1 ≤ x ∧ x ≤ 100) : 45 ∉ (numB x).data.toList ∧ readS (numB x) = x ∧ isNum (numB x) = true ∧ numOf (numB x) = x ∧ (numB x).size ≤ 3 := by
  have e : (numB x).data.toList = dg x.toNat := by rw [numB_list, itoa_num (by omega), dg_eq (by omega)]
  obtain ⟨h1, h2, h3, h4⟩ := dg_all ⟨x.toNat, by omega⟩ (by show 1 ≤ x.toNat; omega)
  simp only at h1 h2 h3 h4
  have ex : ((x.toNat : Nat) : Int) = x := by omega
  rw [ex] at h2 h3
  refine ⟨?_, ?_, ?_, ?_, ?_⟩
  · rw [e]
    intro hm
    have := List.all_eq_true.1 h1 _ hm
    simp at this
  · unfold readS; rw [e]; exact h2
  · unfold isNum; rw [e, h3]
  · unfold numOf; rw [e, h3]
  · have : (numB x).size = (numB x).data.toList.length := by simp
    rw [this, e]; exact h4
theorem txt_together (L : List Int) : (txt L).data.toList = together (L.map numB) := by
  rw [txt_list]
  unfold txtL together
  rw [List.map_map]
  congr 1
theorem okW_one {L : List Int} (h : okW L = true) : ∀ x ∈ L, 1 ≤ x ∧ x ≤ 100 := fun _ hx => allIn_mem (okNums_all h) hx
theorem no45 {L : List Int} (h : okW L = true) : ∀ p ∈ L.map numB, 45 ∉ p.data.toList := by
  intro p hp
  obtain ⟨x, hx, rfl⟩ := List.mem_map.1 hp
  exact (num_facts (okW_one h x hx)).1
theorem txt_size4 {L : List Int} (h : okW L = true) (k : Nat) (hk : k ≤ L.length) : (txt (L.take k)).size ≤ 4 * k ∧ k ≤ (txt (L.take k)).size + 1 := by
  induction k with
  | zero => exact ⟨Nat.le_refl _, Nat.zero_le _⟩
  | succ k ih =>
    obtain ⟨i1, i2⟩ := ih (by omega)
    have hn := (num_facts (okW_one h L[k] (List.getElem_mem (by omega)))).2.2.2.2
    rcases Nat.eq_zero_or_pos k with h0 | h0
    · subst h0
      rw [txt_one (by omega), ByteArray.size_append]
      have : (⟨#[]⟩ : ByteArray).size = 0 := rfl
      omega
    · rw [txt_succ (by omega) h0, ByteArray.size_append, ByteArray.size_append]
      have : (⟨#[45]⟩ : ByteArray).size = 1 := rfl
      omega
theorem txt_ends {L : List Int} (h : okW L = true) : (txt L).size ≤ 48 ∧ L.length ≤ (txt L).size + 1 := by
  have := txt_size4 h L.length (Nat.le_refl _)
  rw [List.take_length] at this
  have h2 := (okNums_len h).2
  omega
theorem split_txt {L : List Int} (h : okW L = true) (k : Nat) (hk : L.length ≤ k + 1) : Lib.splitB ⟨#[45]⟩ 0 k (txt L) = L.map numB := by
  have h1 := (okNums_len h).1
  exact split_of (L.map numB) k (txt L) (by intro e; have := congrArg List.length e; rw [List.length_map, List.length_nil] at this; omega) (no45 h) (by rw [List.length_map]; exact hk) (txt_together L)
theorem map_back {L : List Int} (h : okW L = true) (f : ByteArray → Int) (hf : ∀ x, 1 ≤ x ∧ x ≤ 100 → f (numB x) = x) : (L.map numB).map f = L := by
  rw [List.map_map]
  have : L.map (f ∘ numB) = L.map id := List.map_congr_left fun x hx => hf x (okW_one h x hx)
  rw [this, List.map_id]
theorem read_txt {L : List Int} (h : okW L = true) : readP (txt L) = L := by
  have e : pieces (txt L) 45 = L.map numB := by
    rw [← pieces_split (txt L) ((pieces (txt L) 45).length + L.length) (by omega)]
    exact split_txt h _ (by omega)
  unfold readP
  rw [e]
  exact map_back h readS fun x hx => (num_facts hx).2.1
theorem words_txt {L : List Int} (h : okW L = true) : wordsN (txt L) 13 = L.map numB := by
  have h1 := txt_ends h
  have h2 := (okNums_len h).2
  unfold wordsN
  exact split_txt h _ (by omega)
theorem nums_txt {L : List Int} (h : okW L = true) : numsN (txt L) 13 = L := by
  unfold numsN
  rw [words_txt h]
  exact map_back h numOf fun x hx => (num_facts hx).2.2.2.1
theorem okPS_txt {L : List Int} (h : okW L = true) : okPS (txt L) = true := by
  unfold okPS
  rw [read_txt h, h, decide_eq_true (txt_ends h).1, decide_eq_true rfl]; rfl
theorem okPI_txt {L : List Int} (h : okW L = true) : okPI (txt L) = true := by
  unfold okPI okNN
  rw [nums_txt h, h, words_txt h, decide_eq_true rfl]
  have : (L.map numB).all isNum = true := by
    rw [List.all_eq_true]
    intro p hp
    obtain ⟨x, hx, rfl⟩ := List.mem_map.1 hp
    exact (num_facts (okW_one h x hx)).2.2.1
  rw [this]; rfl
/-- BOTH READ THE SAME. -/
theorem parse_same (s : ByteArray) : okPI s = okPS s ∧ resPI s = resPS s := by
  cases h : okPS s
  · cases h2 : okPI s
    · exact ⟨rfl, by unfold resPI resPS; rw [h, h2]; rfl⟩
    · unfold okPI okNN at h2
      rw [Bool.and_eq_true, Bool.and_eq_true, decide_eq_true_iff] at h2
      have := okPS_txt h2.2
      rw [h2.1.2, h] at this
      cases this
  · have hh := h
    unfold okPS at hh
    rw [Bool.and_eq_true, Bool.and_eq_true, decide_eq_true_iff, decide_eq_true_iff] at hh
    obtain ⟨-, h1, h2⟩ := hh
    have h3 := okPI_txt h1
    have h4 := nums_txt h1
    rw [h2] at h3 h4
    exact ⟨h3, by unfold resPI resPS; rw [h, h3, h4]⟩
theorem resPS_len (s : ByteArray) : (resPS s).length ≤ 1048576 := by
  unfold resPS
  split
  · next h =>
    unfold okPS at h
    rw [Bool.and_eq_true, Bool.and_eq_true] at h
    have := (okNums_len h.2.1).2
    omega
  · exact Nat.zero_le _
theorem implParseWidths_any (s : ByteArray) (w : World) (hs : s.size ≤ 1048576) (he : Env w.heap.size w) :
    Calls Tryd.prog 22 #[.string s] w fun e w' => ∃ v, e = .returned (.tuple #[v, .bool (okPS s)]) ∧ OwnInts w' w.heap.size 3 v (resPS s) ∧ Below w.heap.size w w' := by
  obtain ⟨e1, e2⟩ := parse_same s
  rw [← e1, ← e2]
  exact implParse_any s w hs he
end Go.Proofs.YtbocdhibimcobaaDoor
