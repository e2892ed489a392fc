/- Both sides read the same strokes: a text is read where it is the text of strokes, and as these. No condition. -/
import Derived.Test.YtnijedmnjmeciaaDoorStCut
import Derived.Lib.IndexMore
namespace Go.Proofs.YtnijedmnjmeciaaDoor
open Go.RowKit
open Tx (spl pieces spl_len readL)

def isNum (p : ByteArray) : Bool := match Lib.atoiAll p.data.toList with | .ok _ => true | _ => false
def numOf (p : ByteArray) : Int := match Lib.atoiAll p.data.toList with | .ok v => v | _ => 0
def readS (p : ByteArray) : Int := readL p.data.toList
/-- a stroke as the model reads it; as the program does -/
def stkS (t : ByteArray) : Option Strk :=
  match pieces t 45 with
  | [a, b] => if b.size = 0 then none else some ⟨readS a, readS (b.extract 0 (b.size - 1)), b.extract (b.size - 1) b.size⟩
  | _ => none
def cutA (t : ByteArray) : ByteArray := ⟨(Lib.cut t.data.toList [45]).1.toArray⟩
def cutB (t : ByteArray) : ByteArray := ⟨(Lib.cut t.data.toList [45]).2.1.toArray⟩
def cutF (t : ByteArray) : Bool := (Lib.cut t.data.toList [45]).2.2
def stkI (t : ByteArray) : Option Strk :=
  if cutF t = false ∨ (cutB t).size = 0 then none
  else if isNum (cutA t) = true ∧ isNum ((cutB t).extract 0 ((cutB t).size - 1)) = true then
    some ⟨numOf (cutA t), numOf ((cutB t).extract 0 ((cutB t).size - 1)), (cutB t).extract ((cutB t).size - 1) (cutB t).size⟩
  else none

def dgS (n : Nat) : List UInt8 := if n < 10 then [UInt8.ofNat (48 + n)] else [UInt8.ofNat (48 + n / 10), UInt8.ofNat (48 + n % 10)]
theorem dgS_eq {n : Nat} (h : n < 20) : Lib.decDigits n = dgS n := by
  unfold dgS
  by_cases h1 : n < 10
  · rw [if_pos h1, Tx.digits_lo h1]
  · rw [if_neg h1, Tx.digits_hi h1, Tx.digits_lo (by omega)]; rfl
/-- a stroke's text, by its numbers -/
def lineL (f t c : Nat) : List UInt8 := dgS f ++ [45] ++ dgS t ++ [UInt8.ofNat (97 + c)]
def Strk.beq (a b : Strk) : Bool := a.f == b.f && a.t == b.t && a.c.data.toList == b.c.data.toList
def optEq (a : Option Strk) (b : Strk) : Bool := match a with | some x => x.beq b | none => false
theorem optEq_eq {a : Option Strk} {b : Strk} (h : optEq a b = true) : a = some b := by
  unfold optEq at h
  cases a with
  | none => cases h
  | some x =>
    obtain ⟨f, t, c⟩ := x
    obtain ⟨f', t', c'⟩ := b
    simp only [Strk.beq, Bool.and_eq_true, beq_iff_eq] at h
    obtain ⟨⟨h1, h2⟩, h3⟩ := h
    subst h1 h2
    rw [bytes_ext h3]
def lineB (f t c : Nat) : ByteArray := ⟨(lineL f t c).toArray⟩
def lineS (f t c : Nat) : Strk := ⟨(f : Int), (t : Int), ⟨#[UInt8.ofNat (97 + c)]⟩⟩
def lineOk (f t c : Nat) : Bool := optEq (stkS (lineB f t c)) (lineS f t c) && optEq (stkI (lineB f t c)) (lineS f t c) && (lineL f t c).all (fun b => b != 44) && decide ((lineL f t c).length ≤ 6) && decide (1 ≤ (lineL f t c).length)
theorem line_all : ∀ f t : Fin 20, ∀ c : Fin 5, lineOk f.val t.val c.val = true := by decide +kernel
theorem col_of {c : ByteArray} (h : isCol c = true) : ∃ k, k < 5 ∧ c = ⟨#[UInt8.ofNat (97 + k)]⟩ := by
  unfold isCol at h
  split at h
  · rename_i b hb
    unfold colB at h
    rw [decide_eq_true_iff] at h
    refine ⟨b.toNat - 97, by omega, bytes_ext ?_⟩
    rw [hb]
    show [b] = [UInt8.ofNat (97 + (b.toNat - 97))]
    rw [show 97 + (b.toNat - 97) = b.toNat by omega, UInt8.ofNat_toNat]
  · cases h
theorem line_of {x : Strk} (h : okS 20 x = true) : ∃ f t c : Nat, f < 20 ∧ t < 20 ∧ c < 5 ∧ x = lineS f t c ∧ pcB x = lineB f t c := by
  obtain ⟨h1, h2, h3, h4, -⟩ := okS_at h
  unfold okS okStroke at h
  rw [Bool.and_eq_true] at h
  obtain ⟨k, hk, hc⟩ := col_of h.2
  obtain ⟨f, t, c⟩ := x
  simp only at h1 h2 h3 h4 hc
  refine ⟨f.toNat, t.toNat, k, by omega, by omega, hk, ?_, ?_⟩
  · unfold lineS; rw [hc, Int.toNat_of_nonneg h1, Int.toNat_of_nonneg h3]
  · apply bytes_ext
    unfold pcB nB lineB lineL
    simp only
    rw [append_list, append_list, append_list, hc, dgS_eq (by omega), dgS_eq (by omega)]
theorem pcB_facts {x : Strk} (h : okS 20 x = true) : stkS (pcB x) = some x ∧ stkI (pcB x) = some x ∧ 44 ∉ (pcB x).data.toList ∧ (pcB x).size ≤ 6 ∧ 1 ≤ (pcB x).size := by
  obtain ⟨f, t, c, hf, ht, hc, rfl, e⟩ := line_of h
  have := line_all ⟨f, hf⟩ ⟨t, ht⟩ ⟨c, hc⟩
  unfold lineOk at this
  simp only [Bool.and_eq_true, decide_eq_true_iff] at this
  obtain ⟨⟨⟨⟨a1, a2⟩, a3⟩, a4⟩, a5⟩ := this
  rw [e]
  have hz : (lineB f t c).size = (lineL f t c).length := by show (lineL f t c).toArray.size = _; simp
  refine ⟨optEq_eq a1, optEq_eq a2, ?_, by omega, by omega⟩
  intro hm
  have := List.all_eq_true.1 a3 44 (by simpa [lineB] using hm)
  simp at this
theorem txB_ends {L : List Strk} (hx : ∀ k (hk : k < L.length), okS 20 L[k] = true) (k : Nat) (hk : k ≤ L.length) : (txB (L.take k)).size ≤ 7 * k ∧ k ≤ (txB (L.take k)).size := by
  induction k with
  | zero => exact ⟨Nat.zero_le _, Nat.zero_le _⟩
  | succ k ih =>
    obtain ⟨i1, i2⟩ := ih (by omega)
    obtain ⟨-, -, -, n1, n2⟩ := pcB_facts (hx k (by omega))
    rcases Nat.eq_zero_or_pos k with h0 | h0
    · subst h0
      rw [txB_one (by omega), ByteArray.size_append]
      have : (⟨#[]⟩ : ByteArray).size = 0 := rfl
      omega
    · rw [txB_succ (by omega) h0, ByteArray.size_append, ByteArray.size_append]
      have : (⟨#[44]⟩ : ByteArray).size = 1 := rfl
      omega
theorem txB_pieces (L : List Strk) : (txB L).data.toList = Q.together (L.map pcB) := by
  rw [txB_list]
  unfold Q.together
  rw [List.map_map]
  rfl
theorem no44 {L : List Strk} (hx : ∀ k (hk : k < L.length), okS 20 L[k] = true) : ∀ p ∈ L.map pcB, 44 ∉ p.data.toList := by
  intro p hp
  obtain ⟨x, hx', rfl⟩ := List.mem_map.1 hp
  obtain ⟨k, hk, rfl⟩ := List.mem_iff_getElem.1 hx'
  exact (pcB_facts (hx k hk)).2.2.1
theorem splitB_txB {L : List Strk} (hx : ∀ k (hk : k < L.length), okS 20 L[k] = true) (h0 : L ≠ []) (k : Nat) (hk : L.length ≤ k + 1) : Lib.splitB ⟨#[44]⟩ 0 k (txB L) = L.map pcB :=
  Q.split_of (L.map pcB) k (txB L) (by simpa using h0) (no44 hx) (by simpa using hk) (txB_pieces L)
theorem pieces44_len (s : ByteArray) : 1 ≤ (pieces s 44).length ∧ (pieces s 44).length ≤ s.size + 1 := by
  unfold pieces
  rw [List.length_append]
  have := spl_len s 44 s.size
  simp
  omega
theorem pieces_txB {L : List Strk} (hx : ∀ k (hk : k < L.length), okS 20 L[k] = true) (h0 : L ≠ []) : pieces (txB L) 44 = L.map pcB := by
  have hz := txB_ends hx L.length (Nat.le_refl _)
  rw [List.take_length] at hz
  rw [← Q.pieces_split (txB L) (txB L).size (pieces44_len _).2]
  exact splitB_txB hx h0 _ (by omega)

/-- words read by g, and their text the given one -/
def okG (P : List ByteArray) (g : ByteArray → Option Strk) (s : ByteArray) : Bool := P.all (fun p => (g p).isSome) && (okList 20 (P.filterMap g) && ((txB (P.filterMap g)).toList == s.toList))
theorem okG_to {P : List ByteArray} {g : ByteArray → Option Strk} {s : ByteArray} (h : okG P g s = true) : okList 20 (P.filterMap g) = true ∧ txB (P.filterMap g) = s := by
  unfold okG at h
  rw [Bool.and_eq_true, Bool.and_eq_true, beq_iff_eq] at h
  exact ⟨h.2.1, bytes_ext (by rw [← ByteArray.toList_eq, ← ByteArray.toList_eq]; exact h.2.2)⟩
theorem filterMap_back {L : List Strk} {g : ByteArray → Option Strk} (hg : ∀ x ∈ L, g (pcB x) = some x) : (L.map pcB).filterMap g = L ∧ (L.map pcB).all (fun p => (g p).isSome) = true := by
  induction L with
  | nil => exact ⟨rfl, rfl⟩
  | cons x r ih =>
    obtain ⟨i1, i2⟩ := ih fun y hy => hg y (List.mem_cons_of_mem _ hy)
    have := hg x (List.mem_cons_self ..)
    rw [List.map_cons, List.filterMap_cons, List.all_cons, this, i1, i2]
    exact ⟨rfl, rfl⟩
theorem okG_from {L : List Strk} {g : ByteArray → Option Strk} (h : okList 20 L = true) (hg : ∀ x ∈ L, g (pcB x) = some x) : okG (L.map pcB) g (txB L) = true ∧ (L.map pcB).filterMap g = L := by
  obtain ⟨e1, e2⟩ := filterMap_back hg
  refine ⟨?_, e1⟩
  unfold okG
  rw [e1, e2, h]
  simp
def wI (s : ByteArray) : List ByteArray := Lib.splitB ⟨#[44]⟩ 0 (min 41 (s.size + 1) - 1) s
def okPS (s : ByteArray) : Bool := decide (s.size = 0) || (decide (s.size ≤ 280) && okG (pieces s 44) stkS s)
def resPS (s : ByteArray) : List Strk := if s.size = 0 then [] else if okPS s = true then (pieces s 44).filterMap stkS else []
def okPI (s : ByteArray) : Bool := decide (s.size = 0) || okG (wI s) stkI s
def resPI (s : ByteArray) : List Strk := if s.size = 0 then [] else if okPI s = true then (wI s).filterMap stkI else []
theorem txB_ne {L : List Strk} {s : ByteArray} (h : txB L = s) (h0 : s.size ≠ 0) : L ≠ [] := by
  rintro rfl
  subst h
  exact h0 rfl
theorem both_read {L : List Strk} {s : ByteArray} (h : okList 20 L = true) (e : txB L = s) (h0 : s.size ≠ 0) : (okPS s = true ∧ resPS s = L) ∧ okPI s = true ∧ resPI s = L := by
  have hne := txB_ne e h0
  obtain ⟨h40, hx⟩ := okList_at h
  have hz := txB_ends hx L.length (Nat.le_refl _)
  rw [List.take_length] at hz
  have hgS : ∀ x ∈ L, stkS (pcB x) = some x := fun x hx' => by
    obtain ⟨k, hk, rfl⟩ := List.mem_iff_getElem.1 hx'
    exact (pcB_facts (hx k hk)).1
  have hgI : ∀ x ∈ L, stkI (pcB x) = some x := fun x hx' => by
    obtain ⟨k, hk, rfl⟩ := List.mem_iff_getElem.1 hx'
    exact (pcB_facts (hx k hk)).2.1
  obtain ⟨s1, s2⟩ := okG_from h hgS
  obtain ⟨t1, t2⟩ := okG_from h hgI
  have hP : pieces s 44 = L.map pcB := by rw [← e]; exact pieces_txB hx hne
  have hW : wI s = L.map pcB := by
    unfold wI
    rw [← e]
    exact splitB_txB hx hne _ (by omega)
  rw [e] at s1 t1 hz
  have oS : okPS s = true := by unfold okPS; rw [hP, s1, decide_eq_true (show s.size ≤ 280 by omega)]; simp
  have oI : okPI s = true := by unfold okPI; rw [hW, t1]; simp
  exact ⟨⟨oS, by unfold resPS; rw [if_neg h0, if_pos oS, hP, s2]⟩, oI, by unfold resPI; rw [if_neg h0, if_pos oI, hW, t2]⟩
theorem okPS_to {s : ByteArray} (h0 : s.size ≠ 0) (h : okPS s = true) : ∃ L, okList 20 L = true ∧ txB L = s := by
  unfold okPS at h
  rw [decide_eq_false h0, Bool.false_or, Bool.and_eq_true] at h
  exact ⟨_, okG_to h.2⟩
theorem okPI_to {s : ByteArray} (h0 : s.size ≠ 0) (h : okPI s = true) : ∃ L, okList 20 L = true ∧ txB L = s := by
  unfold okPI at h
  rw [decide_eq_false h0, Bool.false_or] at h
  exact ⟨_, okG_to h⟩
theorem parse_same (s : ByteArray) : okPI s = okPS s ∧ resPI s = resPS s := by
  by_cases h0 : s.size = 0
  · unfold okPI okPS resPI resPS
    rw [if_pos h0, if_pos h0, decide_eq_true h0]
    exact ⟨rfl, rfl⟩
  · cases hS : okPS s
    · cases hI : okPI s
      · refine ⟨rfl, ?_⟩
        unfold resPI resPS
        rw [hS, hI]
        simp
      · obtain ⟨L, h1, h2⟩ := okPI_to h0 hI
        rw [(both_read h1 h2 h0).1.1] at hS
        cases hS
    · obtain ⟨L, h1, h2⟩ := okPS_to h0 hS
      obtain ⟨⟨-, e1⟩, e2, e3⟩ := both_read h1 h2 h0
      exact ⟨by rw [e2], by rw [e3, e1]⟩
theorem resPS_len (s : ByteArray) : (resPS s).length ≤ 40 := by
  by_cases h0 : s.size = 0
  · unfold resPS; rw [if_pos h0]; exact Nat.zero_le _
  · cases hS : okPS s
    · unfold resPS; rw [if_neg h0, hS]; exact Nat.zero_le _
    · obtain ⟨L, h1, h2⟩ := okPS_to h0 hS
      rw [(both_read h1 h2 h0).1.2]
      exact (okList_at h1).1
end Go.Proofs.YtnijedmnjmeciaaDoor
