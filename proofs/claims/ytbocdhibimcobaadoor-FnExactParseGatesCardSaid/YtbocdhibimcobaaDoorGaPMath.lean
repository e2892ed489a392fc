/- Both sides read the same widths: a text is read where it is the text of widths, and as these. No condition. -/
import Derived.Test.YtbocdhibimcobaaDoorGaPImpl
namespace Go.Proofs.YtbocdhibimcobaaDoor.Ga
open Go.RowKit

theorem ib_no : ∀ {l : List UInt8}, 124 ∉ l → Lib.indexByte l 124 = -1
  | [], _ => rfl
  | b :: l, h => by
    have h1 : b ≠ 124 := fun e => h (by rw [e]; exact List.mem_cons_self ..)
    have h2 : 124 ∉ l := fun e => h (List.mem_cons_of_mem _ e)
    unfold Lib.indexByte
    rw [ib_no h2]
    simp [h1]
theorem ib_at : ∀ {x r : List UInt8}, 124 ∉ x → Lib.indexByte (x ++ 124 :: r) 124 = x.length
  | [], r, _ => by simp [Lib.indexByte]
  | b :: l, r, h => by
    have h1 : b ≠ 124 := fun e => h (by rw [e]; exact List.mem_cons_self ..)
    have h2 : 124 ∉ l := fun e => h (List.mem_cons_of_mem _ e)
    rw [List.cons_append]
    unfold Lib.indexByte
    rw [ib_at h2]
    simp [h1]
theorem ib_sep (s : ByteArray) : Lib.indexB s ⟨#[124]⟩ = Lib.indexByte s.data.toList 124 := by
  unfold Lib.indexB
  exact Lib.index_one s.data.toList 124
theorem ext_list (s : ByteArray) (i j : Nat) : (s.extract i j).data.toList = (s.data.toList.take j).drop i := by
  simp [ByteArray.data_extract, Array.toList_extract, List.drop_take]
/-- the pieces, put together -/
def together (P : List ByteArray) : List UInt8 := Lib.join (P.map (·.data.toList)) [124]
theorem together_cons (x y : ByteArray) (r : List ByteArray) : together (x :: y :: r) = x.data.toList ++ 124 :: together (y :: r) := by
  unfold together
  rw [List.map_cons, List.map_cons, Lib.join_cons, Lib.join_cons]
  simp [Lib.joinTail]
theorem split_of (P : List ByteArray) : ∀ (k : Nat) (s : ByteArray), P ≠ [] → (∀ p ∈ P, 124 ∉ p.data.toList) → P.length ≤ k + 1 → s.data.toList = together P → Lib.splitB ⟨#[124]⟩ 0 k s = P := by
  induction P with
  | nil => intro k s h; exact absurd rfl h
  | cons x r ih =>
    intro k s _ hno hl hs
    cases r with
    | nil =>
      have e : s = x := bytes_ext (by rw [hs]; unfold together; rw [List.map_cons, List.map_nil, Lib.join_one])
      rw [Lib.splitB_miss, e]
      rw [ib_sep, e]
      exact ib_no (hno x (List.mem_cons_self ..))
    | cons y r =>
      obtain ⟨k, rfl⟩ : ∃ k', k = k' + 1 := ⟨k - 1, by simp at hl; omega⟩
      rw [together_cons] at hs
      have hi : Lib.indexB s ⟨#[124]⟩ = (x.size : Nat) := by
        rw [ib_sep, hs, ib_at (hno x (List.mem_cons_self ..))]
        simp
      have hz : x.data.toList.length = x.size := by simp
      rw [Lib.splitB_hit _ _ _ _ x.size hi]
      have e1 : s.extract 0 (x.size + 0) = x := by
        apply bytes_ext
        rw [ext_list, hs, List.drop_zero, Nat.add_zero, ← hz, List.take_left]
      have e2 : Lib.splitB ⟨#[124]⟩ 0 k (s.extract (x.size + (⟨#[124]⟩ : ByteArray).size) s.size) = y :: r := by
        apply ih k _ (by simp) (fun p hp => hno p (List.mem_cons_of_mem _ hp)) (by simp at hl ⊢; omega)
        have h1 : (⟨#[124]⟩ : ByteArray).size = 1 := rfl
        rw [ext_list, h1, List.take_of_length_le (by simp), hs, ← hz, List.drop_append]
        simp
      rw [e1, e2]
/-- what the model's split has seen by k -/
theorem spl_inv (s : ByteArray) (k : Nat) (hk : k ≤ s.size) : together ((spl s 124 k).1 ++ [s.extract (spl s 124 k).2 k]) = s.data.toList.take k ∧ ∀ p ∈ (spl s 124 k).1 ++ [s.extract (spl s 124 k).2 k], 124 ∉ p.data.toList := by
  induction k with
  | zero =>
    have e : (s.extract 0 0).data.toList = [] := by rw [ext_list]; simp
    constructor
    · show together [s.extract 0 0] = _
      unfold together
      rw [List.map_cons, List.map_nil, Lib.join_one, e]; simp
    · intro p hp
      have : p = s.extract 0 0 := by simpa [spl] using hp
      rw [this, e]; simp
  | succ k ih =>
    obtain ⟨i1, i2⟩ := ih (by omega)
    have hlt : k < s.size := by omega
    have hle := spl_le s 124 k
    have htk : s.data.toList.take (k + 1) = s.data.toList.take k ++ [s[k]] := by
      rw [List.take_succ_eq_append_getElem (by simpa using hlt)]; simp; rfl
    have hmap : ∀ (P : List ByteArray) (x : ByteArray), P ≠ [] → together (P ++ [x]) = together P ++ [124] ++ x.data.toList := by
      intro P x hP
      unfold together
      rw [List.map_append, List.map_cons, List.map_nil, join_snoc _ _ _ (by simpa using hP)]
    by_cases he : s[k] = 124
    · rw [spl_yes hlt he]
      have e : (s.extract (k + 1) (k + 1)).data.toList = [] := by rw [ext_list]; simp
      constructor
      · rw [hmap _ _ (by simp), i1, htk, he, e]; simp
      · intro p hp
        rcases List.mem_append.1 hp with h | h
        · exact i2 p h
        · rw [List.mem_singleton.1 h, e]; simp
    · rw [spl_no hlt he]
      have e : (s.extract (spl s 124 k).2 (k + 1)).data.toList = (s.extract (spl s 124 k).2 k).data.toList ++ [s[k]] := by
        rw [ext_list, ext_list, htk, List.drop_append_of_le_length (by simp; omega)]
      constructor
      · cases hP : (spl s 124 k).1 with
        | nil =>
          rw [hP] at i1
          rw [List.nil_append] at i1 ⊢
          unfold together at i1 ⊢
          rw [List.map_cons, List.map_nil, Lib.join_one] at i1 ⊢
          rw [e, i1, htk]
        | cons a r =>
          rw [hP] at i1
          rw [hmap _ _ (by simp)] at i1 ⊢
          rw [e, ← List.append_assoc, i1, htk]
      · intro p hp
        rcases List.mem_append.1 hp with h | h
        · exact i2 p (List.mem_append_left _ h)
        · rw [List.mem_singleton.1 h, e]
          intro hm
          rcases List.mem_append.1 hm with h1 | h1
          · exact i2 _ (List.mem_append_right _ (List.mem_singleton.2 rfl)) h1
          · exact he (List.mem_singleton.1 h1).symm
theorem pieces_split (s : ByteArray) (k : Nat) (h : (pieces s 124).length ≤ k + 1) : Lib.splitB ⟨#[124]⟩ 0 k s = pieces s 124 := by
  obtain ⟨h1, h2⟩ := spl_inv s s.size (Nat.le_refl _)
  exact split_of (pieces s 124) k s (by unfold pieces; simp) h2 h (by
    have e : s.data.toList.take s.size = s.data.toList := List.take_of_length_le (by simp)
    rw [e] at h1
    exact h1.symm)
end Go.Proofs.YtbocdhibimcobaaDoor.Ga
