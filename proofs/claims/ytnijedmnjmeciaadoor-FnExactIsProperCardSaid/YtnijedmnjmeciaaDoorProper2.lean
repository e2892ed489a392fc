/- IsProper: the colours of a fence, both sides, and the law's walk. No condition but the text's length. -/
import Derived.Test.YtnijedmnjmeciaaDoorProper
namespace Go.Proofs.YtnijedmnjmeciaaDoor
open Go.RowKit

theorem filter_dropWhile {p : UInt8 → Bool} : ∀ l : List UInt8, (l.dropWhile p).filter (fun c => !p c) = l.filter (fun c => !p c)
  | [] => rfl
  | a :: l => by
    rw [List.dropWhile_cons]
    cases h : p a
    · rfl
    · rw [if_pos rfl, filter_dropWhile l, List.filter_cons, h]; rfl
theorem dropWhile_all {p : UInt8 → Bool} : ∀ {l : List UInt8}, (∀ c ∈ l, p c = true) → l.dropWhile p = []
  | [], _ => rfl
  | a :: l, h => by
    rw [List.dropWhile_cons, if_pos (h a (List.mem_cons_self ..))]
    exact dropWhile_all fun c hc => h c (List.mem_cons_of_mem _ hc)
theorem trimS_nil {l cs : List UInt8} : Lib.trimS l cs = [] ↔ l.all (fun c => cs.contains c) = true := by
  constructor
  · intro h
    have h1 : (Lib.trimS l cs).filter (fun c => !cs.contains c) = l.filter (fun c => !cs.contains c) := by
      unfold Lib.trimS Lib.trimLeftS Lib.trimRightS
      rw [filter_dropWhile, List.filter_reverse, filter_dropWhile, ← List.filter_reverse, List.reverse_reverse]
    rw [h] at h1
    rw [List.all_eq_true]
    intro c hc
    cases hp : cs.contains c
    · have : c ∈ l.filter (fun c => !cs.contains c) := List.mem_filter.2 ⟨hc, by rw [hp]; rfl⟩
      rw [← h1] at this
      simp at this
    · rfl
  · intro h
    rw [List.all_eq_true] at h
    have h1 : l.reverse.dropWhile (fun c => cs.contains c) = [] := dropWhile_all fun c hc => h c (List.mem_reverse.1 hc)
    unfold Lib.trimS Lib.trimLeftS Lib.trimRightS
    rw [h1]; rfl
theorem full_of {s : ByteArray} (h : okFence s = true) : s.data.toList.all (fun c => ([97, 98, 99, 100, 101] : List UInt8).contains c) = fullT s := by
  have key : ∀ c : UInt8, okB c = true → ([97, 98, 99, 100, 101] : List UInt8).contains c = decide (c ≠ 46) := fun c hc => by
    have h : ∀ n : Fin 256, okB (UInt8.ofNat n.val) = true → ([97, 98, 99, 100, 101] : List UInt8).contains (UInt8.ofNat n.val) = decide (UInt8.ofNat n.val ≠ 46) := by decide +kernel
    have h2 := h ⟨c.toNat, c.toNat_lt⟩
    rw [show UInt8.ofNat c.toNat = c by simp] at h2
    exact h2 hc
  unfold okFence at h
  rw [Bool.and_eq_true] at h
  have hall := List.all_eq_true.1 h.2
  unfold fullT
  rw [Bool.eq_iff_iff, List.all_eq_true, List.all_eq_true]
  constructor
  · exact fun hx c hc => by rw [← key c (hall c hc)]; exact hx c hc
  · exact fun hx c hc => by rw [key c (hall c hc)]; exact hx c hc

set_option maxHeartbeats 1000000 in
theorem hasTints_any (s : ByteArray) (w : World) (hok : okFence s = true) :
    Calls Tryd.prog 33 #[.string s, .int .i64 5] w fun e w' => e = .returned (.bool (fullT s)) ∧ Below w.heap.size w w' := by
  have hz := okFence_size hok
  have HT := Lib.hid fun W => Any.strings_Trim_laid Tryd.lays160 (by kernel_rfl) s ⟨#[97, 98, 99, 100, 101]⟩ W (by omega) (by decide) (fun j b hb => by
    have hm : b ∈ ([97, 98, 99, 100, 101] : List UInt8) := List.mem_iff_getElem?.2 ⟨j, hb⟩
    simp only [List.mem_cons, List.not_mem_nil, or_false] at hm
    rcases hm with rfl | rfl | rfl | rfl | rfl <;> decide)
  have hF := full_of hok
  have hN := trimS_nil (l := s.data.toList) (cs := [97, 98, 99, 100, 101])
  rw [hF] at hN
  obtain ⟨T, hT⟩ : ∃ T, T = Lib.trimS s.data.toList [97, 98, 99, 100, 101] := ⟨_, rfl⟩
  rw [← hT] at hN
  have HT2 : Hid (∀ W, Calls Tryd.prog 52 #[.string s, .string ⟨#[97, 98, 99, 100, 101]⟩] W fun e w' => e = .returned (.string ⟨T.toArray⟩) ∧ Below W.heap.size W w') := Lib.hid fun W => by rw [hT]; exact HT.out W
  clear HT hT hok hF
  cases hf : fullT s
  · have hne : T ≠ [] := fun h => by have := hN.1 h; rw [hf] at this; cases this
    have hq : (T == []) = false := by rw [beq_eq_false_iff_ne]; exact hne
    clear hN hf
    go_enter Tryd.func33, Tryd.ntmps33
    go_wp2_with fail
    refine (HT2.out _).mono ?_
    rintro e w1 ⟨rfl, hb⟩
    go_wp2
    go_ret
    exact ⟨rfl, hb⟩
  · obtain rfl : T = [] := hN.2 hf
    clear hN hf
    go_enter Tryd.func33, Tryd.ntmps33
    go_wp2_with fail
    refine (HT2.out _).mono ?_
    rintro e w1 ⟨rfl, hb⟩
    go_wp2
    go_ret
    exact ⟨rfl, hb⟩

def ipB (s : ByteArray) (around : Bool) : Bool := okFenceA s around && prT s around
theorem prT_split (s : ByteArray) (around : Bool) : prT s around = (fullT s && !(pairT s || (around && eqEnds s))) := by
  unfold prT; rw [allT_split]
  cases fullT s <;> cases pairT s <;> simp
theorem specIsProper_any (s : ByteArray) (around : Bool) (w : World) (hs : s.size ≤ maxLen) :
    Calls Tryd.prog 15 #[.string s, .bool around] w fun e w' => e = .returned (.tuple #[.bool (ipB s around), .bool (okFenceA s around)]) ∧ Below w.heap.size w w' := by
  unfold ipB
  have HC := Lib.hid fun W => coFence_any s around W hs
  cases h : okFenceA s around
  · rw [h] at HC
    clear h
    go_enter Tryd.func15, Tryd.ntmps15
    go_wp2_with (go_at_call 30; refine (HC.out _).mono ?_; rintro e w' ⟨rfl, rfl⟩)
    go_ret2
    exact ⟨rfl, Below.refl _ _⟩
  · rw [h] at HC
    have hz := okFence_size (okFenceA_parts h).1
    have HP := Lib.hid fun W => coProper_any s around W hz.2 hz.1
    obtain ⟨q, hq⟩ : ∃ q, q = prT s around := ⟨_, rfl⟩
    rw [← hq] at HP ⊢
    clear h hq
    go_enter Tryd.func15, Tryd.ntmps15
    go_wp2_with (first
      | (go_at_call 30; refine (HC.out _).mono ?_; rintro e w' ⟨rfl, rfl⟩)
      | (go_at_call 31; refine (HP.out _).mono ?_; rintro e w' ⟨rfl, d, rfl⟩))
    go_ret2
    exact ⟨rfl, below_drewN (Below.refl _ _) _⟩
theorem implIsProper_any (s : ByteArray) (around : Bool) (w : World) (hs : s.size ≤ maxLen) :
    Calls Tryd.prog 16 #[.string s, .bool around] w fun e w' => e = .returned (.tuple #[.bool (ipB s around), .bool (okFenceA s around)]) ∧ Below w.heap.size w w' := by
  unfold ipB
  have HC := Lib.hid fun W => isFenceOf_any s around W hs
  cases h : okFenceA s around
  · rw [h] at HC
    clear h
    go_enter Tryd.func16, Tryd.ntmps16
    go_wp2_with (go_at_call 32; refine (HC.out _).mono ?_; rintro e w' ⟨rfl, rfl⟩)
    go_ret2
    exact ⟨rfl, Below.refl _ _⟩
  · rw [h] at HC
    have hz := okFence_size (okFenceA_parts h).1
    have HT := Lib.hid fun W => hasTints_any s W (okFenceA_parts h).1
    have HP := Lib.hid fun W => hasPair_any s around W hz.2 hz.1
    rw [prT_split]
    obtain ⟨q, hq⟩ : ∃ q, q = (pairT s || (around && eqEnds s)) := ⟨_, rfl⟩
    rw [← hq] at HP ⊢
    clear h hq
    cases hf : fullT s
    · rw [hf] at HT
      clear hf
      go_enter Tryd.func16, Tryd.ntmps16
      go_wp2_with (first
        | (go_at_call 32; refine (HC.out _).mono ?_; rintro e w' ⟨rfl, rfl⟩)
        | (go_at_call 33; refine (HT.out _).mono ?_; rintro e w1 ⟨rfl, hb⟩))
      go_ret2
      exact ⟨rfl, hb⟩
    · rw [hf] at HT
      clear hf
      go_enter Tryd.func16, Tryd.ntmps16
      go_wp2_with (first
        | (go_at_call 32; refine (HC.out _).mono ?_; rintro e w' ⟨rfl, rfl⟩)
        | (go_at_call 33; refine (HT.out _).mono ?_; rintro e w1 ⟨rfl, hb⟩)
        | (go_at_call 34; refine (HP.out _).mono ?_; rintro e w' ⟨rfl, d, rfl⟩))
      go_ret2
      exact ⟨rfl, below_drewN hb _⟩

set_option maxHeartbeats 400000 in
theorem lawIsProper_walk (s : ByteArray) (around : Bool) (w : World) (hs : s.size ≤ maxLen) :
    Calls Tryd.prog 5 #[.string s, .bool around] w fun e w' => e = .returned (.bool true) ∧ Below w.heap.size w w' := by
  have hs0 := hs
  unfold maxLen at hs
  have S := Lib.hid fun W : World => specIsProper_any s around W hs0
  have I := Lib.hid fun W : World => implIsProper_any s around W hs0
  obtain ⟨p, hp⟩ : ∃ p, p = ipB s around := ⟨_, rfl⟩
  obtain ⟨q, hq⟩ : ∃ q, q = okFenceA s around := ⟨_, rfl⟩
  rw [← hp, ← hq] at S I
  clear hp hq
  by_cases h : s.size ≤ 1048576
  · go_enter Tryd.func5, Tryd.ntmps5
    go_wp2_with (first
      | (go_at_call 15; refine (S.out _).mono ?_; rintro e w1 ⟨rfl, hb1⟩)
      | (go_at_call 16; refine (I.out _).mono ?_; rintro e w2 ⟨rfl, hb2⟩))
    go_ret
    exact ⟨rfl, below_next hb1 hb2⟩
  · go_enter Tryd.func5, Tryd.ntmps5
    go_wp2
    go_ret
    exact ⟨rfl, Below.refl _ _⟩
end Go.Proofs.YtnijedmnjmeciaaDoor
